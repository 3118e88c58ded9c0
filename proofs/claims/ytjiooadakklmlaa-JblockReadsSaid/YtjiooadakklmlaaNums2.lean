import Derived.Test.YtjiooadakklmlaaNums0
import Derived.Test.YtjiooadakklmlaaNumsOwn
namespace Go.Proofs.Ytjiooadakklmlaa
open Go.RowKit

set_option maxHeartbeats 400000 in
theorem put32_yes (A : Option Addr) (n c N base : Nat) (at_ v : Int) (f : Nat → Nat) (w : World) (hn : n ≤ 140737488355328) (hN : n ≤ N) (hR : Own w base A N f) (h0 : 0 ≤ at_) (h1 : at_ ≤ n - 4) (hv0 : 0 ≤ v) (hv1 : v < 4294967296) :
    Calls Try.prog 66 #[.slice A n c, .int .i64 at_, .int .u32 v] w fun e w' => e = .returned (.bool true) ∧ Own w' base A N (p32 f at_.toNat v.toNat) ∧ ∀ g o, A = some ⟨g, o, none⟩ → Only g w w' := by
  obtain ⟨a, rfl⟩ := Int.eq_ofNat_of_zero_le h0
  obtain ⟨x, rfl⟩ := Int.eq_ofNat_of_zero_le hv0
  rw [Int.toNat_natCast, Int.toNat_natCast]
  obtain ⟨g, o, rfl, hb, hc⟩ := hR.2 (by omega)
  have c3 := hc.cell (a + 3) (by omega)
  have c2 := hc.cell (a + 2) (by omega)
  have c1 := hc.cell (a + 1) (by omega)
  have c0 := hc.cell a (by omega)
  have z3 := hc.frozen (o + (a + 3))
  have z2 := hc.frozen (o + (a + 2))
  have z1 := hc.frozen (o + (a + 1))
  have z0 := hc.frozen (o + a)
  go_enter Try.func66, Try.ntmps66
  go_wp2_with (first | (go_at_call 68; refine (w32_any _).mono ?_; rintro e w' ⟨rfl, rfl⟩) | (go_at_call 69; refine (within_yes _ _ _ _ _ _ (by omega) (by omega) (by omega) (by omega) (by omega)).mono ?_; rintro e w' ⟨rfl, rfl⟩))
  refine wp_loop_rounds 5 ?_
  iterate 5 (rw [rounds_succ]; go_wp2)
  go_ret
  exact ⟨rfl, put32_end hb hc hR.1 a x (by omega) _ _ _ _ (by omega) (by omega) (by omega) (by omega)⟩

set_option maxHeartbeats 400000 in
theorem put32_no (A : Option Addr) (n c : Nat) (at_ v : Int) (w : World) (hn : n ≤ 140737488355328) (h : at_ < 0 ∨ (n : Int) - 4 < at_) :
    Calls Try.prog 66 #[.slice A n c, .int .i64 at_, .int .u32 v] w fun e w' => e = .returned (.bool false) ∧ w = w' := by
  have H := Lib.hid h
  clear h
  go_enter Try.func66, Try.ntmps66
  go_wp2_with (first | (go_at_call 68; refine (w32_any _).mono ?_; rintro e w' ⟨rfl, rfl⟩) | (go_at_call 69; refine (within_no _ _ _ _ _ _ (by omega) (by omega) (by omega) H.out).mono ?_; rintro e w' ⟨rfl, rfl⟩))
  go_ret
  exact ⟨rfl, rfl⟩

end Go.Proofs.Ytjiooadakklmlaa
