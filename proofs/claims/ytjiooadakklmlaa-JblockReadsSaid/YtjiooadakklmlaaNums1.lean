import Derived.Test.YtjiooadakklmlaaNums0
import Derived.Test.YtjiooadakklmlaaNumsMath
namespace Go.Proofs.Ytjiooadakklmlaa
open Go.RowKit

theorem ret_num_yes {k : IntKind} {a b : Int} (h : a = b) : Ending.returned (.tuple #[.int k a, .bool true]) = .returned (.tuple #[.int k b, .bool true]) := by rw [h]

set_option maxHeartbeats 400000 in
theorem get32_yes (A : Option Addr) (n c : Nat) (at_ : Int) (f : Nat → Nat) (w : World) (hn : n ≤ 140737488355328) (hR : Row w A n f) (h0 : 0 ≤ at_) (h1 : at_ ≤ n - 4) :
    Calls Try.prog 67 #[.slice A n c, .int .i64 at_] w fun e w' => e = .returned (.tuple #[.int .u32 (g32 f at_.toNat : Nat), .bool true]) ∧ w = w' := by
  obtain ⟨a, rfl⟩ := Int.eq_ofNat_of_zero_le h0
  rw [Int.toNat_natCast]
  obtain ⟨b, o, rfl, hb, hc⟩ := hR.2 (by omega)
  have c3 := hc (a + 3) (by omega)
  have c2 := hc (a + 2) (by omega)
  have c1 := hc (a + 1) (by omega)
  have c0 := hc a (by omega)
  have b0 := hR.1 a
  have b1 := hR.1 (a + 1)
  have b2 := hR.1 (a + 2)
  have b3 := hR.1 (a + 3)
  have H := Lib.hid (val32 _ _ _ _ b0 b1 b2 b3)
  clear hc hR hb
  go_enter Try.func67, Try.ntmps67
  go_wp2_with (first | (go_at_call 68; refine (w32_any _).mono ?_; rintro e w' ⟨rfl, rfl⟩) | (go_at_call 69; refine (within_yes _ _ _ _ _ _ (by omega) (by omega) (by omega) (by omega) (by omega)).mono ?_; rintro e w' ⟨rfl, rfl⟩))
  refine wp_loop_rounds 5 ?_
  iterate 5 (rw [rounds_succ]; go_wp2)
  go_ret2
  exact ⟨ret_num_yes H.out, rfl⟩

set_option maxHeartbeats 400000 in
theorem get32_no (A : Option Addr) (n c : Nat) (at_ : Int) (w : World) (hn : n ≤ 140737488355328) (h : at_ < 0 ∨ (n : Int) - 4 < at_) :
    Calls Try.prog 67 #[.slice A n c, .int .i64 at_] w fun e w' => e = .returned (.tuple #[.int .u32 0, .bool false]) ∧ w = w' := by
  have H := Lib.hid h
  clear h
  go_enter Try.func67, Try.ntmps67
  go_wp2_with (first | (go_at_call 68; refine (w32_any _).mono ?_; rintro e w' ⟨rfl, rfl⟩) | (go_at_call 69; refine (within_no _ _ _ _ _ _ (by omega) (by omega) (by omega) H.out).mono ?_; rintro e w' ⟨rfl, rfl⟩))
  go_ret2
  exact ⟨rfl, rfl⟩

end Go.Proofs.Ytjiooadakklmlaa
