import Derived.Test.YtjiooadakklmlaaNums3
namespace Go.Proofs.Ytjiooadakklmlaa
open Go.RowKit

theorem ret_num_yes' {k : IntKind} {a b : Int} (h : a = b) : Ending.returned (.tuple #[.int k a, .bool true]) = .returned (.tuple #[.int k b, .bool true]) := by rw [h]

set_option maxHeartbeats 400000 in
theorem rGet32_yes (A : Option Addr) (n c : Nat) (at_ : Int) (f : Nat → Nat) (w : World) (hn : n ≤ 140737488355328) (hR : Row w A n f) (h0 : 0 ≤ at_) (h1 : at_ ≤ n - 4) :
    Calls Try.prog 65 #[.slice A n c, .int .i64 at_] w fun e w' => e = .returned (.tuple #[.int .u32 (g32 f at_.toNat : Nat), .bool true]) ∧ ∃ d, w' = w.drewN d := by
  obtain ⟨a, rfl⟩ := Int.eq_ofNat_of_zero_le h0
  rw [Int.toNat_natCast]
  obtain ⟨b, o, rfl, hb, hc⟩ := hR.2 (by omega)
  have c3 := hc (a + 3) (by omega)
  have c2 := hc (a + 2) (by omega)
  have c1 := hc (a + 1) (by omega)
  have c0 := hc a (by omega)
  have b0 := hR.1 a
  have b1 := hR.1 (a + 1)
  have b2 := hR.1 (a + 2)
  have b3 := hR.1 (a + 3)
  clear hc hR hb
  have l1 : decide ((n : Int) < 4) = false := by simp; omega
  have l2 : decide ((n : Int) - 4 < a) = false := by simp; omega
  have l3 : (a : Int) < n := by omega
  have l4 : (a : Int) + 1 < n := by omega
  have l5 : (a : Int) + 2 < n := by omega
  have l6 : (a : Int) + 3 < n := by omega
  go_enter Try.func65, Try.ntmps65
  go_wp2
  go_quiet (fail)
  go_wp2
  go_ret2
  refine ⟨ret_num_yes' ?_, _, rfl⟩
  unfold g32
  omega

set_option maxHeartbeats 400000 in
theorem rGet32_no (A : Option Addr) (n c : Nat) (at_ : Int) (w : World) (hn : n ≤ 140737488355328) (h : at_ < 0 ∨ (n : Int) - 4 < at_) :
    Calls Try.prog 65 #[.slice A n c, .int .i64 at_] w fun e w' => e = .returned (.tuple #[.int .u32 0, .bool false]) ∧ ∃ d, w' = w.drewN d := by
  by_cases h0 : at_ < 0
  · clear h
    go_enter Try.func65, Try.ntmps65
    go_wp2
    go_ret2
    exact ⟨rfl, 0, rfl⟩
  · have h1 : (n : Int) - 4 < at_ := by omega
    have d0 : decide (at_ < 0) = false := by simp; omega
    clear h
    by_cases h2 : (n : Int) < 4
    · have d1 : decide ((n : Int) < 4) = true := by simp; omega
      clear h1 h0
      go_enter Try.func65, Try.ntmps65
      go_wp2
      go_ret2
      exact ⟨rfl, 0, rfl⟩
    · have d1 : decide ((n : Int) < 4) = false := by simp; omega
      have d2 : decide ((n : Int) - 4 < at_) = true := by simp; omega
      clear h0
      go_enter Try.func65, Try.ntmps65
      go_wp2
      go_ret2
      exact ⟨rfl, 0, rfl⟩

set_option maxHeartbeats 400000 in
theorem rPut32_yes (A : Option Addr) (n c N base : Nat) (at_ v : Int) (f : Nat → Nat) (w : World) (hn : n ≤ 140737488355328) (hN : n ≤ N) (hR : Own w base A N f) (h0 : 0 ≤ at_) (h1 : at_ ≤ n - 4) (hv0 : 0 ≤ v) (hv1 : v < 4294967296) :
    Calls Try.prog 53 #[.slice A n c, .int .i64 at_, .int .u32 v] w fun e w' => e = .returned (.bool true) ∧ Own w' base A N (p32 f at_.toNat v.toNat) ∧ ∀ g o, A = some ⟨g, o, none⟩ → Only g w w' := by
  have HR := Lib.hid (hR.row hN)
  obtain ⟨a, rfl⟩ := Int.eq_ofNat_of_zero_le h0
  obtain ⟨x, rfl⟩ := Int.eq_ofNat_of_zero_le hv0
  rw [Int.toNat_natCast, Int.toNat_natCast]
  obtain ⟨g, o, rfl, hb, hc⟩ := hR.2 (by omega)
  have c3 := hc.cell (a + 3) (by omega)
  have c2 := hc.cell (a + 2) (by omega)
  have c1 := hc.cell (a + 1) (by omega)
  have c0 := hc.cell a (by omega)
  have z3 := hc.frozen (o + (a + 3))
  have z2 := hc.frozen (o + (a + 2))
  have z1 := hc.frozen (o + (a + 1))
  have z0 := hc.frozen (o + a)
  go_enter Try.func53, Try.ntmps53
  go_wp2_with (go_at_call 65; refine (rGet32_yes _ _ _ _ _ _ hn HR.out (by omega) (by omega)).mono ?_; rintro e w' ⟨rfl, d, rfl⟩)
  refine wp_loop_rounds 5 ?_
  iterate 5 (rw [rounds_succ]; go_wp2)
  go_ret
  obtain ⟨q1, q2⟩ := put32_end (w := w.drewN d) hb hc hR.1 a x (by omega) (↑x % 256) (↑x / 256 % 256) (↑x / 256 / 256 % 256) (↑x / 256 / 256 / 256 % 256) (by omega) (by omega) (by omega) (by omega)
  exact ⟨rfl, q1, fun g' o' e => (Only.drewN _ _ _).trans (q2 g' o' e)⟩

set_option maxHeartbeats 400000 in
theorem rPut32_no (A : Option Addr) (n c : Nat) (at_ v : Int) (w : World) (hn : n ≤ 140737488355328) (h : at_ < 0 ∨ (n : Int) - 4 < at_) :
    Calls Try.prog 53 #[.slice A n c, .int .i64 at_, .int .u32 v] w fun e w' => e = .returned (.bool false) ∧ ∃ d, w' = w.drewN d := by
  have H := Lib.hid h
  clear h
  go_enter Try.func53, Try.ntmps53
  go_wp2_with (go_at_call 65; refine (rGet32_no _ _ _ _ _ hn H.out).mono ?_; rintro e w' ⟨rfl, d, rfl⟩)
  go_ret
  exact ⟨rfl, _, rfl⟩

set_option maxHeartbeats 400000 in
theorem rZero_yes (A : Option Addr) (n c : Nat) (f : Nat → Nat) (w : World) (hn : n ≤ 140737488355328) (hR : Row w A n f) (hz : ∀ i, i < n → f i = 0) :
    Calls Try.prog 49 #[.slice A n c] w fun e w' => e = .returned (.bool true) ∧ w = w' := by
  have H := Lib.hid hR
  have Z := Lib.hid hz
  clear hR hz
  go_enter Try.func49, Try.ntmps49
  go_wp2
  go_loop [3] (fun i => ∃ k : Nat, k ≤ n ∧ i = .int .i64 k) (fun i => n - (intOf i).toNat)
  case atStart => exact ⟨0, Nat.zero_le _, rfl⟩
  case round =>
    obtain ⟨k, hk, rfl⟩ := hrel
    by_cases hlt : k < n
    · obtain ⟨b, o, rfl, _, hc⟩ := H.out.2 (by omega)
      have ck := hc k hlt
      rw [Z.out k hlt] at ck
      clear hc
      go_wp2
      go_round
      case rel => exact ⟨k + 1, by omega, by go_num⟩
      case measure => simp [intOf]; omega
    · go_wp2
      go_ret
      exact ⟨rfl, rfl⟩

set_option maxHeartbeats 400000 in
theorem rZero_no (A : Option Addr) (n c : Nat) (f : Nat → Nat) (w : World) (j : Nat) (hn : n ≤ 140737488355328) (hR : Row w A n f) (hj : j < n) (hz : 0 < f j) :
    Calls Try.prog 49 #[.slice A n c] w fun e w' => e = .returned (.bool false) ∧ w = w' := by
  obtain ⟨b, o, rfl, _, hc⟩ := hR.2 (by omega)
  have H := Lib.hid hc
  have Z := Lib.hid hz
  clear hR hz hc
  go_enter Try.func49, Try.ntmps49
  go_wp2
  go_loop [3] (fun i => ∃ k : Nat, k ≤ j ∧ i = .int .i64 k) (fun i => n - (intOf i).toNat)
  case atStart => exact ⟨0, Nat.zero_le _, rfl⟩
  case round =>
    obtain ⟨k, hk, rfl⟩ := hrel
    have ck := H.out k (by omega)
    by_cases hlt : f k = 0
    · have hkj : k < j := by
        rcases Nat.lt_or_ge k j with h | h
        · exact h
        · have : k = j := by omega
          subst this
          have := Z.out
          omega
      rw [hlt] at ck
      clear hlt
      go_wp2
      go_round
      case rel => exact ⟨k + 1, by omega, by go_num⟩
      case measure => simp [intOf]; omega
    · have hp : 0 < f k := by omega
      clear hlt
      go_wp2
      go_ret
      exact ⟨rfl, rfl⟩

end Go.Proofs.Ytjiooadakklmlaa
