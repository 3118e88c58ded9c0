import Derived.Test.YtnneppkkmhjpbaaPaA
namespace Go.Proofs.Ytnneppkkmhjpbaa
open Go.RowKit

/-! PathsSpans, PathsGrow. -/
set_option maxRecDepth 100000 in
set_option maxHeartbeats 4000000 in
theorem paSpans (hS : PaSays) (p : Int) (w : World) (hp : I64 p) : Calls Try.prog 9 #[.int .i64 p] w fun e w' => e = .returned (.bool true) ∧ Below w.heap.size w w' := by
  have CA := Lib.hid fun W => paAwake hS W
  have CS := Lib.hid fun q W (h : I64 q) => hS.span q W h
  have HP := Lib.hid hp
  clear hS
  by_cases h0 : 0 ≤ p
  rotate_left
  · have C1 := Lib.hid fun W => CS.out p W hp
    rw [show spanN p = 0 by unfold spanN; rw [if_neg (by omega), if_neg (by omega), if_neg (by omega), if_neg (by omega)]] at C1
    have d0 : decide (p < 0) = true := by simp; omega
    have e0 : p < 0 := by omega
    clear hp CS HP
    go_enter Try.func9, Try.ntmps9
    go_wp2_with (first
      | (go_at_call 28; with_reducible refine (CA.out _).mono ?_; rintro e w2 ⟨rfl, hb⟩; have B := Lib.hid hb; clear hb)
      | (go_at_call 18; with_reducible refine (C1.out _).mono ?_; rintro e w3 ⟨rfl, hb⟩; replace B := Lib.hid (low_go B.out hb); clear hb))
    go_ret
    exact ⟨rfl, B.out⟩
  have d0 : decide (p < 0) = false := by simp; omega
  have e0 : ¬ p < 0 := by omega
  by_cases h3 : p ≤ 3
  rotate_left
  · have C1 := Lib.hid fun W => CS.out p W hp
    rw [show spanN p = 0 by unfold spanN; rw [if_neg (by omega), if_neg (by omega), if_neg (by omega), if_neg (by omega)]] at C1
    have d3 : decide (3 < p) = true := by simp; omega
    have e3 : 3 < p := by omega
    clear hp CS HP
    go_enter Try.func9, Try.ntmps9
    go_wp2_with (first
      | (go_at_call 28; with_reducible refine (CA.out _).mono ?_; rintro e w2 ⟨rfl, hb⟩; have B := Lib.hid hb; clear hb)
      | (go_at_call 18; with_reducible refine (C1.out _).mono ?_; rintro e w3 ⟨rfl, hb⟩; replace B := Lib.hid (low_go B.out hb); clear hb))
    go_ret
    exact ⟨rfl, B.out⟩
  have S0 : Hid (∀ W, Calls Try.prog 18 #[.int .i64 0] W fun e w' => e = .returned (.int .i64 1) ∧ Below W.heap.size W w') := Lib.hid fun W => CS.out 0 W ⟨by decide, by decide⟩
  have S1 : Hid (∀ W, Calls Try.prog 18 #[.int .i64 1] W fun e w' => e = .returned (.int .i64 64) ∧ Below W.heap.size W w') := Lib.hid fun W => CS.out 1 W ⟨by decide, by decide⟩
  have S2 : Hid (∀ W, Calls Try.prog 18 #[.int .i64 2] W fun e w' => e = .returned (.int .i64 4096) ∧ Below W.heap.size W w') := Lib.hid fun W => CS.out 2 W ⟨by decide, by decide⟩
  have S3 : Hid (∀ W, Calls Try.prog 18 #[.int .i64 3] W fun e w' => e = .returned (.int .i64 262144) ∧ Below W.heap.size W w') := Lib.hid fun W => CS.out 3 W ⟨by decide, by decide⟩
  rcases (by omega : p = 0 ∨ p = 1 ∨ p = 2 ∨ p = 3) with rfl | rfl | rfl | rfl
  all_goals
    clear hp CS HP h0 h3 d0 e0
    go_enter Try.func9, Try.ntmps9
    go_wp2_with (first
      | (go_at_call 28; with_reducible refine (CA.out _).mono ?_; rintro e w2 ⟨rfl, hb⟩; have B := Lib.hid hb; clear hb)
      | (go_at_call 18; with_reducible refine (S0.out _).mono ?_; rintro e w3 ⟨rfl, hb⟩; replace B := Lib.hid (low_go B.out hb); clear hb)
      | (go_at_call 18; with_reducible refine (S1.out _).mono ?_; rintro e w3 ⟨rfl, hb⟩; replace B := Lib.hid (low_go B.out hb); clear hb)
      | (go_at_call 18; with_reducible refine (S2.out _).mono ?_; rintro e w3 ⟨rfl, hb⟩; replace B := Lib.hid (low_go B.out hb); clear hb)
      | (go_at_call 18; with_reducible refine (S3.out _).mono ?_; rintro e w3 ⟨rfl, hb⟩; replace B := Lib.hid (low_go B.out hb); clear hb))
    go_ret
    exact ⟨rfl, B.out⟩
theorem indir_ge (n : Int) : 0 ≤ indirN n := by
  rcases (by omega : n ≤ 65536 ∨ 65536 < n) with q | q
  · exact (indir_le q).1
  · rw [indir_far (by omega)]; exact (indir_le (Int.le_refl _)).1
theorem trail_le (x : List Int) : trail x ≤ x.length := by
  induction x with
  | nil => exact Nat.le_refl _
  | cons a l ih =>
    rw [trail]
    split
    · simp; omega
    · simp; omega
set_option maxRecDepth 100000 in
set_option maxHeartbeats 4000000 in
theorem paGrow (hS : PaSays) (n : Int) (w : World) (hn : I64 n) : Calls Try.prog 12 #[.int .i64 n] w fun e w' => e = .returned (.bool true) ∧ Below w.heap.size w w' := by
  have CA := Lib.hid fun W => paAwake hS W
  have C1 := Lib.hid fun W => hS.indirect n W hn
  have CI := Lib.hid fun q W (h : I64 q) => hS.indirect q W h
  clear hS
  by_cases h0 : 0 ≤ n
  rotate_left
  · have g1 := indir_ge n
    have g2 : decide (0 ≤ indirN n) = true := by simpa using g1
    generalize indirN n = a at *
    have d0 : decide (n < 0) = true := by simp; omega
    have e0 : n < 0 := by omega
    clear hn h0 CI
    go_enter Try.func12, Try.ntmps12
    go_wp2_with (first
      | (go_at_call 28; with_reducible refine (CA.out _).mono ?_; rintro e w2 ⟨rfl, hb⟩; have B := Lib.hid hb; clear hb)
      | (go_at_call 24; with_reducible refine (C1.out _).mono ?_; rintro e w3 ⟨rfl, hb⟩; replace B := Lib.hid (low_go B.out hb); clear hb))
    go_ret
    exact ⟨rfl, B.out⟩
  have d0 : decide (n < 0) = false := by simp; omega
  have e0 : ¬ n < 0 := by omega
  by_cases h1 : n < 65536
  rotate_left
  · have g1 := indir_ge n
    have g2 : decide (0 ≤ indirN n) = true := by simpa using g1
    generalize indirN n = a at *
    have d1 : decide (65536 ≤ n) = true := by simp; omega
    have e1 : 65536 ≤ n := by omega
    clear hn h0 h1 CI
    go_enter Try.func12, Try.ntmps12
    go_wp2_with (first
      | (go_at_call 28; with_reducible refine (CA.out _).mono ?_; rintro e w2 ⟨rfl, hb⟩; have B := Lib.hid hb; clear hb)
      | (go_at_call 24; with_reducible refine (C1.out _).mono ?_; rintro e w3 ⟨rfl, hb⟩; replace B := Lib.hid (low_go B.out hb); clear hb))
    go_ret
    exact ⟨rfl, B.out⟩
  have d1 : decide (65536 ≤ n) = false := by simp; omega
  have e1 : ¬ 65536 ≤ n := by omega
  have MI : MayI n := ⟨h0, h1⟩
  have C2 := Lib.hid fun W => CI.out (n + 1) W ⟨by have := hn.1; omega, by omega⟩
  have st := indir_step MI
  have tl := trail_le (wayN n).2
  have sh := way_short MI
  obtain ⟨a0, a1⟩ := indir_le (n := n) (by omega)
  have wn : IntKind.i64.wrap (n + 1) = n + 1 := by rw [IntKind.wrap_i64]; omega
  have z8 : n < 8 → indirN (n + 1) = 0 := fun q => indir_0 (by omega)
  have z9 : n = 8 → indirN (n + 1) = 1 := fun q => indir_1 (by omega) (by omega)
  generalize indirN n = a at *
  generalize indirN (n + 1) = b at *
  have wa : IntKind.i64.wrap (a + 3) = a + 3 := by rw [IntKind.wrap_i64]; omega
  have g1 : decide (a ≤ b) = true := by simp; omega
  have g2 : a ≤ b := by omega
  have g3 : decide (b ≤ a + 3) = true := by simp; omega
  have g4 : b ≤ a + 3 := by omega
  rcases (by omega : n < 8 ∨ n = 8 ∨ 8 < n) with q | q | q
  · have k1 : decide (8 ≤ n) = false := by simp; omega
    have k2 : ¬ 8 ≤ n := by omega
    have k3 : (n != 8) = true := by rw [bne_iff_ne]; omega
    have k4 : (n == 8) = false := by rw [beq_eq_false_iff_ne]; omega
    obtain rfl : b = 0 := z8 q
    clear st tl sh a0 a1 z8 z9 hn h0 h1 CI q MI
    go_enter Try.func12, Try.ntmps12
    go_wp2_with (first
      | (go_at_call 28; with_reducible refine (CA.out _).mono ?_; rintro e w2 ⟨rfl, hb⟩; have B := Lib.hid hb; clear hb)
      | (go_at_call 24; with_reducible refine (C1.out _).mono ?_; rintro e w3 ⟨rfl, hb⟩; replace B := Lib.hid (low_go B.out hb); clear hb)
      | (go_at_call 24; with_reducible refine (C2.out _).mono ?_; rintro e w4 ⟨rfl, hb⟩; replace B := Lib.hid (low_go B.out hb); clear hb))
    go_ret
    exact ⟨rfl, B.out⟩
  · obtain rfl : b = 1 := z9 q
    subst q
    clear st tl sh a0 a1 z8 z9 hn h0 h1 CI MI d0 e0 d1 e1 wn
    go_enter Try.func12, Try.ntmps12
    go_wp2_with (first
      | (go_at_call 28; with_reducible refine (CA.out _).mono ?_; rintro e w2 ⟨rfl, hb⟩; have B := Lib.hid hb; clear hb)
      | (go_at_call 24; with_reducible refine (C1.out _).mono ?_; rintro e w3 ⟨rfl, hb⟩; replace B := Lib.hid (low_go B.out hb); clear hb)
      | (go_at_call 24; refine (C2.out _).mono ?_; rintro e w4 ⟨rfl, hb⟩; replace B := Lib.hid (low_go B.out hb); clear hb))
    go_ret
    exact ⟨rfl, B.out⟩
  · have k1 : decide (8 ≤ n) = true := by simp; omega
    have k2 : 8 ≤ n := by omega
    have k3 : (n != 8) = true := by rw [bne_iff_ne]; omega
    have k4 : (n == 8) = false := by rw [beq_eq_false_iff_ne]; omega
    clear st tl sh a0 a1 z8 z9 hn h0 h1 CI q MI
    go_enter Try.func12, Try.ntmps12
    go_wp2_with (first
      | (go_at_call 28; with_reducible refine (CA.out _).mono ?_; rintro e w2 ⟨rfl, hb⟩; have B := Lib.hid hb; clear hb)
      | (go_at_call 24; with_reducible refine (C1.out _).mono ?_; rintro e w3 ⟨rfl, hb⟩; replace B := Lib.hid (low_go B.out hb); clear hb)
      | (go_at_call 24; with_reducible refine (C2.out _).mono ?_; rintro e w4 ⟨rfl, hb⟩; replace B := Lib.hid (low_go B.out hb); clear hb))
    go_ret
    exact ⟨rfl, B.out⟩
end Go.Proofs.Ytnneppkkmhjpbaa
