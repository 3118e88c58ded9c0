import Derived.Test.YtfijagjkgmhimaaInoA
import Derived.Test.YtfijagjkgmhimaaInoLow
namespace Go.Proofs.Ytfijagjkgmhimaa
open Go.RowKit

/-! The law InodeBounds. -/
theorem bounds_fits (k : Nat) (l s : Int) (hk : k < 256) (l0 : -9223372036854775808 ≤ l) (l1 : l ≤ 9223372036854775807) (s0 : -9223372036854775808 ≤ s) (s1 : s ≤ 9223372036854775807) : (⟨k, l, 0, s, .zero, 0⟩ : InoV).Fits :=
  ⟨hk, ⟨l0, l1⟩, Nat.zero_lt_succ _, ⟨s0, s1⟩, Nat.zero_lt_succ _⟩
theorem boundsF (l s : Int) : mayB ⟨1, l, 0, s, .zero, 0⟩ = (toB l 1000 && toB s 16777216) := mayB_1 rfl
theorem boundsD (l s : Int) : mayB ⟨2, l, 0, s, .zero, 0⟩ = (decide (l = 1) && (decide (s.tmod 256 = 0) && toB s 16777216)) := by
  rw [mayB_2 rfl, Bool.eq_iff_iff]
  unfold toB
  simp only [Bool.and_eq_true, decide_eq_true_iff]
  constructor
  · rintro ⟨h1, h2, h3, h4, h5⟩; exact ⟨h1, h2, h5⟩
  · rintro ⟨h1, h2, h5⟩; exact ⟨h1, h2, trivial, ⟨by omega, by omega⟩, h5⟩
theorem boundsR (l s : Int) : mayB ⟨0, l, 0, s, .zero, 0⟩ = (decide (l = 0) && decide (s = 0)) := by
  rw [mayB_0 rfl, Bool.eq_iff_iff]
  simp only [Bool.and_eq_true, decide_eq_true_iff, InoV.eq_iff]
  constructor
  · rintro ⟨_, h1, _, h2, _⟩; exact ⟨h1, h2⟩
  · rintro ⟨h1, h2⟩; exact ⟨trivial, h1, trivial, h2, trivial, trivial⟩
set_option maxRecDepth 100000 in
set_option maxHeartbeats 4000000 in
theorem inodeBounds_any (hS : ISays) (l s : Int) (w : World) (l0 : -9223372036854775808 ≤ l) (l1 : l ≤ 9223372036854775807) (s0 : -9223372036854775808 ≤ s) (s1 : s ≤ 9223372036854775807) :
    Calls Try.prog 9 #[.int .i64 l, .int .i64 s] w fun e w' => e = .returned (.bool true) ∧ Below w.heap.size w w' := by
  have CA := Lib.hid fun W => iAwake_any hS W
  obtain ⟨F, eF⟩ : ∃ F, mayB ⟨1, l, 0, s, .zero, 0⟩ = F := ⟨_, rfl⟩
  obtain ⟨D, eD⟩ : ∃ D, mayB ⟨2, l, 0, s, .zero, 0⟩ = D := ⟨_, rfl⟩
  obtain ⟨R, eR⟩ : ∃ R, mayB ⟨0, l, 0, s, .zero, 0⟩ = R := ⟨_, rfl⟩
  have CF : Hid (∀ W, Calls Try.prog 12 #[.agg (ics ⟨1, l, 0, s, .zero, 0⟩)] W fun e w' => e = .returned (.bool F) ∧ Below W.heap.size W w') := Lib.hid fun W => by have := hS.may ⟨1, l, 0, s, .zero, 0⟩ W (bounds_fits _ l s (by decide) l0 l1 s0 s1); rwa [eF] at this
  have CD : Hid (∀ W, Calls Try.prog 12 #[.agg (ics ⟨2, l, 0, s, .zero, 0⟩)] W fun e w' => e = .returned (.bool D) ∧ Below W.heap.size W w') := Lib.hid fun W => by have := hS.may ⟨2, l, 0, s, .zero, 0⟩ W (bounds_fits _ l s (by decide) l0 l1 s0 s1); rwa [eD] at this
  have CR : Hid (∀ W, Calls Try.prog 12 #[.agg (ics ⟨0, l, 0, s, .zero, 0⟩)] W fun e w' => e = .returned (.bool R) ∧ Below W.heap.size W w') := Lib.hid fun W => by have := hS.may ⟨0, l, 0, s, .zero, 0⟩ W (bounds_fits _ l s (by decide) l0 l1 s0 s1); rwa [eR] at this
  rw [boundsF] at eF
  rw [boundsD] at eD
  rw [boundsR] at eR
  have EF := Lib.hid eF
  have ED := Lib.hid eD
  have ER := Lib.hid eR
  clear hS eF eD eR
  go_enter Try.func9, Try.ntmps9
  go_upto_region 3 with (go_at_call 16; with_reducible refine (CA.out _).mono ?_; rintro e w2 ⟨rfl, hb⟩)
  have B2 := Lib.hid hb
  clear hb CA
  go_cut [5] from 11 to 16 (fun s5 wx => s5 = .bool (toB s 16777216) ∧ Below w.heap.size w wx)
  case first =>
    by_cases q : 0 ≤ s
    · have d0 : decide (0 ≤ s) = true := by simpa using q
      have E := Lib.hid (show toB s 16777216 = decide (s ≤ 16777216) by unfold toB; rw [Bool.eq_iff_iff, decide_eq_true_iff, decide_eq_true_iff]; omega)
      clear q
      go_wp2
      go_meet
      exact ⟨by rw [E.out], B2.out⟩
    · have d0 : decide (0 ≤ s) = false := by simpa using q
      have E := Lib.hid (show toB s 16777216 = false by unfold toB; rw [decide_eq_false_iff_not]; omega)
      clear q
      go_wp2
      go_meet
      exact ⟨by rw [E.out], B2.out⟩
  case rest =>
    obtain ⟨hcut, hlow⟩ := hcut
    have B3 := Lib.hid hlow
    clear hlow B2
    obtain ⟨W, eW⟩ : ∃ W, toB s 16777216 = W := ⟨_, rfl⟩
    rw [eW] at hcut EF ED
    have EW := Lib.hid eW
    clear eW
    subst hcut
    go_upto_region 7 with (first
      | (refine build_ino013 rfl (.const (.int .u8 1)) (.tmp 17) (.tmp 18) rfl 1 l s rfl rfl rfl ?_)
      | (refine build_ino013 rfl (.const (.int .u8 2)) (.tmp 21) (.tmp 22) rfl 2 l s rfl rfl rfl ?_)
      | (refine build_ino13 rfl (.tmp 25) (.tmp 26) rfl l s rfl rfl ?_)
      | (go_at_call 12; with_reducible refine (CF.out _).mono ?_; rintro e w3 ⟨rfl, hb⟩)
      | (go_at_call 12; with_reducible refine (CD.out _).mono ?_; rintro e w4 ⟨rfl, hc⟩)
      | (go_at_call 12; with_reducible refine (CR.out _).mono ?_; rintro e w5 ⟨rfl, hd⟩))
    have B5 := Lib.hid (low_go (low_go (low_go B3.out hb) hc) hd)
    clear CF CD CR hb hc hd B3
    have EF1 := EF.out
    have ED1 := ED.out
    have ER1 := ER.out
    have EW1 := EW.out
    clear EF ED ER EW
    unfold toB at EF1 EW1
    rcases W with _ | _
    · obtain rfl : F = false := by rw [← EF1]; simp
      obtain rfl : D = false := by rw [← ED1]; simp
      have hs0 : s ≠ 0 := by rintro rfl; simp at EW1
      obtain rfl : R = false := by rw [← ER1]; simp [hs0]
      have t1 : (s == 0) = false := by simpa using hs0
      clear EF1 ED1 ER1 EW1 hs0
      by_cases q : l = 0
      · have t2 : (l == 0) = true := by simpa using q
        clear q
        go_wp2
        go_ret
        exact ⟨rfl, B5.out⟩
      · have t2 : (l == 0) = false := by simpa using q
        clear q
        go_wp2
        go_ret
        exact ⟨rfl, B5.out⟩
    · simp only [decide_eq_true_eq] at EW1
      by_cases q0 : 0 ≤ l
      rotate_left
      · obtain rfl : F = false := by rw [← EF1]; simp; omega
        obtain rfl : D = false := by rw [← ED1]; simp; omega
        obtain rfl : R = false := by rw [← ER1]; simp; omega
        have t1 : decide (0 ≤ l) = false := by simp; omega
        have t2 : (l == 1) = false := by simp; omega
        have t3 : (l == 0) = false := by simp; omega
        clear EF1 ED1 ER1 EW1 q0
        go_wp2
        go_ret
        exact ⟨rfl, B5.out⟩
      have u1 : decide (0 ≤ l) = true := by simpa using q0
      by_cases q1 : l = 0
      · subst q1
        obtain rfl : F = true := by rw [← EF1]; simp
        obtain rfl : D = false := by rw [← ED1]; simp
        obtain rfl : R = (s == 0) := by rw [← ER1]; simp; rw [Bool.eq_iff_iff]; simp
        clear EF1 ED1 ER1 EW1 q0 u1
        go_wp2
        go_ret
        exact ⟨by simp, B5.out⟩
      have u2 : (l == 0) = false := by simpa using q1
      obtain rfl : R = false := by rw [← ER1]; simp [q1]
      by_cases q2 : l = 1
      · subst q2
        obtain rfl : F = true := by rw [← EF1]; simp
        obtain rfl : D = (s.tmod 256 == 0) := by rw [← ED1]; simp; rw [Bool.eq_iff_iff]; simp
        clear EF1 ED1 ER1 EW1 q0 u1 u2 q1
        go_wp2
        go_ret
        exact ⟨by simp, B5.out⟩
      have u3 : (l == 1) = false := by simpa using q2
      obtain rfl : D = false := by rw [← ED1]; simp [q2]
      by_cases q3 : l ≤ 1000
      · obtain rfl : F = true := by rw [← EF1]; simp; omega
        have t1 : decide (l ≤ 1000) = true := by simpa using q3
        clear EF1 ED1 ER1 EW1 q0 q1 q2 q3
        go_wp2
        go_ret
        exact ⟨rfl, B5.out⟩
      · obtain rfl : F = false := by rw [← EF1]; simp; omega
        have t1 : decide (l ≤ 1000) = false := by simpa using q3
        clear EF1 ED1 ER1 EW1 q0 q1 q2 q3
        go_wp2
        go_ret
        exact ⟨rfl, B5.out⟩
end Go.Proofs.Ytfijagjkgmhimaa
