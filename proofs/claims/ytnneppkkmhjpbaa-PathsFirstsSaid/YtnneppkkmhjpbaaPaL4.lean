import Derived.Test.YtnneppkkmhjpbaaPaA
namespace Go.Proofs.Ytnneppkkmhjpbaa
open Go.RowKit

/-! PathsBack. -/
theorem way_num {i : Int} (h : MayI i) : 0 ≤ (wayN i).1 ∧ (wayN i).1 ≤ 10 ∧ ((wayN i).2.length : Int) = levelN (wayN i).1 ∧ ∀ x ∈ (wayN i).2, 0 ≤ x ∧ x ≤ 63 := by
  have m := (way_may h).1
  exact ⟨m.lo, m.hi, m.len, m.num⟩
set_option maxRecDepth 100000 in
set_option maxHeartbeats 8000000 in
theorem paBack (hS : PaSays) (i p : Int) (A : Option Addr) (c : Nat) (l : List Int) (w : World) (hi : I64 i) (hp : I64 p) (hl : ∀ x ∈ l, I64 x) (hA : IntsAt w A l) : Calls Try.prog 5 #[.int .i64 i, .int .i64 p, .slice A l.length c] w fun e w' => e = .returned (.bool true) ∧ Below w.heap.size w w' := by
  have CA := Lib.hid fun W => paAwake hS W
  by_cases h : l.length ≤ 1000
  rotate_left
  · have d1 : decide ((1000 : Int) < (l.length : Int)) = true := by simp; omega
    have e1 : (1000 : Int) < (l.length : Int) := by omega
    clear hS hA
    go_enter Try.func5, Try.ntmps5
    go_wp2_with (go_at_call 28; with_reducible refine (CA.out _).mono ?_; rintro e w2 ⟨rfl, hb⟩)
    go_ret
    exact ⟨rfl, hb⟩
  have d1 : decide ((1000 : Int) < (l.length : Int)) = false := by simp; omega
  have e1 : ¬ (1000 : Int) < (l.length : Int) := by omega
  have H := Lib.hid hA
  have CX := Lib.hid fun W (q : IntsAt W A l) => hS.index p A c l W hp h hl q
  have X2 : Hid (∀ (_ : MayW p l) W, Calls Try.prog 14 #[.int .i64 (firstN p + placeN l 0)] W fun e w' => (∃ A c, e = .returned (.tuple #[.int .i64 p, .slice A l.length c, .int .i64 0]) ∧ IntsAt w' A l) ∧ Below W.heap.size W w') := Lib.hid fun m W => by
    obtain ⟨a, b⟩ := may_way m
    have := pa_of_yes hS a W
    rwa [b] at this
  have SM := Lib.hid fun B c c' W (q : IntsAt W B l) (r : IntsAt W A l) => rSame B A c c' l l W h q r
  simp only [decide_true] at SM
  by_cases hm : MayW p l
  · rw [indexN_yes hm] at CX
    have XO := Lib.hid (X2.out hm)
    clear X2
    generalize firstN p + placeN l 0 = k at CX XO
    by_cases mi : MayI i
    · obtain ⟨n1, n2, n3, n4⟩ := way_num mi
      obtain ⟨wm, wi⟩ := way_may mi
      have CO := Lib.hid fun W => pa_of_yes hS mi W
      have sh := way_short mi
      have CI := Lib.hid fun A c W (q : IntsAt W A (wayN i).2) => hS.index (wayN i).1 A c (wayN i).2 W ⟨by omega, by omega⟩ (by omega) (fun x hx => by have := n4 x hx; exact ⟨by omega, by omega⟩) q
      rw [indexN_yes wm, wi] at CI
      have CL := Lib.hid fun W => hS.level (wayN i).1 W ⟨by omega, by omega⟩
      rw [← n3] at CL
      generalize (wayN i).1 = p1 at *
      generalize (wayN i).2 = x1 at *
      clear hS hi hp hl hA h hm mi n1 n2 n3 n4 wm wi sh
      go_enter Try.func5, Try.ntmps5
      go_wp2_with (first
        | (go_at_call 28; with_reducible refine (CA.out _).mono ?_; rintro e w2 ⟨rfl, hb⟩; have B := Lib.hid hb; clear hb)
        | (go_at_call 14; with_reducible refine (CO.out w2).mono ?_; rintro e w3 ⟨⟨A1, c1, rfl, h1⟩, hb⟩; replace B := Lib.hid (low_go B.out hb); have H1 := Lib.hid h1; clear hb h1)
        | (go_at_call 26; with_reducible refine (CI.out _ _ w3 H1.out).mono ?_; rintro e w4 ⟨rfl, hb⟩; replace B := Lib.hid (low_go B.out hb); clear hb H1)
        | (go_at_call 16; with_reducible refine (CL.out w4).mono ?_; rintro e w5 ⟨rfl, hb⟩; replace B := Lib.hid (low_go B.out hb); have HA := Lib.hid (H.out.below B.out); clear hb)
        | (go_at_call 26; with_reducible refine (CX.out w5 HA.out).mono ?_; rintro e w6 ⟨rfl, hb⟩; replace B := Lib.hid (low_go B.out hb); replace HA := Lib.hid (HA.out.below hb); clear hb)
        | (go_at_call 14; with_reducible refine (XO.out w6).mono ?_; rintro e w7 ⟨⟨A7, c7, rfl, h7⟩, hb⟩; replace B := Lib.hid (low_go B.out hb); replace HA := Lib.hid (HA.out.below hb); have H7 := Lib.hid h7; clear hb h7)
        | (go_at_call 15; with_reducible refine (SM.out _ _ _ w7 H7.out HA.out).mono ?_; rintro e w8 ⟨rfl, hb⟩; replace B := Lib.hid (low_go B.out hb); clear hb))
      go_ret
      exact ⟨rfl, B.out⟩
    · have CO := Lib.hid fun W => pa_of_no hS mi hi W
      have g : (decide (0 ≤ i) && decide (i < 65536)) = false := by
        by_cases a : 0 ≤ i
        · by_cases b : i < 65536
          · exact absurd ⟨a, b⟩ mi
          · simp [b]
        · simp [a]
      by_cases a : 0 ≤ i
      · have g1 : decide (0 ≤ i) = true := by simp; omega
        have b : ¬ i < 65536 := fun b => mi ⟨a, b⟩
        have g2 : decide (i < 65536) = false := by simp; omega
        clear hS hi hp hl hA h hm mi g
        go_enter Try.func5, Try.ntmps5
        go_wp2_with (first
          | (go_at_call 28; with_reducible refine (CA.out _).mono ?_; rintro e w2 ⟨rfl, hb⟩; have B := Lib.hid hb; clear hb)
          | (go_at_call 14; with_reducible refine (CO.out w2).mono ?_; rintro e w5 ⟨⟨A1, c1, rfl⟩, hb⟩; replace B := Lib.hid (low_go B.out hb); have HA := Lib.hid (H.out.below B.out); clear hb)
          | (go_at_call 26; with_reducible refine (CX.out w5 HA.out).mono ?_; rintro e w6 ⟨rfl, hb⟩; replace B := Lib.hid (low_go B.out hb); replace HA := Lib.hid (HA.out.below hb); clear hb)
          | (go_at_call 14; with_reducible refine (XO.out w6).mono ?_; rintro e w7 ⟨⟨A7, c7, rfl, h7⟩, hb⟩; replace B := Lib.hid (low_go B.out hb); replace HA := Lib.hid (HA.out.below hb); have H7 := Lib.hid h7; clear hb h7)
          | (go_at_call 15; with_reducible refine (SM.out _ _ _ w7 H7.out HA.out).mono ?_; rintro e w8 ⟨rfl, hb⟩; replace B := Lib.hid (low_go B.out hb); clear hb))
        go_ret
        exact ⟨rfl, B.out⟩
      · have g1 : decide (0 ≤ i) = false := by simp; omega
        clear hS hi hp hl hA h hm mi g
        go_enter Try.func5, Try.ntmps5
        go_wp2_with (first
          | (go_at_call 28; with_reducible refine (CA.out _).mono ?_; rintro e w2 ⟨rfl, hb⟩; have B := Lib.hid hb; clear hb)
          | (go_at_call 14; with_reducible refine (CO.out w2).mono ?_; rintro e w5 ⟨⟨A1, c1, rfl⟩, hb⟩; replace B := Lib.hid (low_go B.out hb); have HA := Lib.hid (H.out.below B.out); clear hb)
          | (go_at_call 26; with_reducible refine (CX.out w5 HA.out).mono ?_; rintro e w6 ⟨rfl, hb⟩; replace B := Lib.hid (low_go B.out hb); replace HA := Lib.hid (HA.out.below hb); clear hb)
          | (go_at_call 14; with_reducible refine (XO.out w6).mono ?_; rintro e w7 ⟨⟨A7, c7, rfl, h7⟩, hb⟩; replace B := Lib.hid (low_go B.out hb); replace HA := Lib.hid (HA.out.below hb); have H7 := Lib.hid h7; clear hb h7)
          | (go_at_call 15; with_reducible refine (SM.out _ _ _ w7 H7.out HA.out).mono ?_; rintro e w8 ⟨rfl, hb⟩; replace B := Lib.hid (low_go B.out hb); clear hb))
        go_ret
        exact ⟨rfl, B.out⟩
  · rw [indexN_no hm] at CX
    clear X2 SM
    by_cases mi : MayI i
    · obtain ⟨n1, n2, n3, n4⟩ := way_num mi
      obtain ⟨wm, wi⟩ := way_may mi
      have CO := Lib.hid fun W => pa_of_yes hS mi W
      have sh := way_short mi
      have CI := Lib.hid fun A c W (q : IntsAt W A (wayN i).2) => hS.index (wayN i).1 A c (wayN i).2 W ⟨by omega, by omega⟩ (by omega) (fun x hx => by have := n4 x hx; exact ⟨by omega, by omega⟩) q
      rw [indexN_yes wm, wi] at CI
      have CL := Lib.hid fun W => hS.level (wayN i).1 W ⟨by omega, by omega⟩
      rw [← n3] at CL
      generalize (wayN i).1 = p1 at *
      generalize (wayN i).2 = x1 at *
      clear hS hi hp hl hA h hm mi n1 n2 n3 n4 wm wi sh
      go_enter Try.func5, Try.ntmps5
      go_wp2_with (first
        | (go_at_call 28; with_reducible refine (CA.out _).mono ?_; rintro e w2 ⟨rfl, hb⟩; have B := Lib.hid hb; clear hb)
        | (go_at_call 14; with_reducible refine (CO.out w2).mono ?_; rintro e w3 ⟨⟨A1, c1, rfl, h1⟩, hb⟩; replace B := Lib.hid (low_go B.out hb); have H1 := Lib.hid h1; clear hb h1)
        | (go_at_call 26; with_reducible refine (CI.out _ _ w3 H1.out).mono ?_; rintro e w4 ⟨rfl, hb⟩; replace B := Lib.hid (low_go B.out hb); clear hb H1)
        | (go_at_call 16; with_reducible refine (CL.out w4).mono ?_; rintro e w5 ⟨rfl, hb⟩; replace B := Lib.hid (low_go B.out hb); have HA := Lib.hid (H.out.below B.out); clear hb)
        | (go_at_call 26; with_reducible refine (CX.out w5 HA.out).mono ?_; rintro e w6 ⟨rfl, hb⟩; replace B := Lib.hid (low_go B.out hb); clear hb))
      go_ret
      exact ⟨rfl, B.out⟩
    · have CO := Lib.hid fun W => pa_of_no hS mi hi W
      by_cases a : 0 ≤ i
      · have g1 : decide (0 ≤ i) = true := by simp; omega
        have b : ¬ i < 65536 := fun b => mi ⟨a, b⟩
        have g2 : decide (i < 65536) = false := by simp; omega
        clear hS hi hp hl hA h hm mi
        go_enter Try.func5, Try.ntmps5
        go_wp2_with (first
          | (go_at_call 28; with_reducible refine (CA.out _).mono ?_; rintro e w2 ⟨rfl, hb⟩; have B := Lib.hid hb; clear hb)
          | (go_at_call 14; with_reducible refine (CO.out w2).mono ?_; rintro e w5 ⟨⟨A1, c1, rfl⟩, hb⟩; replace B := Lib.hid (low_go B.out hb); have HA := Lib.hid (H.out.below B.out); clear hb)
          | (go_at_call 26; with_reducible refine (CX.out w5 HA.out).mono ?_; rintro e w6 ⟨rfl, hb⟩; replace B := Lib.hid (low_go B.out hb); clear hb))
        go_ret
        exact ⟨rfl, B.out⟩
      · have g1 : decide (0 ≤ i) = false := by simp; omega
        clear hS hi hp hl hA h hm mi
        go_enter Try.func5, Try.ntmps5
        go_wp2_with (first
          | (go_at_call 28; with_reducible refine (CA.out _).mono ?_; rintro e w2 ⟨rfl, hb⟩; have B := Lib.hid hb; clear hb)
          | (go_at_call 14; with_reducible refine (CO.out w2).mono ?_; rintro e w5 ⟨⟨A1, c1, rfl⟩, hb⟩; replace B := Lib.hid (low_go B.out hb); have HA := Lib.hid (H.out.below B.out); clear hb)
          | (go_at_call 26; with_reducible refine (CX.out w5 HA.out).mono ?_; rintro e w6 ⟨rfl, hb⟩; replace B := Lib.hid (low_go B.out hb); clear hb))
        go_ret
        exact ⟨rfl, B.out⟩
end Go.Proofs.Ytnneppkkmhjpbaa
