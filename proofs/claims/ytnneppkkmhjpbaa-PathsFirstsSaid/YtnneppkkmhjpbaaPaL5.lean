import Derived.Test.YtnneppkkmhjpbaaPaL4
namespace Go.Proofs.Ytnneppkkmhjpbaa
open Go.RowKit

/-! PathsFirsts. -/
theorem first_way {p : Int} (h0 : 0 ≤ p) (h1 : p ≤ 10) : MayI (firstN p) ∧ (wayN (firstN p)).1 = p ∧ ((wayN (firstN p)).2.length : Int) = levelN p ∧ (∀ x ∈ (wayN (firstN p)).2, x = 0) ∧ (p ≠ 10 → firstN (p + 1) = firstN p + spanN (levelN p)) := by
  rcases (by omega : p = 0 ∨ p = 1 ∨ p = 2 ∨ p = 3 ∨ p = 4 ∨ p = 5 ∨ p = 6 ∨ p = 7 ∨ p = 8 ∨ p = 9 ∨ p = 10) with rfl | rfl | rfl | rfl | rfl | rfl | rfl | rfl | rfl | rfl | rfl <;> exact ⟨⟨by decide, by decide⟩, by decide, by decide, by decide, by decide⟩
set_option maxRecDepth 100000 in
set_option maxHeartbeats 8000000 in
theorem paFirsts (hS : PaSays) (p : Int) (w : World) (hp : I64 p) : Calls Try.prog 10 #[.int .i64 p] w fun e w' => e = .returned (.bool true) ∧ Below w.heap.size w w' := by
  have CA := Lib.hid fun W => paAwake hS W
  have CF := Lib.hid fun W => hS.first p W hp
  have CL := Lib.hid fun W => hS.level p W hp
  by_cases h : 0 ≤ p ∧ p ≤ 10
  rotate_left
  · rw [show firstN p = -1 by unfold firstN; rw [if_neg (by omega), if_neg (by omega), if_neg (by omega)]] at CF
    rw [show levelN p = -1 by unfold levelN; rw [if_neg (by omega), if_neg (by omega)]] at CL
    by_cases h0 : 0 ≤ p
    · have d0 : decide (p < 0) = false := by simp; omega
      have e0 : ¬ p < 0 := by omega
      have d1 : decide (10 < p) = true := by simp; omega
      have e1 : 10 < p := by omega
      clear hS hp h h0
      go_enter Try.func10, Try.ntmps10
      go_wp2_with (first
        | (go_at_call 28; with_reducible refine (CA.out _).mono ?_; rintro e w2 ⟨rfl, hb⟩; have B := Lib.hid hb; clear hb)
        | (go_at_call 20; with_reducible refine (CF.out _).mono ?_; rintro e w3 ⟨rfl, hb⟩; replace B := Lib.hid (low_go B.out hb); clear hb)
        | (go_at_call 16; with_reducible refine (CL.out _).mono ?_; rintro e w4 ⟨rfl, hb⟩; replace B := Lib.hid (low_go B.out hb); clear hb))
      go_ret
      exact ⟨rfl, B.out⟩
    · have d0 : decide (p < 0) = true := by simp; omega
      have e0 : p < 0 := by omega
      clear hS hp h h0
      go_enter Try.func10, Try.ntmps10
      go_wp2_with (first
        | (go_at_call 28; with_reducible refine (CA.out _).mono ?_; rintro e w2 ⟨rfl, hb⟩; have B := Lib.hid hb; clear hb)
        | (go_at_call 20; with_reducible refine (CF.out _).mono ?_; rintro e w3 ⟨rfl, hb⟩; replace B := Lib.hid (low_go B.out hb); clear hb)
        | (go_at_call 16; with_reducible refine (CL.out _).mono ?_; rintro e w4 ⟨rfl, hb⟩; replace B := Lib.hid (low_go B.out hb); clear hb))
      go_ret
      exact ⟨rfl, B.out⟩
  obtain ⟨h0, h1⟩ := h
  have d0 : decide (p < 0) = false := by simp; omega
  have e0 : ¬ p < 0 := by omega
  have d1 : decide (10 < p) = false := by simp; omega
  have e1 : ¬ 10 < p := by omega
  obtain ⟨f1, f2, f3, f4, f5⟩ := first_way h0 h1
  have CO := Lib.hid fun W => pa_of_yes hS f1 W
  have lv := levelN_le p
  have CS := Lib.hid fun W => hS.span (levelN p) W ⟨by omega, by omega⟩
  have CN := Lib.hid fun W => hS.first (p + 1) W ⟨by omega, by omega⟩
  rw [f2] at CO
  have Z := Lib.hid fun (j : Nat) (u : Int) (hu : (wayN (firstN p)).2[j]? = some u) => f4 u (List.mem_of_getElem? hu)
  have GA : Hid (∀ j, j < (wayN (firstN p)).2.length → ∃ u, (wayN (firstN p)).2[j]? = some u) := Lib.hid fun j h => ⟨(wayN (firstN p)).2[j], List.getElem?_eq_getElem h⟩
  have sp : 0 ≤ spanN (levelN p) ∧ spanN (levelN p) ≤ 262144 := by unfold spanN; split; omega; split; omega; split; omega; split <;> omega
  have fl := @firstN_le p
  have w1 : IntKind.i64.wrap (p + 1) = p + 1 := by rw [IntKind.wrap_i64]; omega
  have w2 : IntKind.i64.wrap (firstN p + spanN (levelN p)) = firstN p + spanN (levelN p) := by rw [IntKind.wrap_i64]; omega
  have sh := way_short f1
  have FN := Lib.hid f5
  generalize (wayN (firstN p)).2 = x at *
  rw [← f3] at CL CS w2 FN
  generalize firstN (p + 1) = fn at *
  generalize firstN p = fp at *
  generalize hsp : spanN (x.length : Int) = sp1 at *
  have n1 : ((x.length : Int) != levelN p) = false := by rw [bne_eq_false_iff_eq]; exact f3
  clear hS hp f1 f2 f3 f4 f5 lv sp fl n1 hsp
  go_enter Try.func10, Try.ntmps10
  go_upto_region 9 with (first
    | (go_at_call 28; with_reducible refine (CA.out _).mono ?_; rintro e w2 ⟨rfl, hb⟩; have B := Lib.hid hb; clear hb)
    | (go_at_call 20; with_reducible refine (CF.out _).mono ?_; rintro e w3 ⟨rfl, hb⟩; replace B := Lib.hid (low_go B.out hb); clear hb)
    | (go_at_call 16; with_reducible refine (CL.out _).mono ?_; rintro e w4 ⟨rfl, hb⟩; replace B := Lib.hid (low_go B.out hb); clear hb)
    | (go_at_call 14; with_reducible refine (CO.out _).mono ?_; rintro e w5 ⟨⟨A1, c1, rfl, h1⟩, hb⟩; replace B := Lib.hid (low_go B.out hb); have H1 := Lib.hid h1; clear hb h1))
  clear CA CO CL CF
  go_wp2_with fail
  go_loopw [8] (fun kv wr => ∃ k : Nat, k ≤ x.length ∧ kv = .int .i64 k ∧ wr = w5) (fun kv _ => x.length - (intOf kv).toNat)
  case atStart => exact ⟨0, Nat.zero_le _, rfl, rfl⟩
  case round =>
    obtain ⟨k, hk, rfl, rfl⟩ := hrel
    by_cases hlt : k < x.length
    · obtain ⟨b, o, rfl, hb, hc⟩ := H1.out (by omega)
      obtain ⟨u, hu⟩ := GA.out k hlt
      obtain rfl := Z.out k u hu
      have dc := hc k 0 hu
      have k0 : (0 : Int) ≤ (k : Int) := by omega
      have kl : (k : Int) < (x.length : Int) := by omega
      have wk : IntKind.i64.wrap ((k : Int) + 1) = (k : Int) + 1 := by rw [IntKind.wrap_i64]; omega
      clear hc hu
      go_wp2_with fail
      go_roundw
      case rel => exact ⟨k + 1, by omega, by congr 1, trivial⟩
      case measure => simp [intOf]; omega
    · obtain rfl : k = x.length := by omega
      have kl : ¬ (x.length : Int) < (x.length : Int) := by omega
      by_cases t : p = 10
      · have t1 : (p == 10) = true := by rw [beq_iff_eq]; exact t
        subst t
        clear CS CN FN
        go_wp2_with fail
        go_ret
        exact ⟨rfl, B.out⟩
      · have t1 : (p == 10) = false := by rw [beq_eq_false_iff_ne]; exact t
        have E := FN.out t
        subst E
        clear FN t
        go_wp2_with (first
          | (go_at_call 20; with_reducible refine (CN.out _).mono ?_; rintro e w6 ⟨rfl, hb⟩; replace B := Lib.hid (low_go B.out hb); clear hb)
          | (go_at_call 18; with_reducible refine (CS.out _).mono ?_; rintro e w7 ⟨rfl, hb⟩; replace B := Lib.hid (low_go B.out hb); clear hb))
        go_ret
        exact ⟨rfl, B.out⟩
end Go.Proofs.Ytnneppkkmhjpbaa
