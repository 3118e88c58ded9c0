import Derived.Test.YtnneppkkmhjpbaaPaL4
namespace Go.Proofs.Ytnneppkkmhjpbaa
open Go.RowKit

/-! PathsRise. -/
theorem rise_ptr {a b : Int} (ha : MayI a) (hb : MayI b) (h : (wayN a).1 ≠ (wayN b).1) : ((wayN a).1 < (wayN b).1 ↔ a < b) ∧ ((wayN b).1 < (wayN a).1 ↔ b < a) := by
  rcases way_cases ha with ⟨h1, h2, e⟩ | ⟨h1, h2, e⟩ | ⟨h1, h2, e⟩ | ⟨h1, h2, e⟩ <;> rcases way_cases hb with ⟨k1, k2, f⟩ | ⟨k1, k2, f⟩ | ⟨k1, k2, f⟩ | ⟨k1, k2, f⟩ <;> rw [e, f] at h ⊢ <;> simp at h ⊢ <;> omega
theorem rise_len {a b : Int} (ha : MayI a) (hb : MayI b) (h : (wayN a).1 = (wayN b).1) : (wayN a).2.length = (wayN b).2.length := by
  have x := (way_num ha).2.2.1
  have y := (way_num hb).2.2.1
  rw [h] at x
  omega
theorem rise_num {a b : Int} (ha : MayI a) (hb : MayI b) (h : (wayN a).1 = (wayN b).1) {j : Nat} (hp : ∀ i, i < j → (wayN a).2[i]? = (wayN b).2[i]?) {u v : Int} (hu : (wayN a).2[j]? = some u) (hv : (wayN b).2[j]? = some v) (hne : u ≠ v) : (u < v ↔ a < b) ∧ (v < u ↔ b < a) := by
  rcases way_cases ha with ⟨h1, h2, e⟩ | ⟨h1, h2, e⟩ | ⟨h1, h2, e⟩ | ⟨h1, h2, e⟩ <;> rcases way_cases hb with ⟨k1, k2, f⟩ | ⟨k1, k2, f⟩ | ⟨k1, k2, f⟩ | ⟨k1, k2, f⟩ <;> rw [e] at h hp hu <;> rw [f] at h hp hv
  · simp at hu
  · simp at hu
  · simp at hu
  · simp at hu
  · simp at hv
  · match j with
    | 0 => simp at hu hv; omega
    | j + 1 => simp at hu
  · simp at h
  · simp at h
  · simp at hv
  · simp at h
  · match j with
    | 0 => simp at hu hv; omega
    | 1 => have := hp 0 (by omega); simp at hu hv this; omega
    | j + 2 => simp at hu
  · simp at h
  · simp at hv
  · simp at h
  · simp at h
  · match j with
    | 0 => simp at hu hv; omega
    | 1 => have := hp 0 (by omega); simp at hu hv this; omega
    | 2 => have := hp 0 (by omega); have := hp 1 (by omega); simp at hu hv; simp_all; omega
    | j + 3 => simp at hu
theorem way_inj {a b : Int} (ha : MayI a) (hb : MayI b) (h : wayN a = wayN b) : a = b := by
  rw [← (way_may ha).2, ← (way_may hb).2, h]
/-- How far two ways have been held against one another. -/
def RiseS (a b p q : Int) (x y : List Int) (s : Int) (i : Nat) : Prop := (s = 0 ∧ p = q ∧ ∀ j, j < i → x[j]? = y[j]?) ∨ (s ≠ 0 ∧ (s < 0 ↔ a < b) ∧ (0 < s ↔ b < a))
set_option maxRecDepth 100000 in
set_option maxHeartbeats 8000000 in
theorem paRise (hS : PaSays) (a b : Int) (w : World) (hia : I64 a) (hib : I64 b) : Calls Try.prog 6 #[.int .i64 a, .int .i64 b] w fun e w' => e = .returned (.bool true) ∧ Below w.heap.size w w' := by
  have CA := Lib.hid fun W => paAwake hS W
  by_cases ha : MayI a
  rotate_left
  · have C1 := Lib.hid fun W => pa_of_no hS ha hia W
    have C2 := Lib.hid fun W => hS.of b W hib
    clear hS
    go_enter Try.func6, Try.ntmps6
    go_wp2_with (first
      | (go_at_call 28; with_reducible refine (CA.out _).mono ?_; rintro e w2 ⟨rfl, hb⟩; have B := Lib.hid hb; clear hb)
      | (go_at_call 14; with_reducible refine (C1.out w2).mono ?_; rintro e w3 ⟨⟨A1, c1, rfl⟩, hb⟩; replace B := Lib.hid (low_go B.out hb); clear hb)
      | (go_at_call 14; (with_reducible refine (C2.out w3).mono ?_); rintro e w4 ⟨⟨v, rfl, _⟩, hb⟩; replace B := Lib.hid (low_go B.out hb); clear hb))
    go_ret
    exact ⟨rfl, B.out⟩
  by_cases hb : MayI b
  rotate_left
  · have C1 := Lib.hid fun W => pa_of_yes hS ha W
    have C2 := Lib.hid fun W => pa_of_no hS hb hib W
    clear hS
    go_enter Try.func6, Try.ntmps6
    go_wp2_with (first
      | (go_at_call 28; with_reducible refine (CA.out _).mono ?_; rintro e w2 ⟨rfl, hb⟩; have B := Lib.hid hb; clear hb)
      | (go_at_call 14; with_reducible refine (C1.out w2).mono ?_; rintro e w3 ⟨⟨A1, c1, rfl, _⟩, hb⟩; replace B := Lib.hid (low_go B.out hb); clear hb)
      | (go_at_call 14; with_reducible refine (C2.out w3).mono ?_; rintro e w4 ⟨⟨A2, c2, rfl⟩, hb⟩; replace B := Lib.hid (low_go B.out hb); clear hb))
    go_ret
    exact ⟨rfl, B.out⟩
  have C1 := Lib.hid fun W => pa_of_yes hS ha W
  have C2 := Lib.hid fun W => pa_of_yes hS hb W
  obtain ⟨p0, p1, -, pn⟩ := way_num ha
  obtain ⟨q0, q1, -, qn⟩ := way_num hb
  have sx := way_short ha
  have RP := Lib.hid (rise_ptr ha hb)
  have RL := Lib.hid (rise_len ha hb)
  have RN := Lib.hid (fun h j hp u v hu hv hne => rise_num ha hb h (j := j) hp (u := u) (v := v) hu hv hne)
  have RI := Lib.hid (fun (h1 : (wayN a).1 = (wayN b).1) (h2 : (wayN a).2 = (wayN b).2) => way_inj ha hb (Prod.ext h1 h2))
  have GA : Hid (∀ j, j < (wayN a).2.length → ∃ u, (wayN a).2[j]? = some u ∧ 0 ≤ u ∧ u ≤ 63) := Lib.hid fun j h => ⟨(wayN a).2[j], List.getElem?_eq_getElem h, pn _ (List.getElem_mem h)⟩
  have GB : Hid (∀ j, j < (wayN b).2.length → ∃ u, (wayN b).2[j]? = some u ∧ 0 ≤ u ∧ u ≤ 63) := Lib.hid fun j h => ⟨(wayN b).2[j], List.getElem?_eq_getElem h, qn _ (List.getElem_mem h)⟩
  generalize (wayN a).1 = p at *
  generalize (wayN a).2 = x at *
  generalize (wayN b).1 = q at *
  generalize (wayN b).2 = y at *
  have wpq : IntKind.i64.wrap (p - q) = p - q := by rw [IntKind.wrap_i64]; omega
  clear hS ha hb pn qn
  go_enter Try.func6, Try.ntmps6
  go_upto_region 8 with (first
    | (go_at_call 28; with_reducible refine (CA.out _).mono ?_; rintro e w2 ⟨rfl, hb⟩; have B := Lib.hid hb; clear hb)
    | (go_at_call 14; with_reducible refine (C1.out w2).mono ?_; rintro e w3 ⟨⟨A1, c1, rfl, h1⟩, hb⟩; replace B := Lib.hid (low_go B.out hb); have H1 := Lib.hid h1; clear hb h1)
    | (go_at_call 14; with_reducible refine (C2.out w3).mono ?_; rintro e w4 ⟨⟨A2, c2, rfl, h2⟩, hb⟩; replace B := Lib.hid (low_go B.out hb); replace H1 := Lib.hid (H1.out.below hb); have H2 := Lib.hid h2; clear hb h2))
  clear CA C1 C2
  have S0 : Hid (RiseS a b p q x y (p - q) 0) := Lib.hid (by
    by_cases e : p = q
    · exact .inl ⟨by omega, e, fun j hj => absurd hj (Nat.not_lt_zero _)⟩
    · obtain ⟨r1, r2⟩ := RP.out e
      exact .inr ⟨by omega, by omega, by omega⟩)
  go_wp2_with fail
  go_loopw [11, 12] (fun sv iv wr => ∃ (i : Nat) (s : Int), i ≤ 3 ∧ iv = .int .i64 i ∧ sv = .int .i64 s ∧ Hid (RiseS a b p q x y s i) ∧ Hid (Below w4.heap.size w4 wr)) (fun _ iv _ => 4 - (intOf iv).toNat)
  case atStart => exact ⟨0, p - q, by omega, rfl, rfl, S0, Lib.hid (Below.refl _ _)⟩
  case round =>
    obtain ⟨i, s, hi, rfl, rfl, SI, B2⟩ := hrel
    clear S0
    by_cases hgo : i < x.length ∧ s = 0
    · obtain ⟨hx, rfl⟩ := hgo
      obtain ⟨_, hpq, hpre⟩ | ⟨n, _⟩ := SI.out
      rotate_left
      · exact absurd rfl n
      have hl := RL.out hpq
      obtain ⟨u, hu, u0, u1⟩ := GA.out i hx
      obtain ⟨v, hv, v0, v1⟩ := GB.out i (by omega)
      obtain ⟨ba, oa, rfl, hba, hca⟩ := (H1.out.below B2.out) (by omega)
      obtain ⟨bb, ob, rfl, hbb, hcb⟩ := (H2.out.below B2.out) (by omega)
      have ca := hca i u hu
      have cb := hcb i v hv
      have i0 : (0 : Int) ≤ (i : Int) := by omega
      have i1 : (i : Int) < (x.length : Int) := by omega
      have i2 : (i : Int) < (y.length : Int) := by omega
      have d1 : decide ((i : Int) < (x.length : Int)) = true := by simp; omega
      have d2 : decide ((i : Int) < (y.length : Int)) = true := by simp; omega
      have wuv : IntKind.i64.wrap (u - v) = u - v := by rw [IntKind.wrap_i64]; omega
      have wi : IntKind.i64.wrap ((i : Int) + 1) = (i : Int) + 1 := by rw [IntKind.wrap_i64]; omega
      have S2 : Hid (RiseS a b p q x y (u - v) (i + 1)) := Lib.hid (by
        by_cases e : u = v
        · refine .inl ⟨by omega, hpq, fun j hj => ?_⟩
          by_cases f : j < i
          · exact hpre j f
          · obtain rfl : j = i := by omega
            rw [hu, hv, e]
        · obtain ⟨r1, r2⟩ := RN.out hpq i hpre u v hu hv e
          exact .inr ⟨by omega, by omega, by omega⟩)
      clear hca hcb hu hv u0 u1 v0 v1 hpre SI hpq hl
      go_wp2_with fail
      go_quiet (fail)
      go_wp2_with fail
      go_roundw
      case rel => exact ⟨i + 1, u - v, by omega, by congr 1, rfl, S2, Lib.hid (low_drewN B2.out _)⟩
      case measure => simp [intOf]; omega
    · have FIN : (s < 0 ↔ a < b) ∧ (0 < s ↔ b < a) := by
        rcases SI.out with ⟨rfl, hpq, hpre⟩ | ⟨_, r1, r2⟩
        · have hl := RL.out hpq
          have hx : ¬ i < x.length := fun r => hgo ⟨r, rfl⟩
          have e : x = y := List.ext_getElem? fun j => by
            by_cases f : j < i
            · exact hpre j f
            · rw [List.getElem?_eq_none (by omega), List.getElem?_eq_none (by omega)]
          have := RI.out hpq e
          omega
        · exact ⟨r1, r2⟩
      have k1 : decide (s < 0) = decide (a < b) := decide_eq_decide.2 FIN.1
      have k2 : decide (0 < s) = decide (b < a) := decide_eq_decide.2 FIN.2
      have BB := Lib.hid (low_go B.out B2.out)
      have GO : (decide ((i : Int) < (x.length : Int)) && decide (s = 0)) = false := by
        rw [Bool.and_eq_false_iff]
        by_cases f : i < x.length
        · exact .inr (decide_eq_false fun r => hgo ⟨f, r⟩)
        · exact .inl (decide_eq_false (by omega))
      by_cases f : i < x.length
      · have s0 : ¬ s = 0 := fun r => hgo ⟨f, r⟩
        have t1 : (s == 0) = false := by rw [beq_eq_false_iff_ne]; exact s0
        have d1 : decide ((i : Int) < (x.length : Int)) = true := by simp; omega
        by_cases f2 : i < y.length
        · have d2 : decide ((i : Int) < (y.length : Int)) = true := by simp; omega
          by_cases z : a < b
          · have z1 : decide (a < b) = true := by simp; omega
            have z2 : decide (b < a) = false := by simp; omega
            rw [z1] at k1
            rw [z2] at k2
            clear SI FIN GO hgo RP RL RN RI GA GB
            go_wp2_with fail
            go_ret
            exact ⟨rfl, BB.out⟩
          · have z1 : decide (a < b) = false := by simp; omega
            rw [z1] at k1
            by_cases zz : b < a
            · have z2 : decide (b < a) = true := by simp; omega
              rw [z2] at k2
              clear SI FIN GO hgo RP RL RN RI GA GB
              go_wp2_with fail
              go_ret
              exact ⟨rfl, BB.out⟩
            · exact absurd (by omega : s = 0) s0
        · have d2 : decide ((i : Int) < (y.length : Int)) = false := by simp; omega
          by_cases z : a < b
          · have z1 : decide (a < b) = true := by simp; omega
            have z2 : decide (b < a) = false := by simp; omega
            rw [z1] at k1
            rw [z2] at k2
            clear SI FIN GO hgo RP RL RN RI GA GB
            go_wp2_with fail
            go_ret
            exact ⟨rfl, BB.out⟩
          · have z1 : decide (a < b) = false := by simp; omega
            rw [z1] at k1
            by_cases zz : b < a
            · have z2 : decide (b < a) = true := by simp; omega
              rw [z2] at k2
              clear SI FIN GO hgo RP RL RN RI GA GB
              go_wp2_with fail
              go_ret
              exact ⟨rfl, BB.out⟩
            · exact absurd (by omega : s = 0) s0
      · have d1 : decide ((i : Int) < (x.length : Int)) = false := by simp; omega
        have z1 : decide (a < b) = decide (s < 0) := k1.symm
        have z2 : decide (b < a) = decide (0 < s) := k2.symm
        by_cases z : a < b
        · have z1 : decide (a < b) = true := by simp; omega
          have z2 : decide (b < a) = false := by simp; omega
          rw [z1] at k1
          rw [z2] at k2
          clear SI FIN GO hgo RP RL RN RI GA GB
          go_wp2_with fail
          go_ret
          exact ⟨rfl, BB.out⟩
        · have z1 : decide (a < b) = false := by simp; omega
          rw [z1] at k1
          by_cases zz : b < a
          · have z2 : decide (b < a) = true := by simp; omega
            rw [z2] at k2
            clear SI FIN GO hgo RP RL RN RI GA GB
            go_wp2_with fail
            go_ret
            exact ⟨rfl, BB.out⟩
          · have z2 : decide (b < a) = false := by simp; omega
            rw [z2] at k2
            clear SI FIN GO hgo RP RL RN RI GA GB
            go_wp2_with fail
            go_ret
            exact ⟨rfl, BB.out⟩
end Go.Proofs.Ytnneppkkmhjpbaa
