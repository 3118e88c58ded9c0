import Derived.Test.YtnneppkkmhjpbaaPaL6
import Derived.Deep.Cut
import Derived.Deep.CutRange
namespace Go.Proofs.Ytnneppkkmhjpbaa
open Go.RowKit

/-! PathsApart. -/
def AparS (p q : Int) (x y : List Int) (i : Nat) : Prop := p = q ∧ x.length = y.length ∧ ∀ j, j < i → x[j]? = y[j]?
noncomputable instance (p q : Int) (x y : List Int) (i : Nat) : Decidable (AparS p q x y i) := Classical.propDecidable _
theorem apar_all {p q : Int} {x y : List Int} {i : Nat} (h : AparS p q x y i) (hi : x.length ≤ i) : p = q ∧ x = y := ⟨h.1, List.ext_getElem? fun j => by
  by_cases f : j < i
  · exact h.2.2 j f
  · have := h.2.1
    rw [List.getElem?_eq_none (by omega), List.getElem?_eq_none (by omega)]⟩
theorem apar_next {p q : Int} {x y : List Int} {i : Nat} (h : AparS p q x y i) (e : x[i]? = y[i]?) : AparS p q x y (i + 1) := ⟨h.1, h.2.1, fun j hj => by
  by_cases f : j < i
  · exact h.2.2 j f
  · obtain rfl : j = i := by omega
    exact e⟩
theorem apar_less {p q : Int} {x y : List Int} {i : Nat} (h : AparS p q x y (i + 1)) : AparS p q x y i := ⟨h.1, h.2.1, fun j hj => h.2.2 j (by omega)⟩
set_option maxRecDepth 100000 in
set_option maxHeartbeats 8000000 in
theorem paApart (hS : PaSays) (a b : Int) (w : World) (hia : I64 a) (hib : I64 b) : Calls Try.prog 11 #[.int .i64 a, .int .i64 b] w fun e w' => e = .returned (.bool true) ∧ Below w.heap.size w w' := by
  have CA := Lib.hid fun W => paAwake hS W
  have OF : Hid (∀ i, I64 i → ∃ (z : Int) (f : Int) (n : Nat), ((z == 0) = (decide (0 ≤ i) && decide (i < 65536))) ∧ (z = 0 ∨ z = 100) ∧ (z = 0 ↔ MayI i) ∧ ∀ W, Calls Try.prog 14 #[.int .i64 i] W fun e w' => (∃ A c, e = .returned (.tuple #[.int .i64 f, .slice A n c, .int .i64 z])) ∧ Below W.heap.size W w') := Lib.hid fun i hi => by
    by_cases m : MayI i
    · refine ⟨0, (wayN i).1, (wayN i).2.length, by rw [decide_eq_true m.lo, decide_eq_true m.hi]; rfl, .inl rfl, ⟨fun _ => m, fun _ => rfl⟩, fun W => (pa_of_yes hS m W).mono fun e w' q => ?_⟩
      obtain ⟨⟨A, c, h, _⟩, hb⟩ := q
      exact ⟨⟨A, c, h⟩, hb⟩
    · refine ⟨100, 0, 0, ?_, .inr rfl, ⟨fun h => absurd h (by decide), fun h => absurd h m⟩, fun W => pa_of_no hS m hi W⟩
      by_cases h0 : 0 ≤ i
      · rw [decide_eq_true h0, decide_eq_false (fun h => m ⟨h0, h⟩)]; rfl
      · rw [decide_eq_false h0]; rfl
  have CASE : Hid (∀ i, (MayI i ∧ decide (0 ≤ i) = true ∧ decide (i < 65536) = true) ∨ (¬ MayI i ∧ decide (0 ≤ i) = true ∧ decide (i < 65536) = false) ∨ (¬ MayI i ∧ decide (0 ≤ i) = false)) := Lib.hid fun i => by
    by_cases h0 : 0 ≤ i
    · by_cases h1 : i < 65536
      · exact .inl ⟨⟨h0, h1⟩, decide_eq_true h0, decide_eq_true h1⟩
      · exact .inr (.inl ⟨fun m => h1 m.hi, decide_eq_true h0, decide_eq_false h1⟩)
    · exact .inr (.inr ⟨fun m => h0 m.lo, decide_eq_false h0⟩)
  by_cases hab : MayI a ∧ MayI b
  rotate_left
  · obtain ⟨za, fa, na, -, zc, zm, C1⟩ := OF.out a hia
    obtain ⟨zb, fb, nb, -, yc, ym, C2⟩ := OF.out b hib
    have C1 := Lib.hid C1
    have C2 := Lib.hid C2
    have NZ : za = 100 ∨ zb = 100 := by
      rcases zc with r | r
      · rcases yc with s | s
        · exact absurd ⟨zm.1 r, ym.1 s⟩ hab
        · exact .inr s
      · exact .inl r
    clear OF hS
    rcases CASE.out a with ⟨m1, g1, g2⟩ | ⟨m1, g1, g2⟩ | ⟨m1, g1⟩ <;> rcases CASE.out b with ⟨m2, k1, k2⟩ | ⟨m2, k1, k2⟩ | ⟨m2, k1⟩
    · exact absurd ⟨m1, m2⟩ hab
    all_goals
      have hza : za = if MayI a then 0 else 100 := by
        rcases zc with r | r
        · rw [if_pos (zm.1 r), r]
        · rw [if_neg (fun h => by have := zm.2 h; omega), r]
      have hzb : zb = if MayI b then 0 else 100 := by
        rcases yc with r | r
        · rw [if_pos (ym.1 r), r]
        · rw [if_neg (fun h => by have := ym.2 h; omega), r]
      first | rw [if_pos m1] at hza | rw [if_neg m1] at hza
      first | rw [if_pos m2] at hzb | rw [if_neg m2] at hzb
      subst hza hzb
      clear zc zm yc ym NZ CASE hab m1 m2 hia hib
      go_enter Try.func11, Try.ntmps11
      go_wp2_with (first
        | (go_at_call 28; with_reducible refine (CA.out _).mono ?_; rintro e w2 ⟨rfl, hb⟩; have B := Lib.hid hb; clear hb)
        | (go_at_call 14; with_reducible refine (C1.out w2).mono ?_; rintro e w3 ⟨⟨A1, c1, rfl⟩, hb⟩; replace B := Lib.hid (low_go B.out hb); clear hb)
        | (go_at_call 14; with_reducible refine (C2.out w3).mono ?_; rintro e w4 ⟨⟨A2, c2, rfl⟩, hb⟩; replace B := Lib.hid (low_go B.out hb); clear hb))
      go_ret
      exact ⟨rfl, B.out⟩
  obtain ⟨ha, hb⟩ := hab
  have g1 : decide (0 ≤ a) = true := decide_eq_true ha.lo
  have g2 : decide (a < 65536) = true := decide_eq_true ha.hi
  have k1 : decide (0 ≤ b) = true := decide_eq_true hb.lo
  have k2 : decide (b < 65536) = true := decide_eq_true hb.hi
  have G1 : 0 ≤ a := ha.lo
  have G2 : a < 65536 := ha.hi
  have K1 : 0 ≤ b := hb.lo
  have K2 : b < 65536 := hb.hi
  have C1 := Lib.hid fun W => pa_of_yes hS ha W
  have C2 := Lib.hid fun W => pa_of_yes hS hb W
  obtain ⟨p0, p1, pl, pn⟩ := way_num ha
  have sx := way_short ha
  have CL := Lib.hid fun W => hS.level (wayN a).1 W ⟨by omega, by omega⟩
  rw [← pl] at CL
  have RI := Lib.hid (fun (h1 : (wayN a).1 = (wayN b).1 ∧ (wayN a).2 = (wayN b).2) => way_inj ha hb (Prod.ext h1.1 h1.2))
  have IR : Hid (a = b → AparS (wayN a).1 (wayN b).1 (wayN a).2 (wayN b).2 (wayN a).2.length) := Lib.hid fun h => by subst h; exact ⟨rfl, rfl, fun _ _ => rfl⟩
  have GA : Hid (∀ j, j < (wayN a).2.length → ∃ u, (wayN a).2[j]? = some u ∧ 0 ≤ u ∧ u ≤ 63) := Lib.hid fun j h => ⟨(wayN a).2[j], List.getElem?_eq_getElem h, pn _ (List.getElem_mem h)⟩
  generalize (wayN a).1 = p at *
  generalize (wayN a).2 = x at *
  generalize (wayN b).1 = q at *
  generalize (wayN b).2 = y at *
  clear hS ha hb pn pl OF CASE p0 p1 hia hib
  go_enter Try.func11, Try.ntmps11
  go_upto_region 9 with (first
    | (go_at_call 28; with_reducible refine (CA.out _).mono ?_; rintro e w2 ⟨rfl, hb⟩; have B := Lib.hid hb; clear hb)
    | (go_at_call 14; with_reducible refine (C1.out w2).mono ?_; rintro e w3 ⟨⟨A1, c1, rfl, h1⟩, hb⟩; replace B := Lib.hid (low_go B.out hb); have H1 := Lib.hid h1; clear hb h1)
    | (go_at_call 14; with_reducible refine (C2.out w3).mono ?_; rintro e w4 ⟨⟨A2, c2, rfl, h2⟩, hb⟩; replace B := Lib.hid (low_go B.out hb); replace H1 := Lib.hid (H1.out.below hb); have H2 := Lib.hid h2; clear hb h2))
  clear CA C1 C2 g1 g2 k1 k2 G1 G2 K1 K2
  go_cut [11] from 13 to 62 (fun s11 wx => s11 = .bool (decide (AparS p q x y 0)) ∧ wx = w4)
  case first =>
    clear H1 H2 GA
    by_cases hp : p = q
    · have t1 : (p == q) = true := by rw [beq_iff_eq]; exact hp
      by_cases hn : x.length = y.length
      · have E := Lib.hid (decide_eq_true (show AparS p q x y 0 from ⟨hp, hn, fun j hj => absurd hj (Nat.not_lt_zero _)⟩))
        have t2 : ((x.length : Int) == (y.length : Int)) = true := by rw [beq_iff_eq]; omega
        have t3 : (x.length == y.length) = true := by rw [beq_iff_eq]; exact hn
        have t4 : decide (x.length = y.length) = true := by simp; omega
        clear hp hn
        go_wp2_with fail
        go_meet
        exact ⟨by rw [E.out], rfl⟩
      · have E := Lib.hid (decide_eq_false (fun r : AparS p q x y 0 => hn r.2.1))
        have t2 : ((x.length : Int) == (y.length : Int)) = false := by rw [beq_eq_false_iff_ne]; omega
        have t3 : (x.length == y.length) = false := by rw [beq_eq_false_iff_ne]; exact hn
        have t4 : decide (x.length = y.length) = false := by simp; omega
        clear hp hn
        go_wp2_with fail
        go_meet
        exact ⟨by rw [E.out], rfl⟩
    · have t1 : (p == q) = false := by rw [beq_eq_false_iff_ne]; exact hp
      have E := Lib.hid (decide_eq_false (fun r : AparS p q x y 0 => hp r.1))
      clear hp
      go_wp2_with fail
      go_meet
      exact ⟨by rw [E.out], rfl⟩
  case rest =>
    obtain ⟨rfl, rfl⟩ := hcut
    go_wp2_with fail
    go_loopw [11, 12] (fun sv iv wr => ∃ i : Nat, i ≤ x.length ∧ iv = .int .i64 i ∧ sv = .bool (decide (AparS p q x y i)) ∧ Hid (Below wc.heap.size wc wr)) (fun _ iv _ => x.length - (intOf iv).toNat)
    case atStart => exact ⟨0, Nat.zero_le _, rfl, rfl, Lib.hid (Below.refl _ _)⟩
    case round =>
      obtain ⟨i, hi, rfl, rfl, B2⟩ := hrel
      have BB := Lib.hid (low_go B.out B2.out)
      by_cases hlt : i < x.length
      rotate_left
      · obtain rfl : i = x.length := by omega
        have il : ¬ (x.length : Int) < (x.length : Int) := by omega
        have E : decide (AparS p q x y x.length) = (a == b) := by
          by_cases e : a = b
          · rw [decide_eq_true (IR.out e), e]; simp
          · rw [decide_eq_false (fun r => e (RI.out (apar_all r (Nat.le_refl _)))), eq_comm, beq_eq_false_iff_ne]; exact e
        rw [E]
        clear E RI IR GA H1 H2
        obtain ⟨t, ht⟩ : ∃ t, (a == b) = t := ⟨_, rfl⟩
        rw [ht]
        go_wp2_with (go_at_call 16; with_reducible refine (CL.out _).mono ?_; rintro e w7 ⟨rfl, hb⟩; replace BB := Lib.hid (low_go BB.out hb); clear hb)
        go_ret
        exact ⟨rfl, BB.out⟩
      obtain ⟨u, hu, u0, u1⟩ := GA.out i hlt
      obtain ⟨ba, oa, rfl, hba, hca⟩ := (H1.out.below B2.out) (by omega)
      have ca := hca i u hu
      have DA : Hid (∀ W, More wr W → W.cell? ⟨ba, oa + i, none⟩ = some (.int .i64 u)) := Lib.hid fun W hW => (Below.cell (p := ⟨ba, oa + i, none⟩) hW hba).trans ca
      have i0 : (0 : Int) ≤ (i : Int) := by omega
      have i1 : (i : Int) < (x.length : Int) := by omega
      have d1 : decide (u < 0) = false := by simp; omega
      have e1 : ¬ u < 0 := by omega
      have d2 : decide (63 < u) = false := by simp; omega
      have e2 : ¬ 63 < u := by omega
      have wi : IntKind.i64.wrap ((i : Int) + 1) = (i : Int) + 1 := by rw [IntKind.wrap_i64]; omega
      by_cases hs : AparS p q x y i
      rotate_left
      · have E := Lib.hid (decide_eq_false (fun r => hs (apar_less r)))
        rw [decide_eq_false hs]
        clear hs hca hu u0 u1 BB
        go_upto_region 15 with fail
        refine wp_region_class (More wr) (by kernel_rfl) (by kernel_rfl) (More.drew _) ?_
        repeat (first | go_big_quiet_skip | (go_big_quiet_want; first | (go_big_quiet_op; first | go_big_quiet_on | (apply Exists.intro; refine ⟨fun _ _ => ?_, ?_⟩; (with_reducible exact rfl); go_big_quiet_on))))
        refine wpQuiet_nil ?_
        intro w7 hw7
        have B7 := Lib.hid (low_go B2.out hw7)
        clear hw7
        go_wp2_with fail
        go_roundw
        case rel => exact ⟨i + 1, by omega, by congr 1, by rw [E.out], B7⟩
        case measure => simp [intOf]; omega
      · have hl := hs.2.1
        obtain ⟨v, hv⟩ : ∃ v, y[i]? = some v := ⟨y[i]'(by omega), List.getElem?_eq_getElem (by omega)⟩
        obtain ⟨bb, ob, rfl, hbb, hcb⟩ := (H2.out.below B2.out) (by omega)
        have cb := hcb i v hv
        have DB : Hid (∀ W, More wr W → W.cell? ⟨bb, ob + i, none⟩ = some (.int .i64 v)) := Lib.hid fun W hW => (Below.cell (p := ⟨bb, ob + i, none⟩) hW hbb).trans cb
        have i2 : (i : Int) < (y.length : Int) := by omega
        rw [decide_eq_true hs]
        by_cases e : u = v
        · have E := Lib.hid (decide_eq_true (apar_next hs (by rw [hu, hv, e])))
          have t1 : (u == v) = true := by rw [beq_iff_eq]; exact e
          subst e
          clear hs hca hcb hu hv u0 u1 hl cb BB
          go_upto_region 15 with fail
          refine wp_region_class (More wr) (by kernel_rfl) (by kernel_rfl) (More.drew _) ?_
          repeat (first | go_big_quiet_skip | (go_big_quiet_want; first | (refine quiet_int (.tmp 85) rfl ⟨ba, oa + i, none⟩ rfl _ (by intro w' hw'; exact DA.out w' hw') ?_; simp only [Act.put, List.setIfInBounds_toArray, List.set_cons_zero, List.set_cons_succ]; go_big_quiet_on) | (refine quiet_int (.tmp 89) rfl ⟨bb, ob + i, none⟩ rfl _ (by intro w' hw'; exact DB.out w' hw') ?_; simp only [Act.put, List.setIfInBounds_toArray, List.set_cons_zero, List.set_cons_succ]; go_big_quiet_on) | (go_big_quiet_op; first | go_big_quiet_on | (apply Exists.intro; refine ⟨fun _ _ => ?_, ?_⟩; (with_reducible exact rfl); go_big_quiet_on))))
          refine wpQuiet_nil ?_
          intro w7 hw7
          have B7 := Lib.hid (low_go B2.out hw7)
          clear hw7
          go_wp2_with fail
          go_roundw
          case rel => exact ⟨i + 1, by omega, by congr 1, by rw [E.out], B7⟩
          case measure => simp [intOf]; omega
        · have E := Lib.hid (decide_eq_false (fun r : AparS p q x y (i + 1) => e (by have := r.2.2 i (by omega); rw [hu, hv] at this; injection this)))
          have t1 : (u == v) = false := by rw [beq_eq_false_iff_ne]; exact e
          clear hs hca hcb hu hv u0 u1 hl cb BB
          go_upto_region 15 with fail
          refine wp_region_class (More wr) (by kernel_rfl) (by kernel_rfl) (More.drew _) ?_
          repeat (first | go_big_quiet_skip | (go_big_quiet_want; first | (refine quiet_int (.tmp 85) rfl ⟨ba, oa + i, none⟩ rfl _ (by intro w' hw'; exact DA.out w' hw') ?_; simp only [Act.put, List.setIfInBounds_toArray, List.set_cons_zero, List.set_cons_succ]; go_big_quiet_on) | (refine quiet_int (.tmp 89) rfl ⟨bb, ob + i, none⟩ rfl _ (by intro w' hw'; exact DB.out w' hw') ?_; simp only [Act.put, List.setIfInBounds_toArray, List.set_cons_zero, List.set_cons_succ]; go_big_quiet_on) | (go_big_quiet_op; first | go_big_quiet_on | (apply Exists.intro; refine ⟨fun _ _ => ?_, ?_⟩; (with_reducible exact rfl); go_big_quiet_on))))
          refine wpQuiet_nil ?_
          intro w7 hw7
          have B7 := Lib.hid (low_go B2.out hw7)
          clear hw7
          go_wp2_with fail
          go_roundw
          case rel => exact ⟨i + 1, by omega, by congr 1, by rw [E.out], B7⟩
          case measure => simp [intOf]; omega
end Go.Proofs.Ytnneppkkmhjpbaa
