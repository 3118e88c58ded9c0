import Derived.Test.YtnneppkkmhjpbaaPaL7
namespace Go.Proofs.Ytnneppkkmhjpbaa
open Go.RowKit

/-! PathsStops. -/
theorem next_last {i : Int} (h : MayI i) : nextN (nextN i - 1) = nextN i := by
  have l1 := h.lo
  have l2 := h.hi
  obtain ⟨n1, n2, n3⟩ := next_gt h
  rcases way_cases h with ⟨h1, h2, _⟩ | ⟨h1, h2, _⟩ | ⟨h1, h2, _⟩ | ⟨h1, h2, _⟩
  · have e : nextN i = i + 1 := by unfold nextN; rw [if_neg (by omega), if_neg (by omega), if_pos h2]
    rw [e, show i + 1 - 1 = i by omega, e]
  · have e : nextN i = 72 := by unfold nextN; rw [if_neg (by omega), if_neg (by omega), if_neg (by omega), if_pos h2]
    rw [e]; decide
  · have e : nextN i = 72 + 64 * ((i - 72) / 64 + 1) := by unfold nextN; rw [if_neg (by omega), if_neg (by omega), if_neg (by omega), if_neg (by omega), if_pos h2]
    generalize hn : nextN i = n at *
    unfold nextN
    rw [if_neg (by omega), if_neg (by omega), if_neg (by omega), if_neg (by omega), if_pos (by omega)]
    omega
  · have e : nextN i = min (4168 + 64 * ((i - 4168) / 64 + 1)) 65536 := by unfold nextN; rw [if_neg (by omega), if_neg (by omega), if_neg (by omega), if_neg (by omega), if_neg (by omega)]
    generalize hn : nextN i = n at *
    unfold nextN
    rw [if_neg (by omega), if_neg (by omega), if_neg (by omega), if_neg (by omega), if_neg (by omega)]
    omega
theorem same_of {p q : Int} {x y : List Int} {i : Nat} (h : AparS p q x y i) (hi : x.length ≤ i + 1) : SameW (p, x) (q, y) := ⟨h.1, h.2.1, fun j hj => h.2.2 j (by have : j + 1 < x.length := hj; omega)⟩
theorem same_not {p q : Int} {x y : List Int} {i : Nat} (h : ¬ AparS p q x y i) (hi : i = 0 ∨ i + 1 ≤ x.length) : ¬ SameW (p, x) (q, y) := fun s => h ⟨s.1, s.2.1, fun j hj => s.2.2 j (by show j + 1 < x.length; omega)⟩
set_option maxRecDepth 100000 in
set_option maxHeartbeats 8000000 in
theorem paStops (hS : PaSays) (a m : Int) (w : World) (hia : I64 a) : Calls Try.prog 7 #[.int .i64 a, .int .i64 m] w fun e w' => e = .returned (.bool true) ∧ Below w.heap.size w w' := by
  have CA := Lib.hid fun W => paAwake hS W
  have CN := Lib.hid fun W => hS.next a W hia
  by_cases ha : MayI a
  rotate_left
  · have C1 := Lib.hid fun W => pa_of_no hS ha hia W
    by_cases h0 : 0 ≤ a
    · rw [show nextN a = 65536 by
        have : ¬ a < 65536 := fun q => ha ⟨h0, q⟩
        unfold nextN; rw [if_neg (by omega), if_pos (by omega)]] at CN
      have d0 : decide (a < 0) = false := by simp; omega
      have e0 : ¬ a < 0 := by omega
      have e1 : 65536 ≤ a := by
        have : ¬ a < 65536 := fun q => ha ⟨h0, q⟩
        omega
      have d1 : decide (65536 ≤ a) = true := by simp; omega
      clear hS ha h0
      go_enter Try.func7, Try.ntmps7
      go_wp2_with (first
        | (go_at_call 28; with_reducible refine (CA.out _).mono ?_; rintro e w2 ⟨rfl, hb⟩; have B := Lib.hid hb; clear hb)
        | (go_at_call 14; with_reducible refine (C1.out w2).mono ?_; rintro e w3 ⟨⟨A1, c1, rfl⟩, hb⟩; replace B := Lib.hid (low_go B.out hb); clear hb)
        | (go_at_call 22; with_reducible refine (CN.out w3).mono ?_; rintro e w4 ⟨rfl, hb⟩; replace B := Lib.hid (low_go B.out hb); clear hb))
      go_ret
      exact ⟨rfl, B.out⟩
    · rw [show nextN a = 0 by unfold nextN; rw [if_pos (by omega)]] at CN
      have d0 : decide (a < 0) = true := by simp; omega
      have e0 : a < 0 := by omega
      clear hS ha h0
      go_enter Try.func7, Try.ntmps7
      go_wp2_with (first
        | (go_at_call 28; with_reducible refine (CA.out _).mono ?_; rintro e w2 ⟨rfl, hb⟩; have B := Lib.hid hb; clear hb)
        | (go_at_call 14; with_reducible refine (C1.out w2).mono ?_; rintro e w3 ⟨⟨A1, c1, rfl⟩, hb⟩; replace B := Lib.hid (low_go B.out hb); clear hb)
        | (go_at_call 22; with_reducible refine (CN.out w3).mono ?_; rintro e w4 ⟨rfl, hb⟩; replace B := Lib.hid (low_go B.out hb); clear hb))
      go_ret
      exact ⟨rfl, B.out⟩
  have C1 := Lib.hid fun W => pa_of_yes hS ha W
  obtain ⟨n1, n2, n3⟩ := next_gt ha
  have l1 := ha.lo
  have l2 := ha.hi
  have C2 := Lib.hid fun W => hS.next (nextN a - 1) W ⟨by omega, by omega⟩
  rw [next_last ha] at C2
  have SN := Lib.hid fun (k : Int) (hk : MayI k) (h : a ≤ k) => same_next ha hk h
  have sx := way_short ha
  have OY := Lib.hid fun (k : Int) (hk : MayI k) W => pa_of_yes hS hk W
  have ON := Lib.hid fun (k : Int) (hk : ¬ MayI k) (h : I64 k) W => pa_of_no hS hk h W
  obtain ⟨m1, hm1⟩ : ∃ m1, Int.tmod m 64 = m1 := ⟨_, rfl⟩
  have b1 : -64 < m1 ∧ m1 < 64 := by
    rw [← hm1]
    rcases (by omega : 0 ≤ m ∨ m < 0) with q | q
    · rw [Int.tmod_eq_emod_of_nonneg q]; omega
    · have e : Int.tmod m 64 = -(Int.tmod (-m) 64) := by rw [Int.neg_tmod]; omega
      rw [e, Int.tmod_eq_emod_of_nonneg (by omega)]
      omega
  obtain ⟨r, hr⟩ : ∃ r, Int.tmod (m1 + 64) 64 = r := ⟨_, rfl⟩
  have b2 : 0 ≤ r ∧ r < 64 := by
    rw [← hr, Int.tmod_eq_emod_of_nonneg (by omega)]
    omega
  have v1 : IntKind.i64.wrap m1 = m1 := by rw [IntKind.wrap_i64]; omega
  have v2 : IntKind.i64.wrap (m1 + 64) = m1 + 64 := by rw [IntKind.wrap_i64]; omega
  have v3 : IntKind.i64.wrap r = r := by rw [IntKind.wrap_i64]; omega
  obtain ⟨k, hk⟩ : ∃ k, a + r = k := ⟨_, rfl⟩
  have v4 : IntKind.i64.wrap k = k := by rw [IntKind.wrap_i64]; omega
  have v5 : IntKind.i64.wrap (a + 64) = a + 64 := by rw [IntKind.wrap_i64]; omega
  have v6 : IntKind.i64.wrap (nextN a - 1) = nextN a - 1 := by rw [IntKind.wrap_i64]; omega
  have g1 : decide (nextN a ≤ a) = false := by simp; omega
  have g1' : ¬ nextN a ≤ a := by omega
  have g2 : decide (65536 < nextN a) = false := by simp; omega
  have g2' : ¬ 65536 < nextN a := by omega
  have g3 : decide (a + 64 < nextN a) = false := by simp; omega
  have g3' : ¬ a + 64 < nextN a := by omega
  have ka : a ≤ k := by omega
  by_cases mk : MayI k
  rotate_left
  · have C3 := Lib.hid (ON.out k mk ⟨by omega, by omega⟩)
    have g4 : 65536 ≤ k := by
      have : ¬ k < 65536 := fun q => mk ⟨by omega, q⟩
      omega
    have g5 : decide (65536 ≤ k) = true := by simp; omega
    generalize nextN a = n at *
    generalize (wayN a).1 = p at *
    generalize (wayN a).2 = x at *
    clear hS OY ON SN n1 n2 n3 sx ka mk b1 b2 ha hia l1 l2
    go_enter Try.func7, Try.ntmps7
    go_wp2_with (first
      | (go_at_call 28; with_reducible refine (CA.out _).mono ?_; rintro e w2 ⟨rfl, hb⟩; have B := Lib.hid hb; clear hb)
      | (go_at_call 14; with_reducible refine (C1.out w2).mono ?_; rintro e w3 ⟨⟨A1, c1, rfl, _⟩, hb⟩; replace B := Lib.hid (low_go B.out hb); clear hb)
      | (go_at_call 22; with_reducible refine (CN.out w3).mono ?_; rintro e w4 ⟨rfl, hb⟩; replace B := Lib.hid (low_go B.out hb); clear hb)
      | (go_at_call 22; with_reducible refine (C2.out w4).mono ?_; rintro e w5 ⟨rfl, hb⟩; replace B := Lib.hid (low_go B.out hb); clear hb)
      | (go_at_call 14; with_reducible refine (C3.out w5).mono ?_; rintro e w6 ⟨⟨A2, c2, rfl⟩, hb⟩; replace B := Lib.hid (low_go B.out hb); clear hb))
    go_ret
    exact ⟨rfl, B.out⟩
  have C3 := Lib.hid (OY.out k mk)
  have SW := Lib.hid (SN.out k mk ka)
  obtain ⟨X, hX⟩ : ∃ X, wayN a = X := ⟨_, rfl⟩
  obtain ⟨Y, hY⟩ : ∃ Y, wayN k = Y := ⟨_, rfl⟩
  rw [hX] at C1 SW sx
  rw [hY] at C3 SW
  obtain ⟨p, x⟩ := X
  obtain ⟨q, y⟩ := Y
  simp only at C1 C3 sx
  generalize nextN a = n at *
  clear hS OY ON SN n1 n2 n3 ka mk b1 b2 ha hia l1 l2 hX hY
  go_enter Try.func7, Try.ntmps7
  go_upto_region 13 with (first
      | (go_at_call 28; with_reducible refine (CA.out _).mono ?_; rintro e w2 ⟨rfl, hb⟩; have B := Lib.hid hb; clear hb)
      | (go_at_call 14; with_reducible refine (C1.out w2).mono ?_; rintro e w3 ⟨⟨A1, c1, rfl, h1⟩, hb⟩; replace B := Lib.hid (low_go B.out hb); have H1 := Lib.hid h1; clear hb h1)
      | (go_at_call 22; with_reducible refine (CN.out w3).mono ?_; rintro e w4 ⟨rfl, hb⟩; replace B := Lib.hid (low_go B.out hb); replace H1 := Lib.hid (H1.out.below hb); clear hb)
      | (go_at_call 22; with_reducible refine (C2.out w4).mono ?_; rintro e w5 ⟨rfl, hb⟩; replace B := Lib.hid (low_go B.out hb); replace H1 := Lib.hid (H1.out.below hb); clear hb)
      | (go_at_call 14; with_reducible refine (C3.out w5).mono ?_; rintro e w6 ⟨⟨A2, c2, rfl, h2⟩, hb⟩; replace B := Lib.hid (low_go B.out hb); replace H1 := Lib.hid (H1.out.below hb); have H2 := Lib.hid h2; clear hb h2))
  clear CA C1 C2 C3 CN g1 g1' g2 g2' g3 g3' v1 v2 v3 v4 v5 v6 hm1 hr hk
  go_cut [13] from 15 to 86 (fun s13 wx => s13 = .bool (decide (AparS p q x y 0)) ∧ wx = w6)
  case first =>
    clear H1 H2 SW
    by_cases hp : p = q
    · have t1 : (p == q) = true := by rw [beq_iff_eq]; exact hp
      by_cases hn : x.length = y.length
      · have E := Lib.hid (decide_eq_true (show AparS p q x y 0 from ⟨hp, hn, fun j hj => absurd hj (Nat.not_lt_zero _)⟩))
        have t2 : ((x.length : Int) == (y.length : Int)) = true := by rw [beq_iff_eq]; omega
        have t3 : (x.length == y.length) = true := by rw [beq_iff_eq]; exact hn
        have t4 : decide (x.length = y.length) = true := by simp; omega
        clear hp hn
        go_wp2_with fail
        go_meet
        exact ⟨by rw [E.out], rfl⟩
      · have E := Lib.hid (decide_eq_false (fun r : AparS p q x y 0 => hn r.2.1))
        have t2 : ((x.length : Int) == (y.length : Int)) = false := by rw [beq_eq_false_iff_ne]; omega
        have t3 : (x.length == y.length) = false := by rw [beq_eq_false_iff_ne]; exact hn
        have t4 : decide (x.length = y.length) = false := by simp; omega
        clear hp hn
        go_wp2_with fail
        go_meet
        exact ⟨by rw [E.out], rfl⟩
    · have t1 : (p == q) = false := by rw [beq_eq_false_iff_ne]; exact hp
      have E := Lib.hid (decide_eq_false (fun r : AparS p q x y 0 => hp r.1))
      clear hp
      go_wp2_with fail
      go_meet
      exact ⟨by rw [E.out], rfl⟩
  case rest =>
    obtain ⟨rfl, rfl⟩ := hcut
    go_wp2_with fail
    go_loopw [13, 14] (fun sv iv wr => ∃ i : Nat, i ≤ 3 ∧ (i = 0 ∨ i + 1 ≤ x.length) ∧ iv = .int .i64 i ∧ sv = .bool (decide (AparS p q x y i)) ∧ Hid (Below wc.heap.size wc wr)) (fun _ iv _ => 4 - (intOf iv).toNat)
    case atStart => exact ⟨0, by omega, .inl rfl, rfl, rfl, Lib.hid (Below.refl _ _)⟩
    case round =>
      obtain ⟨i, hi, hix, rfl, rfl, B2⟩ := hrel
      have BB := Lib.hid (low_go B.out B2.out)
      have wi : IntKind.i64.wrap ((i : Int) + 1) = (i : Int) + 1 := by rw [IntKind.wrap_i64]; omega
      by_cases hs : AparS p q x y i
      rotate_left
      · have z1 : decide (k < n) = false := decide_eq_false fun z => same_not hs hix (SW.out.2 z)
        have z2 : ¬ k < n := of_decide_eq_false z1
        rw [decide_eq_false hs]
        clear hs SW H1 H2
        by_cases hlt : i + 1 < x.length
        · have d1 : decide ((i : Int) + 1 < (x.length : Int)) = true := by simp; omega
          have e1 : (i : Int) + 1 < (x.length : Int) := by omega
          clear hix hlt
          go_wp2_with fail
          go_ret
          exact ⟨rfl, BB.out⟩
        · have d1 : decide ((i : Int) + 1 < (x.length : Int)) = false := by simp; omega
          have e1 : ¬ (i : Int) + 1 < (x.length : Int) := by omega
          clear hix hlt
          go_wp2_with fail
          go_ret
          exact ⟨rfl, BB.out⟩
      by_cases hlt : i + 1 < x.length
      rotate_left
      · have z2 : k < n := SW.out.1 (same_of hs (by omega))
        have z1 : decide (k < n) = true := decide_eq_true z2
        rw [decide_eq_true hs]
        have d1 : decide ((i : Int) + 1 < (x.length : Int)) = false := by simp; omega
        have e1 : ¬ (i : Int) + 1 < (x.length : Int) := by omega
        clear hs SW H1 H2 hix hlt
        go_wp2_with fail
        go_ret
        exact ⟨rfl, BB.out⟩
      have hl := hs.2.1
      obtain ⟨u, hu⟩ : ∃ u, x[i]? = some u := ⟨x[i]'(by omega), List.getElem?_eq_getElem (by omega)⟩
      obtain ⟨v, hv⟩ : ∃ v, y[i]? = some v := ⟨y[i]'(by omega), List.getElem?_eq_getElem (by omega)⟩
      obtain ⟨ba, oa, rfl, hba, hca⟩ := (H1.out.below B2.out) (by omega)
      obtain ⟨bb, ob, rfl, hbb, hcb⟩ := (H2.out.below B2.out) (by omega)
      have DA : Hid (∀ W, More wr W → W.cell? ⟨ba, oa + i, none⟩ = some (.int .i64 u)) := Lib.hid fun W hW => (Below.cell (p := ⟨ba, oa + i, none⟩) hW hba).trans (hca i u hu)
      have DB : Hid (∀ W, More wr W → W.cell? ⟨bb, ob + i, none⟩ = some (.int .i64 v)) := Lib.hid fun W hW => (Below.cell (p := ⟨bb, ob + i, none⟩) hW hbb).trans (hcb i v hv)
      have i0 : (0 : Int) ≤ (i : Int) := by omega
      have i1 : (i : Int) < (x.length : Int) := by omega
      have i2 : (i : Int) < (y.length : Int) := by omega
      have d1 : decide ((i : Int) + 1 < (x.length : Int)) = true := by simp; omega
      have e1 : (i : Int) + 1 < (x.length : Int) := by omega
      have E : decide (AparS p q x y (i + 1)) = (u == v) := by
        by_cases e : u = v
        · rw [decide_eq_true (apar_next hs (by rw [hu, hv, e])), e]; simp
        · rw [decide_eq_false (fun r : AparS p q x y (i + 1) => e (by have := r.2.2 i (by omega); rw [hu, hv] at this; injection this)), eq_comm, beq_eq_false_iff_ne]; exact e
      rw [decide_eq_true hs]
      obtain ⟨t, ht⟩ : ∃ t, (u == v) = t := ⟨_, rfl⟩
      rw [ht] at E
      have EE := Lib.hid E
      clear hs hca hcb hu hv hl BB E SW
      go_upto_region 17 with fail
      refine wp_region_class (More wr) (by kernel_rfl) (by kernel_rfl) (More.drew _) ?_
      repeat (first | go_big_quiet_skip | (go_big_quiet_want; first | (refine quiet_int (.tmp 99) rfl ⟨ba, oa + i, none⟩ rfl _ (by intro w' hw'; exact DA.out w' hw') ?_; simp only [Act.put, List.setIfInBounds_toArray, List.set_cons_zero, List.set_cons_succ]; go_big_quiet_on) | (refine quiet_int (.tmp 103) rfl ⟨bb, ob + i, none⟩ rfl _ (by intro w' hw'; exact DB.out w' hw') ?_; simp only [Act.put, List.setIfInBounds_toArray, List.set_cons_zero, List.set_cons_succ]; go_big_quiet_on) | (go_big_quiet_op; first | go_big_quiet_on | (apply Exists.intro; refine ⟨fun _ _ => ?_, ?_⟩; (with_reducible exact rfl); go_big_quiet_on))))
      refine wpQuiet_nil ?_
      intro w7 hw7
      have B7 := Lib.hid (low_go B2.out hw7)
      clear hw7
      go_wp2_with fail
      go_roundw
      case rel => exact ⟨i + 1, by omega, .inr (by omega), by congr 1, by rw [EE.out], B7⟩
      case measure => simp [intOf]; omega
end Go.Proofs.Ytnneppkkmhjpbaa
