import Derived.Test.YtkblpildfeopiaaBitsL3
namespace Go.Proofs.Ytkblpildfeopiaa
open Go.RowKit

theorem inR_nat {i : Int} (h : inR i = true) : ∃ k : Nat, i = k ∧ k < 2048 := by
  unfold inR at h
  rw [Bool.and_eq_true, decide_eq_true_iff, decide_eq_true_iff] at h
  obtain ⟨k, rfl⟩ := Int.eq_ofNat_of_zero_le h.1
  exact ⟨k, rfl, by omega⟩
theorem inR_out {i : Int} (h : inR i = false) : i < 0 ∨ 2048 ≤ i := by
  unfold inR at h
  rw [Bool.and_eq_false_iff, decide_eq_false_iff_not, decide_eq_false_iff_not] at h
  omega
theorem turns_inR {X : Blk} {i : Int} {v : Bool} (h : turns X i v = true) : ∃ k : Nat, i = k ∧ k < 2048 ∧ bit X k = !v := by
  have hr : inR i = true := by
    unfold turns at h; rw [Bool.and_eq_true] at h; exact h.1
  obtain ⟨k, rfl, hk⟩ := inR_nat hr
  rw [turns_in hk] at h
  exact ⟨k, rfl, hk, by revert h; cases bit X k <;> cases v <;> simp⟩
theorem has_turn_other {X : Blk} {i k : Int} {v : Bool} (h : i ≠ k) : hasI (turnB X i v) k = hasI X k := by
  cases ht : turns X i v
  · rw [turnB_no ht]
  · obtain ⟨j, rfl, hj, _⟩ := turns_inR ht
    rw [turnB_yes ht]
    cases hr : inR k
    · rw [hasI_out (inR_out hr), hasI_out (inR_out hr)]
    · obtain ⟨m, rfl, hm⟩ := inR_nat hr
      rw [hasI_nat hm, hasI_nat hm, bit_setB hm, if_neg (by omega)]
theorem has_turn {X : Blk} {i : Int} {v : Bool} (h : turns X i v = true) : hasI (turnB X i v) i = v := by
  obtain ⟨j, rfl, hj, _⟩ := turns_inR h
  rw [turnB_yes h, hasI_nat hj, bit_setB hj, if_pos rfl]
theorem turns_has {X : Blk} {i : Int} {v : Bool} (h : turns X i v = true) : hasI X i = !v := by
  obtain ⟨j, rfl, hj, hb⟩ := turns_inR h
  rw [hasI_nat hj, hb]
theorem turns_back {X : Blk} {i : Int} {v : Bool} (h : turns X i v = true) : turns (turnB X i v) i (!v) = true ∧ turnB (turnB X i v) i (!v) = X := by
  obtain ⟨j, rfl, hj, hb⟩ := turns_inR h
  have h2 : turns (turnB X j v) j (!v) = true := by
    rw [turnB_yes h, turns_in hj, bit_setB hj, if_pos rfl]; cases v <;> rfl
  refine ⟨h2, ?_⟩
  rw [turnB_yes h2, turnB_yes h, setB_setB, setB_same hb]
theorem turns_false (X : Blk) (i : Int) : turns X i false = hasI X i := by
  cases hr : inR i
  · rw [turns_out (inR_out hr), hasI_out (inR_out hr)]
  · obtain ⟨k, rfl, hk⟩ := inR_nat hr
    rw [turns_in hk, hasI_nat hk]; simp
theorem has_cleared (X : Blk) (i : Int) : hasI (turnB X i false) i = false := by
  cases ht : turns X i false
  · rw [turnB_no ht, ← turns_false, ht]
  · exact has_turn ht
set_option maxRecDepth 100000 in
set_option maxHeartbeats 2000000 in
/-- The second half: the copy is as it was. -/
theorem bitsBack_any (hS : BitsSays) (X : Blk) (i k : Int) (w : World) (h2 : I64 i) (h3 : I64 k) :
    Calls Try.prog 9 #[.agg (arr X), .int .i64 i, .int .i64 k] w fun e w' => e = .returned (.bool true) ∧ Below w.heap.size w w' := by
  have HS := Lib.hid hS
  have H2 := Lib.hid h2
  have H3 := Lib.hid h3
  clear hS h2 h3
  have hz := fun W => zero_blk W
  have V0 : Hid (Var (w.alloc (.cells (arr X) 23)) w.heap.size X) := Lib.hid (heap_alloc_new w _)
  have B0 := Lib.hid ((Below.refl w.heap.size w).alloc (Nat.le_refl _) (.cells (arr X) 23))
  have hgd := blk_guard
  go_enter Try.func9, Try.ntmps9
  go_wp2_with fail
  generalize w.alloc (.cells (arr X) 23) = w1 at V0 B0 ⊢
  refine (bAwake_any HS.out w1).mono ?_
  rintro e w2 ⟨rfl, hb⟩
  have V2 := Lib.hid (V0.out.below hb)
  have B2 := Lib.hid (B0.out.trans (hb.mono B0.out.size))
  clear hb V0 B0
  go_wp2_with (first
    | (refine load_blk rfl (.tmp 3) rfl w.heap.size 0 rfl X V2.out.at ?_)
    | (refine store_row rfl (.tmp 7) (.tmp 12) rfl w2.heap.size X .zero 23 rfl rfl (heap_alloc_new w2 _) ?_; rw [World.setRow_alloc_new]))
  have hb : Below w2.heap.size w2 (w2.alloc (.cells (arr X) 23)) := (Below.refl _ _).alloc (Nat.le_refl _) _
  have C3 : Hid (Var (w2.alloc (.cells (arr X) 23)) w2.heap.size X) := Lib.hid (heap_alloc_new w2 _)
  have V3 := Lib.hid (V2.out.below hb)
  have B3 := Lib.hid (B2.out.trans (hb.mono B2.out.size))
  have NE : Hid (w.heap.size < w2.heap.size) := Lib.hid V2.out.lt
  clear hb V2 B2
  generalize w2.alloc (.cells (arr X) 23) = w3 at C3 V3 B3 ⊢
  generalize w2.heap.size = g at C3 NE ⊢
  refine (HS.out.set X g i w3 H2.out C3.out).mono ?_
  rintro e w4 ⟨rfl, hv, hb⟩
  have C4 := Lib.hid hv
  have V4 := Lib.hid (V3.out.but hb (by have := NE.out; omega))
  have B4 := Lib.hid (hb.below B3.out (by have := NE.out; omega) B3.out.size)
  clear hv hb C3 V3 B3
  cases hs : turns X i true
  · have e1 := turnB_no hs
    rw [e1] at C4
    have heq := fun W => equalIn_blk X X W
    have d1 : decide (X = X) = true := decide_eq_true rfl
    have hxx : (hasI X k == hasI X k) = true := by simp
    have hxn : (hasI X k != hasI X k) = false := by simp
    have hne : ((i : Int) != k) = !(i == k) := rfl
    cases hik : (i == k)
    all_goals
      rw [hik] at hne
      go_wp2_with fail
      refine wp_region_class (More w4) (by kernel_rfl) (by kernel_rfl) (More.drew _) ?_
      repeat (first | go_big_quiet_skip | (go_big_quiet_want; first | (refine quiet_load _ rfl _ _ rfl _ (by intro w' hw'; first | exact (C4.out.below hw').at | exact (V4.out.below hw').at) ?_; simp only [Act.put, List.setIfInBounds_toArray, List.set_cons_zero, List.set_cons_succ]; go_big_quiet_on) | (go_big_quiet_op; first | go_big_quiet_on | (apply Exists.intro; refine ⟨fun _ _ => ?_, ?_⟩; (with_reducible exact rfl); go_big_quiet_on) | go_big_quiet_call ((intro hC; first | (with_reducible refine (HS.out.has X k _ H3.out).mono ?_); exact fun e w' h => ⟨h.1, hC.on h.2⟩)))))
      refine wpQuiet_nil ?_
      intro w5 hw5
      have C5 := Lib.hid (C4.out.below hw5)
      have V5 := Lib.hid (V4.out.below hw5)
      have B5 := Lib.hid (B4.out.trans (Below.mono hw5 B4.out.size))
      clear hw5
      go_wp2_with fail
      refine (HS.out.clear X g i w5 H2.out C5.out).mono ?_
      rintro e w6 ⟨rfl, hv, hb⟩
      have C6 := Lib.hid hv
      have V6 := Lib.hid (V5.out.but hb (by have := NE.out; omega))
      have B6 := Lib.hid (hb.below B5.out (by have := NE.out; omega) B5.out.size)
      clear hv hb C5 V5 B5
      have TF := Lib.hid (turns_false X i)
      have HC := Lib.hid (has_cleared X i)
      cases hc : hasI X i
      · rw [TF.out, hc]
        have e6 : turnB X i false = X := turnB_no (by rw [TF.out, hc])
        rw [e6] at C6
        have HX := Lib.hid hc
        clear hc
        go_wp2_with (first
          | (refine load_blk rfl (.tmp 3) rfl w.heap.size 0 rfl X V6.out.at ?_)
          | (go_at_call 11; have _t := C6.out; refine (HS.out.has X i _ H2.out).mono ?_; rintro e w7 ⟨rfl, hb⟩; rw [HX.out]; have C7 := Lib.hid (C6.out.below hb); have B7 := Lib.hid (B6.out.trans (hb.mono B6.out.size)); clear hb C6 _t)
          | (refine load_blk_w (by rfl) (.tmp 7) rfl g 0 rfl X C7.out.at ?_)
          | (go_at_call 11; refine (HS.out.has X i _ H2.out).mono ?_; rintro e w8 ⟨rfl, hb⟩; rw [HX.out]; have B8 := Lib.hid (B7.out.trans (hb.mono B7.out.size)); clear hb))
        go_ret
        exact ⟨rfl, B8.out⟩
      · rw [TF.out, hc]
        have hb2 := turns_back (X := X) (i := i) (v := false) (by rw [TF.out, hc])
        have TB := Lib.hid hb2.1
        have TC := Lib.hid hb2.2
        have HX := Lib.hid hc
        clear hc hb2
        obtain ⟨Z, hZ⟩ : ∃ Z, turnB X i false = Z := ⟨_, rfl⟩
        rw [hZ] at C6 HC TB TC
        clear hZ
        have heq9 := fun W => equalIn_blk X X W
        have d9 : decide (X = X) = true := decide_eq_true rfl
        go_wp2_with (first
          | (refine load_blk rfl (.tmp 3) rfl w.heap.size 0 rfl X V6.out.at ?_)
          | (go_at_call 11; have _t := C6.out; (with_reducible refine (HS.out.has X i _ H2.out).mono ?_); rintro e w7 ⟨rfl, hb⟩; rw [HX.out]; have C7 := Lib.hid (C6.out.below hb); have V7 := Lib.hid (V6.out.below hb); have B7 := Lib.hid (B6.out.trans (hb.mono B6.out.size)); clear hb C6 _t)
          | (refine load_blk_w (by rfl) (.tmp 7) rfl g 0 rfl Z C7.out.at ?_)
          | (go_at_call 11; (with_reducible refine (HS.out.has Z i _ H2.out).mono ?_); rintro e w8 ⟨rfl, hb⟩; rw [HC.out]; have C8 := Lib.hid (C7.out.below hb); have V8 := Lib.hid (V7.out.below hb); have B8 := Lib.hid (B7.out.trans (hb.mono B7.out.size)); clear hb C7)
          | (go_at_call 17; refine (HS.out.set Z g i _ H2.out C8.out).mono ?_; rintro e w9 ⟨rfl, hv, hb⟩; rw [show turns Z i true = true from TB.out]; rw [show turnB Z i true = X from TC.out] at hv; have C9 := Lib.hid hv; have V9 := Lib.hid (V8.out.but hb (by have := NE.out; omega)); have B9 := Lib.hid (hb.below B8.out (by have := NE.out; omega) B8.out.size); clear hv hb C8)
          | (refine load_blk_w (by rfl) (.tmp 7) rfl g 0 rfl X C9.out.at ?_)
          | (refine load_blk_w (by rfl) (.tmp 3) rfl w.heap.size 0 rfl X V9.out.at ?_))
        go_ret
        exact ⟨rfl, B9.out⟩
  · have e2 : hasI X i = false := turns_has hs
    have e3 := has_turn hs
    have e4 : turns (turnB X i true) i false = true ∧ turnB (turnB X i true) i false = X := turns_back hs
    have HE2 := Lib.hid e2
    have HE3 := Lib.hid e3
    have HE4 := Lib.hid e4.1
    have HE5 := Lib.hid e4.2
    have HO : Hid (i ≠ k → hasI (turnB X i true) k = hasI X k) := Lib.hid fun h => has_turn_other h
    clear e2 e3 e4 hs
    obtain ⟨Y, hY⟩ : ∃ Y, turnB X i true = Y := ⟨_, rfl⟩
    rw [hY] at C4 HE3 HE4 HE5 HO
    clear hY
    have heq := fun W => equalIn_blk X X W
    have d1 : decide (X = X) = true := decide_eq_true rfl
    have hxx : (hasI X k == hasI X k) = true := by simp
    have hxn : (hasI X k != hasI X k) = false := by simp
    have hne : ((i : Int) != k) = !(i == k) := rfl
    have CX2 : Hid (∀ W, Calls Try.prog 11 #[.agg (arr X), .int .i64 i] W fun e w' => e = .returned (.bool false) ∧ Below W.heap.size W w') := Lib.hid fun W => (HS.out.has X i W H2.out).mono fun e w' q => ⟨by rw [q.1, HE2.out], q.2⟩
    have CX3 : Hid (∀ W, Calls Try.prog 11 #[.agg (arr Y), .int .i64 i] W fun e w' => e = .returned (.bool true) ∧ Below W.heap.size W w') := Lib.hid fun W => (HS.out.has Y i W H2.out).mono fun e w' q => ⟨by rw [q.1, HE3.out], q.2⟩
    cases hik : (i == k)
    · rw [hik] at hne
      have HOK := Lib.hid (HO.out (by simpa using hik))
      have CX1 : Hid (∀ W, Calls Try.prog 11 #[.agg (arr Y), .int .i64 k] W fun e w' => e = .returned (.bool (hasI X k)) ∧ Below W.heap.size W w') := Lib.hid fun W => (HS.out.has Y k W H3.out).mono fun e w' q => ⟨by rw [q.1, HOK.out], q.2⟩
      clear hik
      go_wp2_with fail
      refine wp_region_class (More w4) (by kernel_rfl) (by kernel_rfl) (More.drew _) ?_
      repeat (first | go_big_quiet_skip | (go_big_quiet_want; first | (refine quiet_load _ rfl _ _ rfl _ (by intro w' hw'; first | exact (C4.out.below hw').at | exact (V4.out.below hw').at) ?_; simp only [Act.put, List.setIfInBounds_toArray, List.set_cons_zero, List.set_cons_succ]; go_big_quiet_on) | (go_big_quiet_op; first | go_big_quiet_on | (apply Exists.intro; refine ⟨fun _ _ => ?_, ?_⟩; (with_reducible exact rfl); go_big_quiet_on) | go_big_quiet_call ((intro hC; first | (with_reducible refine (HS.out.has X k _ H3.out).mono ?_); exact fun e w' h => ⟨h.1, hC.on h.2⟩ | (with_reducible refine (CX1.out _).mono ?_); exact fun e w' h => ⟨h.1, hC.on h.2⟩ | (with_reducible refine (CX2.out _).mono ?_); exact fun e w' h => ⟨h.1, hC.on h.2⟩ | (with_reducible refine (CX3.out _).mono ?_); exact fun e w' h => ⟨h.1, hC.on h.2⟩)))))
      refine wpQuiet_nil ?_
      intro w5 hw5
      have C5' := Lib.hid (C4.out.below hw5)
      have V5' := Lib.hid (V4.out.below hw5)
      have B5' := Lib.hid (B4.out.trans (Below.mono hw5 B4.out.size))
      clear hw5 C4 V4 B4
      go_wp2_with (first
        | (go_at_call 18; (with_reducible refine (HS.out.clear Y g i _ H2.out C5'.out).mono ?_); rintro e w5 ⟨rfl, hv, hb⟩; rw [HE4.out]; rw [HE5.out] at hv; have C5 := Lib.hid hv; have V5 := Lib.hid (V5'.out.but hb (by have := NE.out; omega)); have B5 := Lib.hid (hb.below B5'.out (by have := NE.out; omega) B5'.out.size); clear hv hb C5' V5' B5')
        | (refine load_blk_w (by rfl) (.tmp 7) rfl g 0 rfl X C5.out.at ?_)
        | (refine load_blk_w (by rfl) (.tmp 3) rfl w.heap.size 0 rfl X V5.out.at ?_))
      refine (HS.out.clear X g i w5 H2.out C5.out).mono ?_
      rintro e w6 ⟨rfl, hv, hb⟩
      have C6 := Lib.hid hv
      have V6 := Lib.hid (V5.out.but hb (by have := NE.out; omega))
      have B6 := Lib.hid (hb.below B5.out (by have := NE.out; omega) B5.out.size)
      clear hv hb C5 V5 B5
      have TF := Lib.hid (turns_false X i)
      have HC := Lib.hid (has_cleared X i)
      cases hc : hasI X i
      · rw [TF.out, hc]
        have e6 : turnB X i false = X := turnB_no (by rw [TF.out, hc])
        rw [e6] at C6
        have HX := Lib.hid hc
        clear hc
        go_wp2_with (first
          | (refine load_blk rfl (.tmp 3) rfl w.heap.size 0 rfl X V6.out.at ?_)
          | (go_at_call 11; have _t := C6.out; refine (HS.out.has X i _ H2.out).mono ?_; rintro e w7 ⟨rfl, hb⟩; rw [HX.out]; have C7 := Lib.hid (C6.out.below hb); have B7 := Lib.hid (B6.out.trans (hb.mono B6.out.size)); clear hb C6 _t)
          | (refine load_blk_w (by rfl) (.tmp 7) rfl g 0 rfl X C7.out.at ?_)
          | (go_at_call 11; refine (HS.out.has X i _ H2.out).mono ?_; rintro e w8 ⟨rfl, hb⟩; rw [HX.out]; have B8 := Lib.hid (B7.out.trans (hb.mono B7.out.size)); clear hb))
        go_ret
        exact ⟨rfl, B8.out⟩
      · rw [TF.out, hc]
        have hb2 := turns_back (X := X) (i := i) (v := false) (by rw [TF.out, hc])
        have TB := Lib.hid hb2.1
        have TC := Lib.hid hb2.2
        have HX := Lib.hid hc
        clear hc hb2
        obtain ⟨Z, hZ⟩ : ∃ Z, turnB X i false = Z := ⟨_, rfl⟩
        rw [hZ] at C6 HC TB TC
        clear hZ
        have heq9 := fun W => equalIn_blk X X W
        have d9 : decide (X = X) = true := decide_eq_true rfl
        go_wp2_with (first
          | (refine load_blk rfl (.tmp 3) rfl w.heap.size 0 rfl X V6.out.at ?_)
          | (go_at_call 11; have _t := C6.out; (with_reducible refine (HS.out.has X i _ H2.out).mono ?_); rintro e w7 ⟨rfl, hb⟩; rw [HX.out]; have C7 := Lib.hid (C6.out.below hb); have V7 := Lib.hid (V6.out.below hb); have B7 := Lib.hid (B6.out.trans (hb.mono B6.out.size)); clear hb C6 _t)
          | (refine load_blk_w (by rfl) (.tmp 7) rfl g 0 rfl Z C7.out.at ?_)
          | (go_at_call 11; (with_reducible refine (HS.out.has Z i _ H2.out).mono ?_); rintro e w8 ⟨rfl, hb⟩; rw [HC.out]; have C8 := Lib.hid (C7.out.below hb); have V8 := Lib.hid (V7.out.below hb); have B8 := Lib.hid (B7.out.trans (hb.mono B7.out.size)); clear hb C7)
          | (go_at_call 17; refine (HS.out.set Z g i _ H2.out C8.out).mono ?_; rintro e w9 ⟨rfl, hv, hb⟩; rw [show turns Z i true = true from TB.out]; rw [show turnB Z i true = X from TC.out] at hv; have C9 := Lib.hid hv; have V9 := Lib.hid (V8.out.but hb (by have := NE.out; omega)); have B9 := Lib.hid (hb.below B8.out (by have := NE.out; omega) B8.out.size); clear hv hb C8)
          | (refine load_blk_w (by rfl) (.tmp 7) rfl g 0 rfl X C9.out.at ?_)
          | (refine load_blk_w (by rfl) (.tmp 3) rfl w.heap.size 0 rfl X V9.out.at ?_))
        go_ret
        exact ⟨rfl, B9.out⟩
    · rw [hik] at hne
      clear hik
      go_wp2_with fail
      refine wp_region_class (More w4) (by kernel_rfl) (by kernel_rfl) (More.drew _) ?_
      repeat (first | go_big_quiet_skip | (go_big_quiet_want; first | (refine quiet_load _ rfl _ _ rfl _ (by intro w' hw'; first | exact (C4.out.below hw').at | exact (V4.out.below hw').at) ?_; simp only [Act.put, List.setIfInBounds_toArray, List.set_cons_zero, List.set_cons_succ]; go_big_quiet_on) | (go_big_quiet_op; first | go_big_quiet_on | (apply Exists.intro; refine ⟨fun _ _ => ?_, ?_⟩; (with_reducible exact rfl); go_big_quiet_on) | go_big_quiet_call ((intro hC; first | (with_reducible refine (CX2.out _).mono ?_); exact fun e w' h => ⟨h.1, hC.on h.2⟩ | (with_reducible refine (CX3.out _).mono ?_); exact fun e w' h => ⟨h.1, hC.on h.2⟩)))))
      refine wpQuiet_nil ?_
      intro w5 hw5
      have C5' := Lib.hid (C4.out.below hw5)
      have V5' := Lib.hid (V4.out.below hw5)
      have B5' := Lib.hid (B4.out.trans (Below.mono hw5 B4.out.size))
      clear hw5 C4 V4 B4
      go_wp2_with (first
        | (go_at_call 18; (with_reducible refine (HS.out.clear Y g i _ H2.out C5'.out).mono ?_); rintro e w5 ⟨rfl, hv, hb⟩; rw [HE4.out]; rw [HE5.out] at hv; have C5 := Lib.hid hv; have V5 := Lib.hid (V5'.out.but hb (by have := NE.out; omega)); have B5 := Lib.hid (hb.below B5'.out (by have := NE.out; omega) B5'.out.size); clear hv hb C5' V5' B5')
        | (refine load_blk_w (by rfl) (.tmp 7) rfl g 0 rfl X C5.out.at ?_)
        | (refine load_blk_w (by rfl) (.tmp 3) rfl w.heap.size 0 rfl X V5.out.at ?_))
      refine (HS.out.clear X g i w5 H2.out C5.out).mono ?_
      rintro e w6 ⟨rfl, hv, hb⟩
      have C6 := Lib.hid hv
      have V6 := Lib.hid (V5.out.but hb (by have := NE.out; omega))
      have B6 := Lib.hid (hb.below B5.out (by have := NE.out; omega) B5.out.size)
      clear hv hb C5 V5 B5
      have TF := Lib.hid (turns_false X i)
      have HC := Lib.hid (has_cleared X i)
      cases hc : hasI X i
      · rw [TF.out, hc]
        have e6 : turnB X i false = X := turnB_no (by rw [TF.out, hc])
        rw [e6] at C6
        have HX := Lib.hid hc
        clear hc
        go_wp2_with (first
          | (refine load_blk rfl (.tmp 3) rfl w.heap.size 0 rfl X V6.out.at ?_)
          | (go_at_call 11; have _t := C6.out; refine (HS.out.has X i _ H2.out).mono ?_; rintro e w7 ⟨rfl, hb⟩; rw [HX.out]; have C7 := Lib.hid (C6.out.below hb); have B7 := Lib.hid (B6.out.trans (hb.mono B6.out.size)); clear hb C6 _t)
          | (refine load_blk_w (by rfl) (.tmp 7) rfl g 0 rfl X C7.out.at ?_)
          | (go_at_call 11; refine (HS.out.has X i _ H2.out).mono ?_; rintro e w8 ⟨rfl, hb⟩; rw [HX.out]; have B8 := Lib.hid (B7.out.trans (hb.mono B7.out.size)); clear hb))
        go_ret
        exact ⟨rfl, B8.out⟩
      · rw [TF.out, hc]
        have hb2 := turns_back (X := X) (i := i) (v := false) (by rw [TF.out, hc])
        have TB := Lib.hid hb2.1
        have TC := Lib.hid hb2.2
        have HX := Lib.hid hc
        clear hc hb2
        obtain ⟨Z, hZ⟩ : ∃ Z, turnB X i false = Z := ⟨_, rfl⟩
        rw [hZ] at C6 HC TB TC
        clear hZ
        have heq9 := fun W => equalIn_blk X X W
        have d9 : decide (X = X) = true := decide_eq_true rfl
        go_wp2_with (first
          | (refine load_blk rfl (.tmp 3) rfl w.heap.size 0 rfl X V6.out.at ?_)
          | (go_at_call 11; have _t := C6.out; (with_reducible refine (HS.out.has X i _ H2.out).mono ?_); rintro e w7 ⟨rfl, hb⟩; rw [HX.out]; have C7 := Lib.hid (C6.out.below hb); have V7 := Lib.hid (V6.out.below hb); have B7 := Lib.hid (B6.out.trans (hb.mono B6.out.size)); clear hb C6 _t)
          | (refine load_blk_w (by rfl) (.tmp 7) rfl g 0 rfl Z C7.out.at ?_)
          | (go_at_call 11; (with_reducible refine (HS.out.has Z i _ H2.out).mono ?_); rintro e w8 ⟨rfl, hb⟩; rw [HC.out]; have C8 := Lib.hid (C7.out.below hb); have V8 := Lib.hid (V7.out.below hb); have B8 := Lib.hid (B7.out.trans (hb.mono B7.out.size)); clear hb C7)
          | (go_at_call 17; refine (HS.out.set Z g i _ H2.out C8.out).mono ?_; rintro e w9 ⟨rfl, hv, hb⟩; rw [show turns Z i true = true from TB.out]; rw [show turnB Z i true = X from TC.out] at hv; have C9 := Lib.hid hv; have V9 := Lib.hid (V8.out.but hb (by have := NE.out; omega)); have B9 := Lib.hid (hb.below B8.out (by have := NE.out; omega) B8.out.size); clear hv hb C8)
          | (refine load_blk_w (by rfl) (.tmp 7) rfl g 0 rfl X C9.out.at ?_)
          | (refine load_blk_w (by rfl) (.tmp 3) rfl w.heap.size 0 rfl X V9.out.at ?_))
        go_ret
        exact ⟨rfl, B9.out⟩
end Go.Proofs.Ytkblpildfeopiaa
