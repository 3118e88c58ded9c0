import Derived.Test.YtkolpdllogpklaaCaP5
namespace Go.Proofs.Ytkolpdllogpklaa
open Go.RowKit Go.Maps

/-! The landed cache: Back. -/
theorem back_has {c : CS} {b : Int} {X : Blk} (he : c.err b = 0) (hm : c.m b = some (X, true)) (hd : c.d.err b = 0) : c.back b = { c with d := c.d.write b X, m := setM c.m b (some (X, false)) } := by
  unfold CS.back
  rw [if_pos ⟨he, hd⟩, hm]
theorem back_bad {c : CS} {b : Int} (hd : c.d.err b ≠ 0) : c.back b = c := by
  unfold CS.back
  rw [if_neg (fun q => hd q.2)]
theorem back_none {c : CS} {b : Int} (hm : c.isD b = false) : c.back b = c := by
  unfold CS.isD at hm
  unfold CS.back
  split
  · cases hc : c.m b with
    | none => rfl
    | some e =>
      obtain ⟨X, d⟩ := e
      rw [hc] at hm
      have : d = false := hm
      subst this
      rfl
  · rfl
theorem backE_none {c : CS} {b : Int} (he : c.err b = 0) (hm : c.isD b = false) : c.backE b = 0 := by
  unfold CS.isD at hm
  unfold CS.backE
  rw [if_pos he]
  cases hc : c.m b with
  | none => rfl
  | some e =>
    obtain ⟨X, d⟩ := e
    rw [hc] at hm
    have : d = false := hm
    subst this
    rfl
theorem backE_has {c : CS} {b : Int} {X : Blk} (he : c.err b = 0) (hm : c.m b = some (X, true)) : c.backE b = c.d.err b := by
  unfold CS.backE
  rw [if_pos he, hm]
section
variable (w : World) (cb bm pm : Nat) (c : CS) (av : Av)
set_option maxRecDepth 100000 in
set_option maxHeartbeats 4000000 in
theorem cBack (b : Int) (h : CAt w cb bm pm c av) (ha : c.d.acts < 1000000) : Calls Try.prog 18 #[.pointer (some ⟨cb, 0, none⟩), .int .i64 b] w fun e w' => e = .returned (.int .i64 (c.backE b)) ∧ CaW w cb bm pm (c.back b) av w' := by
  have hzh := fun W => zero_held W
  have RF := Lib.hid (cRefusal _ cb bm pm c _ b h)
  have H0 := Lib.hid h
  have BD := Lib.hid h.bound
  have c1 := h.c1
  have HA := Lib.hid ha
  clear h ha
  by_cases he : c.err b = 0
  · have HI := Lib.hid (CS.in_of he)
    have HNN : Hid (c.n ≤ 2048) := Lib.hid (dk_ok H0.out.disk).2.1
    have HB : Hid (I64 b) := Lib.hid (by have h1 := HI.out; have := HNN.out; unfold I64; omega)
    rw [he] at RF
    obtain ⟨X, d, hX⟩ : ∃ X d, entOr (c.m b) = (X, d) := ⟨_, _, rfl⟩
    have HX := Lib.hid hX
    cases d
    · have hn : c.isD b = false := by
        unfold CS.isD
        cases hc : c.m b with
        | none => rfl
        | some e => rw [hc] at hX; have : e = (X, false) := hX; rw [this]
      have EW : Hid (c.back b = c) := Lib.hid (back_none hn)
      have EE : Hid (c.backE b = 0) := Lib.hid (backE_none he hn)
      rw [EE.out]
      clear he hX hn EE
      have c2 := (HVar.new w X false).flag
      go_enter Try.func18, Try.ntmps18
      go_upto_region 4 with (go_at_call 33; refine RF.out.mono ?_; rintro e w1 ⟨rfl, hw1⟩; obtain rfl := hw1.symm; clear RF)
      go_upto_region 5 with (first
        | (at_lookup; refine look_one rfl (.tmp 17) (.tmp 18) rfl rfl H0.out.has HB.out rfl X false HX.out ?_)
        | (refine store_held rfl (.tmp 6) (.tmp 19) rfl X false rfl rfl ?_))
      go_wp2_with fail
      go_ret
      exact ⟨rfl, by rw [EW.out]; exact CaW.of_below H0.out (below_newI w _)⟩
    · have hm : c.m b = some (X, true) := by
        cases hc : c.m b with
        | none => rw [hc] at hX; have : (Blk.zero, false) = (X, true) := hX; cases (Prod.mk.inj this).2
        | some e => rw [hc] at hX; have : e = (X, true) := hX; rw [this]
      have EE : Hid (c.backE b = c.d.err b) := Lib.hid (backE_has he hm)
      rw [EE.out]
      have DW := Lib.hid (fun (W : World) (av2 : Av) (h : CAt W cb bm pm c av2) => dk_write c.a c.d _ b X W h.disk HA.out)
      by_cases hd : c.d.err b = 0
      · have EW : Hid (c.back b = { c with d := c.d.write b X, m := setM c.m b (some (X, false)) }) := Lib.hid (back_has he hm hd)
        rw [hd] at DW ⊢
        clear he hX hm EE hd
        have A2 := Lib.hid (H0.out.plus (.cells (hcell X true) 75))
        have V2 := Lib.hid (HVar.new w X true)
        have K2 : Hid (Keep av w (w.alloc (.cells (hcell X true) 75))) := Lib.hid ((Keep.of_below (below_newI w _)).mono BD.out)
        go_enter Try.func18, Try.ntmps18
        go_upto_region 4 with (go_at_call 33; refine RF.out.mono ?_; rintro e w1 ⟨rfl, hw1⟩; obtain rfl := hw1.symm; clear RF)
        go_upto_region 5 with (first
          | (at_lookup; refine look_one rfl (.tmp 17) (.tmp 18) rfl rfl H0.out.has HB.out rfl X true HX.out ?_)
          | (refine store_held rfl (.tmp 6) (.tmp 19) rfl X true rfl rfl ?_))
        generalize w.alloc (.cells (hcell X true) 75) = w2 at *
        have NB : Hid (¬ av w.heap.size) := Lib.hid fun q => Nat.lt_irrefl _ (BD.out _ q)
        generalize w.heap.size = g2 at A2 V2 NB ⊢
        have f2 := V2.out.flag
        go_upto_region 7 with fail
        refine wp_region_class_tail (More w2) 7 (by kernel_rfl) (by kernel_rfl) (More.drew _) ?_
        simp only [List.take_succ_cons, List.take_zero, List.drop_succ_cons, List.drop_zero]
        repeat (first | go_big_quiet_skip | (go_big_quiet_want; first
          | (refine quiet_disk _ rfl _ (by rfl) c.a (by intro w' hw'; exact (A2.out.below hw').c0) ?_; simp only [Act.put, List.setIfInBounds_toArray, List.set_cons_zero, List.set_cons_succ]; go_big_quiet_on)
          | (refine quiet_load _ rfl _ _ rfl X (by intro w' hw'; exact (V2.out.below hw').at) ?_; simp only [Act.put, List.setIfInBounds_toArray, List.set_cons_zero, List.set_cons_succ]; go_big_quiet_on)
          | (go_big_quiet_op; first | go_big_quiet_on | (apply Exists.intro; refine ⟨fun _ _ => ?_, ?_⟩; (with_reducible exact rfl); go_big_quiet_on))))
        refine wpQuiet_nil ?_
        intro w3 hw3
        have A3 := Lib.hid (A2.out.below hw3)
        have V3 := Lib.hid (V2.out.below hw3)
        have K3 : Hid (Keep av w w3) := Lib.hid (K2.out.trans ((Keep.of_below hw3).mono fun i hi => dk_bound A2.out.disk i (.inl (.inl hi))))
        clear hw3 A2 V2 K2 f2 H0 c1
        go_upto_region 8 with (go_at_call 40; refine (DW.out _ _ A3.out).mono ?_; rintro e w4 ⟨rfl, hd4, hk4⟩)
        have A4 := Lib.hid (A3.out.redisk (write_len _ _ _) hd4 hk4)
        have V4 : Hid (HVar w4 g2 X true) := Lib.hid ((hk4.block g2 (.inl (.inr rfl))).trans V3.out)
        have K4 : Hid (Keep av w w4) := Lib.hid (K3.out.trans (hk4.mono fun i hi => .inl (.inl hi)))
        have HN4 : Hid (CS.n { c with d := c.d.write b X } = c.n) := Lib.hid (write_len _ _ _)
        clear hd4 hk4 A3 V3 K3 DW
        go_upto_region 10 with fail
        refine wp_region_class_tail (More w4) 8 (by kernel_rfl) (by kernel_rfl) (More.drew _) ?_
        simp only [List.take_succ_cons, List.take_zero, List.drop_succ_cons, List.drop_zero]
        repeat (first | go_big_quiet_skip | (go_big_quiet_want; first
          | (refine quiet_map _ rfl _ (by rfl) bm (by intro w' hw'; exact (A4.out.below hw').c1) ?_; simp only [Act.put, List.setIfInBounds_toArray, List.set_cons_zero, List.set_cons_succ]; go_big_quiet_on)
          | (refine quiet_load _ rfl _ _ rfl X (by intro w' hw'; exact (V4.out.below hw').at) ?_; simp only [Act.put, List.setIfInBounds_toArray, List.set_cons_zero, List.set_cons_succ]; go_big_quiet_on)
          | (refine quiet_held1 _ rfl X rfl ?_; simp only [Act.put, List.setIfInBounds_toArray, List.set_cons_zero, List.set_cons_succ]; go_big_quiet_on)
          | (go_big_quiet_op; first | go_big_quiet_on | (apply Exists.intro; refine ⟨fun _ _ => ?_, ?_⟩; (with_reducible exact rfl); go_big_quiet_on))))
        refine wpQuiet_nil ?_
        intro w5 hw5
        have A5 := Lib.hid (A4.out.below hw5)
        have K5 : Hid (Keep av w w5) := Lib.hid (K4.out.trans ((Keep.of_below hw5).mono fun i hi => dk_bound A4.out.disk i (.inl (.inl hi))))
        clear hw5 A4 V4 K4
        go_wp2_with (refine upd_held rfl (.tmp 37) (.tmp 38) (.tmp 41) rfl rfl A5.out.has (by rw [HN4.out]; exact HNN.out) HI.out.1 (by rw [HN4.out]; exact HI.out.2) rfl X false rfl ?_; intro w6 hm6 ht6)
        go_ret
        exact ⟨rfl, by rw [EW.out]; exact (A5.out.remap hm6 ht6).mono fun i hi => .inl hi, K5.out.trans (keep_turned ht6 fun q => A5.out.out.2.1 (.inl q))⟩
      · have EW : Hid (c.back b = c) := Lib.hid (back_bad hd)
        have ED : Hid (c.d.write b X = c.d) := Lib.hid (by unfold DS.write; rw [if_neg hd])
        rw [ED.out] at DW
        obtain ⟨q, hq⟩ : ∃ q, c.d.err b = q := ⟨_, rfl⟩
        rw [hq] at DW hd ⊢
        have t0 : (q != 0) = true := by rw [bne_iff_ne]; exact hd
        have t1 : (q == 0) = false := by rw [beq_eq_false_iff_ne]; exact hd
        clear he hX hm EE hd hq ED
        have A2 := Lib.hid (H0.out.plus (.cells (hcell X true) 75))
        have V2 := Lib.hid (HVar.new w X true)
        have K2 : Hid (Keep av w (w.alloc (.cells (hcell X true) 75))) := Lib.hid ((Keep.of_below (below_newI w _)).mono BD.out)
        go_enter Try.func18, Try.ntmps18
        go_upto_region 4 with (go_at_call 33; refine RF.out.mono ?_; rintro e w1 ⟨rfl, hw1⟩; obtain rfl := hw1.symm; clear RF)
        go_upto_region 5 with (first
          | (at_lookup; refine look_one rfl (.tmp 17) (.tmp 18) rfl rfl H0.out.has HB.out rfl X true HX.out ?_)
          | (refine store_held rfl (.tmp 6) (.tmp 19) rfl X true rfl rfl ?_))
        generalize w.alloc (.cells (hcell X true) 75) = w2 at *
        generalize w.heap.size = g2 at A2 V2 ⊢
        have f2 := V2.out.flag
        go_upto_region 7 with fail
        refine wp_region_class_tail (More w2) 7 (by kernel_rfl) (by kernel_rfl) (More.drew _) ?_
        simp only [List.take_succ_cons, List.take_zero, List.drop_succ_cons, List.drop_zero]
        repeat (first | go_big_quiet_skip | (go_big_quiet_want; first
          | (refine quiet_disk _ rfl _ (by rfl) c.a (by intro w' hw'; exact (A2.out.below hw').c0) ?_; simp only [Act.put, List.setIfInBounds_toArray, List.set_cons_zero, List.set_cons_succ]; go_big_quiet_on)
          | (refine quiet_load _ rfl _ _ rfl X (by intro w' hw'; exact (V2.out.below hw').at) ?_; simp only [Act.put, List.setIfInBounds_toArray, List.set_cons_zero, List.set_cons_succ]; go_big_quiet_on)
          | (go_big_quiet_op; first | go_big_quiet_on | (apply Exists.intro; refine ⟨fun _ _ => ?_, ?_⟩; (with_reducible exact rfl); go_big_quiet_on))))
        refine wpQuiet_nil ?_
        intro w3 hw3
        have A3 := Lib.hid (A2.out.below hw3)
        have K3 : Hid (Keep av w w3) := Lib.hid (K2.out.trans ((Keep.of_below hw3).mono fun i hi => dk_bound A2.out.disk i (.inl (.inl hi))))
        clear hw3 A2 V2 K2 f2 H0 c1
        go_wp2_with (go_at_call 40; refine (DW.out _ _ A3.out).mono ?_; rintro e w4 ⟨rfl, hd4, hk4⟩)
        go_ret
        exact ⟨rfl, by rw [EW.out]; exact (A3.out.redisk rfl hd4 hk4).mono fun i hi => .inl hi, K3.out.trans (hk4.mono fun i hi => .inl (.inl hi))⟩
  · have EE : Hid (c.backE b = c.err b) := Lib.hid (by unfold CS.backE; rw [if_neg he])
    have EW : Hid (c.back b = c) := Lib.hid (by unfold CS.back; rw [if_neg (fun q => he q.1)])
    rw [EE.out]
    obtain ⟨q, hq⟩ : ∃ q, c.err b = q := ⟨_, rfl⟩
    rw [hq] at RF he ⊢
    have t0 : (q != 0) = true := by rw [bne_iff_ne]; exact he
    have t1 : (q == 0) = false := by rw [beq_eq_false_iff_ne]; exact he
    clear he hq EE
    go_enter Try.func18, Try.ntmps18
    go_wp2_with (go_at_call 33; refine RF.out.mono ?_; rintro e w1 ⟨rfl, hw1⟩; obtain rfl := hw1.symm; clear RF)
    go_ret
    exact ⟨rfl, by rw [EW.out]; exact H0.out, Keep.refl _ _⟩
end
end Go.Proofs.Ytkolpdllogpklaa
