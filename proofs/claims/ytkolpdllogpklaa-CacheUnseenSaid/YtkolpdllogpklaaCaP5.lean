import Derived.Test.YtkolpdllogpklaaCaP4
namespace Go.Proofs.Ytkolpdllogpklaa
open Go.RowKit Go.Maps

/-! The landed cache: Read and Back. -/
theorem CAt.setRow {w : World} {cb bm pm g : Nat} {c : CS} {av : Av} (h : CAt w cb bm pm c av) (hg : av g) (cs : Array Value) : CAt (w.setRow g cs) cb bm pm c av :=
  h.frame (by simp) (fun i _ hn => setRow_other _ _ _ _ fun e => hn (e ▸ hg)) fun _ h => .inl h
theorem CAt.mono {w : World} {cb bm pm : Nat} {c : CS} {av av' : Av} (h : CAt w cb bm pm c av) (hv : ∀ i, av' i → av i) : CAt w cb bm pm c av' := h.frame (Nat.le_refl _) (fun _ _ _ => rfl) fun i hi => .inl (hv i hi)
/-- .. and a block that the call has made. -/
theorem CAt.plus {w : World} {cb bm pm : Nat} {c : CS} {av : Av} (h : CAt w cb bm pm c av) (o : Obj) : CAt (w.alloc o) cb bm pm c (fun i => av i ∨ i = w.heap.size) :=
  h.frame (by simp) (fun i hi _ => heap_alloc_old w o hi) fun i hi => hi.imp id fun e => by subst e; simp
theorem Keep.row {av : Av} {a w : World} (h : Keep av a w) {g : Nat} (hg : ¬ av g) (cs : Array Value) : Keep av a (w.setRow g cs) :=
  h.trans ⟨rfl, rfl, rfl, by simp, fun i hi => setRow_other _ _ _ _ fun e => hg (e ▸ hi)⟩
section
variable (w : World) (cb bm pm : Nat) (c : CS) (av : Av)
set_option maxRecDepth 100000 in
set_option maxHeartbeats 4000000 in
theorem cRead (b : Int) (h : CAt w cb bm pm c av) : Calls Try.prog 10 #[.pointer (some ⟨cb, 0, none⟩), .int .i64 b] w fun e w' => e = .returned (.tuple #[.agg (arr (c.readV b)), .int .i64 (c.readE b)]) ∧ CaW w cb bm pm (c.read b) av w' := by
  have hz := fun W => zero_blk W
  have hzh := fun W => zero_held W
  have B0 := (Below.refl w.heap.size w).alloc (Nat.le_refl _) (.cells (arr .zero) 41)
  have O1 := Lib.hid (heap_alloc_new w (.cells (arr .zero) 41))
  have h1 := h.plus (.cells (arr .zero) 41)
  have RF := Lib.hid (cRefusal _ cb bm pm c _ b h1)
  have B1 := Lib.hid B0
  have H1 := Lib.hid h1
  have BD := Lib.hid h.bound
  have NB : Hid (¬ av w.heap.size) := Lib.hid fun q => Nat.lt_irrefl _ (h.bound _ q)
  have S1 : Hid (w.heap.size < (w.alloc (.cells (arr .zero) 41)).heap.size) := Lib.hid (by simp)
  clear h B0 h1
  by_cases he : c.err b = 0
  · have HI := Lib.hid (CS.in_of he)
    have HNN : Hid (c.n ≤ 2048) := Lib.hid (dk_ok H1.out.disk).2.1
    have HB : Hid (I64 b) := Lib.hid (by have h1 := HI.out; have := HNN.out; unfold I64; omega)
    have c1 := H1.out.c1
    have c0 := H1.out.c0
    rw [he] at RF
    cases hm : c.m b with
    | some en =>
      obtain ⟨X, d⟩ := en
      have EV : Hid (c.readV b = X) := Lib.hid (by unfold CS.readV; rw [if_pos he, hm])
      have EE : Hid (c.readE b = 0) := Lib.hid (by unfold CS.readE; rw [if_pos he, hm])
      have EW : Hid (c.read b = c) := Lib.hid (by unfold CS.read; rw [if_neg (by rw [hm]; simp)])
      have HM := Lib.hid hm
      clear he hm
      go_enter Try.func10, Try.ntmps10
      go_upto_region 2 with (go_at_call 33; refine RF.out.mono ?_; rintro e w1 ⟨rfl, hw1⟩; obtain rfl := hw1.symm; clear RF)
      generalize w.alloc (.cells (arr .zero) 41) = wa at *
      go_upto_region 4 with fail
      go_upto_region 5 with (first
        | (at_lookup; refine look_yes rfl (.tmp 22) (.tmp 23) rfl rfl H1.out.has HB.out rfl X d HM.out ?_)
        | (refine store_held rfl (.tmp 7) (.tmp 25) rfl X d rfl rfl ?_))
      have A2 := Lib.hid (H1.out.below (below_newI wa (.cells (hcell X d) 75)))
      have O2 := Lib.hid ((heap_alloc_old wa (.cells (hcell X d) 75) S1.out).trans O1.out)
      have V2 := Lib.hid (HVar.new wa X d)
      have B2 : Hid (Below w.heap.size w (wa.alloc (.cells (hcell X d) 75))) := Lib.hid (B1.out.alloc B1.out.size _)
      generalize wa.alloc (.cells (hcell X d) 75) = w2 at A2 O2 V2 B2 ⊢
      generalize wa.heap.size = g2 at V2 ⊢
      go_upto_region 6 with fail
      go_wp2_with (first
        | (refine load_blk rfl (.tmp 28) rfl _ 0 rfl X V2.out.at ?_)
        | (refine store_row rfl (.tmp 4) (.tmp 29) rfl w.heap.size X .zero 41 rfl rfl O2.out ?_))
      exact bodyPost_ret (v := .tuple #[.agg (arr X), .int .i64 0]) (results_blk_tmp Try.results10 _ _ w.heap.size X _ rfl (setRow_heap _ _ _ _ _ _ O2.out)) rfl ⟨by rw [EE.out, EV.out], by rw [EW.out]; exact ⟨(A2.out.setRow (.inr rfl) _).mono fun i hi => .inl hi, ((Keep.of_below B2.out).mono BD.out).row NB.out _⟩⟩
    | none =>
      have HM := Lib.hid hm
      have DR := Lib.hid (fun (W : World) (h : CAt W cb bm pm c fun i => av i ∨ i = w.heap.size) => dk_read0 c.a c.d _ b W h.disk)
      have EV : Hid (c.readV b = c.d.read b) := Lib.hid (by unfold CS.readV; rw [if_pos he, hm])
      have EE : Hid (c.readE b = c.d.err b) := Lib.hid (by unfold CS.readE; rw [if_pos he, hm])
      rw [EE.out, EV.out]
      by_cases hd : c.d.err b = 0
      · have EW : Hid (c.read b = { c with m := setM c.m b (some (c.d.read b, false)) }) := Lib.hid (by unfold CS.read; rw [if_pos ⟨he, hm, hd⟩])
        rw [hd] at DR ⊢
        clear he hm hd EE EV
        generalize c.d.read b = Y at DR EW ⊢
        go_enter Try.func10, Try.ntmps10
        go_upto_region 2 with (go_at_call 33; refine RF.out.mono ?_; rintro e w1 ⟨rfl, hw1⟩; obtain rfl := hw1.symm; clear RF)
        generalize w.alloc (.cells (arr .zero) 41) = wa at *
        go_upto_region 4 with fail
        go_upto_region 5 with (first
          | (at_lookup; refine look_no rfl (.tmp 22) (.tmp 23) rfl rfl H1.out.has HB.out rfl HM.out ?_)
          | (refine store_held rfl (.tmp 7) (.tmp 25) rfl .zero false rfl rfl ?_))
        have A2 := Lib.hid (H1.out.below (below_newI wa (.cells (hcell .zero false) 75)))
        have O2 := Lib.hid ((heap_alloc_old wa (.cells (hcell .zero false) 75) S1.out).trans O1.out)
        have B2 : Hid (Below w.heap.size w (wa.alloc (.cells (hcell .zero false) 75))) := Lib.hid (B1.out.alloc B1.out.size _)
        generalize wa.alloc (.cells (hcell .zero false) 75) = w2 at A2 O2 B2 ⊢
        generalize wa.heap.size = g2 at ⊢
        clear c0 c1 H1 O1 B1 S1
        have c0 := A2.out.c0
        have S2 : Hid (w.heap.size < w2.heap.size) := Lib.hid (Array.getElem?_eq_some_iff.1 O2.out).1
        go_upto_region 8 with (first
          | (go_at_call 28; refine (DR.out _ A2.out).mono ?_; rintro e w3 ⟨rfl, hb3⟩)
          | (refine store_row rfl (.tmp 9) (.tmp 37) rfl w3.heap.size Y .zero 41 rfl rfl (heap_alloc_new _ _) ?_; rw [World.setRow_alloc_new]))
        have B4 : Hid (Below w2.heap.size w2 (w3.alloc (.cells (arr Y) 41))) := Lib.hid (hb3.alloc hb3.size _)
        have A4 := Lib.hid (A2.out.below B4.out)
        have V4 := Lib.hid (At.row (heap_alloc_new w3 (.cells (arr Y) 41)))
        have O4 := Lib.hid ((B4.out.block _ S2.out).trans O2.out)
        have LW4 := Lib.hid (B2.out.trans (B4.out.mono B2.out.size))
        have NE4 : Hid (w3.heap.size ≠ w.heap.size) := Lib.hid (by have := hb3.size; have := S2.out; omega)
        clear hb3 B4 A2 O2 B2 S2 c0
        generalize w3.alloc (.cells (arr Y) 41) = w4 at *
        generalize w3.heap.size = g4 at *
        go_upto_region 10 with fail
        refine wp_region_class_tail (More w4) 7 (by kernel_rfl) (by kernel_rfl) (More.drew _) ?_
        simp only [List.take_succ_cons, List.take_zero, List.drop_succ_cons, List.drop_zero]
        repeat (first | go_big_quiet_skip | (go_big_quiet_want; first
          | (refine quiet_map _ rfl _ (by rfl) bm (by intro w' hw'; exact (A4.out.below hw').c1) ?_; simp only [Act.put, List.setIfInBounds_toArray, List.set_cons_zero, List.set_cons_succ]; go_big_quiet_on)
          | (refine quiet_load _ rfl _ _ rfl Y (by intro w' hw'; exact V4.out.below hw') ?_; simp only [Act.put, List.setIfInBounds_toArray, List.set_cons_zero, List.set_cons_succ]; go_big_quiet_on)
          | (refine quiet_held1 _ rfl Y rfl ?_; simp only [Act.put, List.setIfInBounds_toArray, List.set_cons_zero, List.set_cons_succ]; go_big_quiet_on)
          | (go_big_quiet_op; first | go_big_quiet_on | (apply Exists.intro; refine ⟨fun _ _ => ?_, ?_⟩; (with_reducible exact rfl); go_big_quiet_on))))
        refine wpQuiet_nil ?_
        intro w5 hw5
        have A5 := Lib.hid (A4.out.below hw5)
        have V5 := Lib.hid (V4.out.below hw5)
        have O5 := Lib.hid ((Below.block hw5 _ (Array.getElem?_eq_some_iff.1 O4.out).1).trans O4.out)
        have LW5 := Lib.hid (LW4.out.trans (Below.mono hw5 LW4.out.size))
        clear hw5 A4 V4 O4 LW4
        go_upto_region 11 with (refine upd_held rfl (.tmp 46) (.tmp 47) (.tmp 49) rfl rfl A5.out.has HNN.out HI.out.1 HI.out.2 rfl Y false rfl ?_; intro w6 hm6 ht6)
        have A6 := Lib.hid (A5.out.remap hm6 ht6)
        have NBM : Hid (bm ≠ w.heap.size ∧ bm ≠ g4) := Lib.hid ⟨fun e => A5.out.out.2.1 (.inr e), fun e => by
          have h1 := V5.out.cell (i := 0) (by omega)
          obtain ⟨D, ⟨es, clock, hb, _⟩, _⟩ := A5.out.has
          subst e
          simp [World.cell?, hb] at h1⟩
        have O6 := Lib.hid (((mapTurned_keep ht6).2.2.2.2 _ (Ne.symm NBM.out.1)).trans O5.out)
        have V6 := Lib.hid (V5.out.keep ((mapTurned_keep ht6).2.2.2.2 _ (Ne.symm NBM.out.2)))
        have K6 : Hid (Keep av w w6) := Lib.hid (((Keep.of_below LW5.out).mono BD.out).trans (keep_turned ht6 fun q => A5.out.out.2.1 (.inl q)))
        clear hm6 ht6 A5 O5 V5 LW5
        go_wp2_with (first
          | (refine load_blk rfl (.tmp 9) rfl _ 0 rfl Y V6.out ?_)
          | (refine store_row rfl (.tmp 4) (.tmp 50) rfl w.heap.size Y .zero 41 rfl rfl O6.out ?_))
        exact bodyPost_ret (v := .tuple #[.agg (arr Y), .int .i64 0]) (results_blk_tmp Try.results10 _ _ w.heap.size Y _ rfl (setRow_heap _ _ _ _ _ _ O6.out)) rfl ⟨rfl, by rw [EW.out]; exact ⟨(A6.out.setRow (.inr rfl) _).mono fun i hi => .inl hi, K6.out.row NB.out _⟩⟩
      · have EW : Hid (c.read b = c) := Lib.hid (by unfold CS.read; rw [if_neg (fun q => hd q.2.2)])
        have ER : Hid (c.d.read b = .zero) := Lib.hid (DS.read_bad hd)
        rw [ER.out] at DR ⊢
        obtain ⟨q, hq⟩ : ∃ q, c.d.err b = q := ⟨_, rfl⟩
        rw [hq] at DR hd ⊢
        have t0 : (q != 0) = true := by rw [bne_iff_ne]; exact hd
        have t1 : (q == 0) = false := by rw [beq_eq_false_iff_ne]; exact hd
        clear he hm hd EE EV hq
        go_enter Try.func10, Try.ntmps10
        go_upto_region 2 with (go_at_call 33; refine RF.out.mono ?_; rintro e w1 ⟨rfl, hw1⟩; obtain rfl := hw1.symm; clear RF)
        generalize w.alloc (.cells (arr .zero) 41) = wa at *
        go_upto_region 4 with fail
        go_upto_region 5 with (first
          | (at_lookup; refine look_no rfl (.tmp 22) (.tmp 23) rfl rfl H1.out.has HB.out rfl HM.out ?_)
          | (refine store_held rfl (.tmp 7) (.tmp 25) rfl .zero false rfl rfl ?_))
        have A2 := Lib.hid (H1.out.below (below_newI wa (.cells (hcell .zero false) 75)))
        have O2 := Lib.hid ((heap_alloc_old wa (.cells (hcell .zero false) 75) S1.out).trans O1.out)
        have B2 : Hid (Below w.heap.size w (wa.alloc (.cells (hcell .zero false) 75))) := Lib.hid (B1.out.alloc B1.out.size _)
        generalize wa.alloc (.cells (hcell .zero false) 75) = w2 at A2 O2 B2 ⊢
        generalize wa.heap.size = g2 at ⊢
        clear c0 c1 H1 O1 B1 S1
        have c0 := A2.out.c0
        have S2 : Hid (w.heap.size < w2.heap.size) := Lib.hid (Array.getElem?_eq_some_iff.1 O2.out).1
        go_upto_region 8 with (first
          | (go_at_call 28; refine (DR.out _ A2.out).mono ?_; rintro e w3 ⟨rfl, hb3⟩)
          | (refine store_row rfl (.tmp 9) (.tmp 37) rfl w3.heap.size .zero .zero 41 rfl rfl (heap_alloc_new _ _) ?_; rw [World.setRow_alloc_new]))
        have B4 : Hid (Below w2.heap.size w2 (w3.alloc (.cells (arr .zero) 41))) := Lib.hid (hb3.alloc hb3.size _)
        have A4 := Lib.hid (A2.out.below B4.out)
        have O4 := Lib.hid ((B4.out.block _ S2.out).trans O2.out)
        have LW4 := Lib.hid (B2.out.trans (B4.out.mono B2.out.size))
        clear hb3 B4 A2 O2 B2 S2 c0
        generalize w3.alloc (.cells (arr .zero) 41) = w4 at *
        generalize w3.heap.size = g4 at *
        go_wp2_with (first
          | (refine build_zero_w rfl rfl ?_)
          | (refine store_row rfl (.tmp 4) (.tmp 41) rfl w.heap.size .zero .zero 41 rfl rfl O4.out ?_))
        exact bodyPost_ret (v := .tuple #[.agg (arr .zero), .int .i64 q]) (results_blk_tmp Try.results10 _ _ w.heap.size .zero _ rfl (setRow_heap _ _ _ _ _ _ O4.out)) rfl ⟨rfl, by rw [EW.out]; exact ⟨(A4.out.setRow (.inr rfl) _).mono fun i hi => .inl hi, ((Keep.of_below LW4.out).mono BD.out).row NB.out _⟩⟩
  · have EV : Hid (c.readV b = .zero) := Lib.hid (by unfold CS.readV; rw [if_neg he])
    have EE : Hid (c.readE b = c.err b) := Lib.hid (by unfold CS.readE; rw [if_neg he])
    have EW : Hid (c.read b = c) := Lib.hid (by unfold CS.read; rw [if_neg (fun q => he q.1)])
    rw [EE.out, EV.out]
    obtain ⟨q, hq⟩ : ∃ q, c.err b = q := ⟨_, rfl⟩
    rw [hq] at RF he ⊢
    have t0 : (q != 0) = true := by rw [bne_iff_ne]; exact he
    have t1 : (q == 0) = false := by rw [beq_eq_false_iff_ne]; exact he
    clear he hq EE EV
    go_enter Try.func10, Try.ntmps10
    go_upto_region 2 with (go_at_call 33; refine RF.out.mono ?_; rintro e w1 ⟨rfl, hw1⟩; obtain rfl := hw1.symm; clear RF)
    generalize w.alloc (.cells (arr .zero) 41) = wa at *
    go_wp2_with (first
      | (refine build_zero_w rfl rfl ?_)
      | (refine store_row rfl (.tmp 4) (.tmp 16) rfl w.heap.size .zero .zero 41 rfl rfl O1.out ?_))
    exact bodyPost_ret (v := .tuple #[.agg (arr .zero), .int .i64 q]) (results_blk_tmp Try.results10 _ _ w.heap.size .zero _ rfl (setRow_heap _ _ _ _ _ _ O1.out)) rfl ⟨rfl, by rw [EW.out]; exact ⟨(H1.out.setRow (.inr rfl) _).mono fun i hi => .inl hi, ((Keep.of_below B1.out).mono BD.out).row NB.out _⟩⟩
end
end Go.Proofs.Ytkolpdllogpklaa
