import Derived.Test.YtkolpdllogpklaaCaP3
namespace Go.Proofs.Ytkolpdllogpklaa
open Go.RowKit Go.Maps

/-! The landed cache: what writes. -/
/-- What a call leaves. -/
def CaW (w : World) (cb bm pm : Nat) (c' : CS) (av : Av) (w' : World) : Prop := CAt w' cb bm pm c' av ∧ Keep av w w'
theorem CaW.of_below {w w' : World} {cb bm pm : Nat} {c : CS} {av : Av} (h : CAt w cb bm pm c av) (hb : Below w.heap.size w w') : CaW w cb bm pm c av w' := ⟨h.below hb, (Keep.of_below hb).mono h.bound⟩
section
variable (w : World) (cb bm pm : Nat) (c : CS) (av : Av)
set_option maxRecDepth 100000 in
set_option maxHeartbeats 1000000 in
theorem cWrite (b : Int) (X : Blk) (h : CAt w cb bm pm c av) : Calls Try.prog 17 #[.pointer (some ⟨cb, 0, none⟩), .int .i64 b, .agg (arr X)] w fun e w' => e = .returned (.int .i64 (c.err b)) ∧ CaW w cb bm pm (c.write b X) av w' := by
  have B0 := (Below.refl w.heap.size w).alloc (Nat.le_refl _) (.cells (arr X) 41)
  have hR := Lib.hid (At.row (heap_alloc_new w (.cells (arr X) 41)))
  have h1 := h.below B0
  have RF := Lib.hid (cRefusal _ cb bm pm c av b h1)
  have B1 := Lib.hid B0
  have H1 := Lib.hid h1
  have BD := Lib.hid h.bound
  clear h B0 h1
  by_cases he : c.err b = 0
  · have EW : Hid (c.write b X = { c with m := setM c.m b (some (X, true)) }) := Lib.hid (by unfold CS.write; rw [if_pos he])
    rw [he] at RF
    have HI := Lib.hid (CS.in_of he)
    have HE := Lib.hid he
    clear he
    go_enter Try.func17, Try.ntmps17
    go_wp2_with (go_at_call 33; refine RF.out.mono ?_; rintro e w1 ⟨rfl, hw1⟩; obtain rfl := hw1.symm; clear RF)
    generalize w.alloc (.cells (arr X) 41) = wa at *
    refine wp_region_class_tail (More wa) 7 (by kernel_rfl) (by kernel_rfl) (More.drew _) ?_
    simp only [List.take_succ_cons, List.take_zero, List.drop_succ_cons, List.drop_zero]
    repeat (first | go_big_quiet_skip | (go_big_quiet_want; first
      | (refine quiet_map _ rfl _ (by rfl) bm (by intro w' hw'; exact (H1.out.below hw').c1) ?_; simp only [Act.put, List.setIfInBounds_toArray, List.set_cons_zero, List.set_cons_succ]; go_big_quiet_on)
      | (refine quiet_load _ rfl _ _ rfl X (by intro w' hw'; exact hR.out.below hw') ?_; simp only [Act.put, List.setIfInBounds_toArray, List.set_cons_zero, List.set_cons_succ]; go_big_quiet_on)
      | (refine quiet_held2 _ _ rfl X true rfl rfl ?_; simp only [Act.put, List.setIfInBounds_toArray, List.set_cons_zero, List.set_cons_succ]; go_big_quiet_on)
      | (go_big_quiet_op; first | go_big_quiet_on | (apply Exists.intro; refine ⟨fun _ _ => ?_, ?_⟩; (with_reducible exact rfl); go_big_quiet_on))))
    refine wpQuiet_nil ?_
    intro w' hw'
    have H2 := Lib.hid (H1.out.below hw')
    have K2 : Hid (Keep av w w') := Lib.hid ((Keep.of_below (B1.out.trans (Below.mono hw' B1.out.size))).mono BD.out)
    have HN : c.n ≤ 2048 := (dk_ok H2.out.disk).2.1
    clear hw' hR H1 B1
    go_wp2_with (refine upd_held rfl (.tmp 17) (.tmp 18) (.tmp 20) rfl rfl H2.out.has HN HI.out.1 HI.out.2 rfl X true rfl ?_; intro w3 hm ht)
    go_ret
    exact ⟨by rw [HE.out]; rfl, by rw [EW.out]; exact H2.out.remap hm ht, K2.out.trans (keep_turned ht H2.out.out.2.1)⟩
  · have EW : Hid (c.write b X = c) := Lib.hid (by unfold CS.write; rw [if_neg he])
    obtain ⟨q, hq⟩ : ∃ q, c.err b = q := ⟨_, rfl⟩
    rw [hq] at RF he ⊢
    have t0 : (q != 0) = true := by rw [bne_iff_ne]; exact he
    have t1 : (q == 0) = false := by rw [beq_eq_false_iff_ne]; exact he
    clear he hq
    go_enter Try.func17, Try.ntmps17
    go_wp2_with (go_at_call 33; refine RF.out.mono ?_; rintro e w1 ⟨rfl, hw1⟩; obtain rfl := hw1.symm; clear RF)
    go_ret
    exact ⟨rfl, by rw [EW.out]; exact H1.out, (Keep.of_below B1.out).mono BD.out⟩
set_option maxRecDepth 100000 in
set_option maxHeartbeats 1000000 in
theorem cDrop (b : Int) (h : CAt w cb bm pm c av) : Calls Try.prog 19 #[.pointer (some ⟨cb, 0, none⟩), .int .i64 b] w fun e w' => e = .returned (.int .i64 (c.dropE b)) ∧ CaW w cb bm pm (c.drop b) av w' := by
  have RF := Lib.hid (cRefusal _ cb bm pm c av b h)
  have H0 := Lib.hid h
  have BD := Lib.hid h.bound
  have HN : c.n ≤ 2048 := (dk_ok h.disk).2.1
  by_cases he : c.err b = 0
  · have HI := Lib.hid (CS.in_of he)
    have HB : Hid (I64 b) := Lib.hid (by have := HI.out; unfold I64; omega)
    have PN := Lib.hid (cPinned w cb bm pm c av b HB.out h)
    cases hp : c.pin b
    · have EW : Hid (c.drop b = c.cut b) := Lib.hid (by unfold CS.drop; rw [if_pos ⟨he, hp⟩])
      have EE : Hid (c.dropE b = 0) := Lib.hid (by unfold CS.dropE; rw [if_pos he, hp]; rfl)
      rw [he] at RF
      rw [hp] at PN
      clear h he hp
      go_enter Try.func19, Try.ntmps19
      go_wp2_with (first | (go_at_call 33; refine RF.out.mono ?_; rintro e w1 ⟨rfl, hw1⟩; obtain rfl := hw1.symm; clear RF) | (go_at_call 39; refine PN.out.mono ?_; rintro e w1 ⟨rfl, hw1⟩; have H1 := Lib.hid (H0.out.below hw1); have K1 : Hid (Keep av w w1) := Lib.hid ((Keep.of_below hw1).mono BD.out); have c1 := H1.out.c1; clear hw1) | (refine del_held rfl (.tmp 18) (.tmp 19) rfl rfl H1.out.has HB.out rfl ?_; intro w3 hm ht))
      go_ret
      exact ⟨by rw [EE.out]; rfl, by rw [EW.out]; exact H1.out.remap hm ht, K1.out.trans (keep_turned ht H1.out.out.2.1)⟩
    · have EW : Hid (c.drop b = c) := Lib.hid (by unfold CS.drop; rw [if_neg (by rw [hp]; simp)])
      have EE : Hid (c.dropE b = 110) := Lib.hid (by unfold CS.dropE; rw [if_pos he, hp]; rfl)
      rw [he] at RF
      rw [hp] at PN
      clear h he hp
      go_enter Try.func19, Try.ntmps19
      go_wp2_with (first | (go_at_call 33; refine RF.out.mono ?_; rintro e w1 ⟨rfl, hw1⟩; obtain rfl := hw1.symm; clear RF) | (go_at_call 39; refine PN.out.mono ?_; rintro e w1 ⟨rfl, hw1⟩))
      go_ret
      exact ⟨by rw [EE.out]; rfl, by rw [EW.out]; exact CaW.of_below H0.out hw1⟩
  · have EW : Hid (c.drop b = c) := Lib.hid (by unfold CS.drop; rw [if_neg (fun q => he q.1)])
    have EE : Hid (c.dropE b = c.err b) := Lib.hid (by unfold CS.dropE; rw [if_neg he])
    rw [EE.out]
    obtain ⟨q, hq⟩ : ∃ q, c.err b = q := ⟨_, rfl⟩
    rw [hq] at RF he ⊢
    have t0 : (q != 0) = true := by rw [bne_iff_ne]; exact he
    have t1 : (q == 0) = false := by rw [beq_eq_false_iff_ne]; exact he
    clear h he hq EE
    go_enter Try.func19, Try.ntmps19
    go_wp2_with (go_at_call 33; refine RF.out.mono ?_; rintro e w1 ⟨rfl, hw1⟩; obtain rfl := hw1.symm; clear RF)
    go_ret
    exact ⟨rfl, by rw [EW.out]; exact H0.out, Keep.refl _ _⟩
set_option maxRecDepth 100000 in
set_option maxHeartbeats 1000000 in
theorem cPin (b : Int) (on : Bool) (h : CAt w cb bm pm c av) : Calls Try.prog 11 #[.pointer (some ⟨cb, 0, none⟩), .int .i64 b, .bool on] w fun e w' => e = .returned noResult ∧ CaW w cb bm pm (c.setPin b on) av w' := by
  have RF := Lib.hid (cRefusal _ cb bm pm c av b h)
  have H0 := Lib.hid h
  have HN : c.n ≤ 2048 := (dk_ok h.disk).2.1
  have c2 := h.c2
  by_cases he : c.err b = 0
  · have HI := Lib.hid (CS.in_of he)
    have HB : Hid (I64 b) := Lib.hid (by have := HI.out; unfold I64; omega)
    have EW : Hid (c.setPin b on = { c with pin := setM c.pin b on }) := Lib.hid (by unfold CS.setPin; rw [if_pos he])
    rw [he] at RF
    clear h he
    have hz := fun W => zero_unit W
    cases on
    · go_enter Try.func11, Try.ntmps11
      go_wp2_with (first | (go_at_call 33; refine RF.out.mono ?_; rintro e w1 ⟨rfl, hw1⟩; obtain rfl := hw1.symm; clear RF) | (refine del_pin rfl (.tmp 9) (.tmp 10) rfl rfl H0.out.pins HB.out rfl ?_; intro w3 hm ht))
      refine bodyPost_end (results_none Try.results11 _ _ _) rfl ⟨rfl, by rw [EW.out]; exact H0.out.repin hm ht, keep_turned ht H0.out.out.2.2⟩
    · go_enter Try.func11, Try.ntmps11
      go_wp2_with (first | (go_at_call 33; refine RF.out.mono ?_; rintro e w1 ⟨rfl, hw1⟩; obtain rfl := hw1.symm; clear RF) | (refine upd_pin rfl (.tmp 21) (.tmp 22) (.tmp 23) rfl rfl H0.out.pins HN HI.out.1 HI.out.2 rfl rfl ?_; intro w3 hm ht))
      refine bodyPost_end (results_none Try.results11 _ _ _) rfl ⟨rfl, by rw [EW.out]; exact H0.out.repin hm ht, keep_turned ht H0.out.out.2.2⟩
  · have EW : Hid (c.setPin b on = c) := Lib.hid (by unfold CS.setPin; rw [if_neg he])
    obtain ⟨q, hq⟩ : ∃ q, c.err b = q := ⟨_, rfl⟩
    rw [hq] at RF he
    have t0 : (q != 0) = true := by rw [bne_iff_ne]; exact he
    have t1 : (q == 0) = false := by rw [beq_eq_false_iff_ne]; exact he
    clear h he hq
    go_enter Try.func11, Try.ntmps11
    go_wp2_with (go_at_call 33; refine RF.out.mono ?_; rintro e w1 ⟨rfl, hw1⟩; obtain rfl := hw1.symm; clear RF)
    refine bodyPost_end (results_none Try.results11 _ _ _) rfl ⟨rfl, by rw [EW.out]; exact H0.out, Keep.refl _ _⟩
end
end Go.Proofs.Ytkolpdllogpklaa
