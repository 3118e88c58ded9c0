import Derived.Test.YtjiooadakklmlaaJbA2
namespace Go.Proofs.Ytjiooadakklmlaa
open Go.RowKit

/-! JblockCopies. -/
theorem kind_esc (X : Blk) : kindOf (escB X).1 = (0, 0) := kind_not fun _ _ _ h => esc_num X h.magic
theorem esc_again (X : Blk) : escB (escB X).1 = ((escB X).1, false) := esc_no (esc_num X)
theorem esc_unesc (X : Blk) : escB (unescB X) = (putB32 (unescB X) 0 0, true) := esc_yes (unesc_num X)
set_option maxRecDepth 100000 in
set_option maxHeartbeats 8000000 in
theorem jCopies (hS : JSays) (X : Blk) (w : World) : Calls Try.prog 7 #[.agg (arr X)] w fun e w' => e = .returned (.bool true) ∧ Below w.heap.size w w' := by
  have hz := fun W => zero_blk W
  have V := Lib.hid (show BVar (w.alloc (.cells (arr X) 28)) w.heap.size X from heap_alloc_new w _)
  have B := Lib.hid (below_new w (.cells (arr X) 28))
  have CA := Lib.hid fun W => jAwake hS W
  have E1 := Lib.hid fun W => hS.escape X W
  have K1 := Lib.hid fun W => hS.kind (escB X).1 W
  have E2 := Lib.hid fun W => hS.escape (escB X).1 W
  have UX := Lib.hid fun W => hS.unescape X W
  have E3 := Lib.hid fun W => hS.escape (unescB X) W
  have UZ := Lib.hid fun W => hS.unescape (putB32 (unescB X) 0 0) W
  rw [kind_esc] at K1
  rw [esc_again] at E2
  rw [esc_unesc] at E3
  rw [unesc_again] at UZ
  have hg := blk_guard
  by_cases h : num X 0 = magic
  · have U1 := Lib.hid fun W => hS.unescape (putB32 X 0 0) W
    rw [unesc_esc h] at U1
    rw [esc_yes h] at E1 K1 E2
    clear hS h
    generalize putB32 X 0 0 = P at E1 K1 E2 U1
    generalize putB32 (unescB X) 0 0 = Z at E3 UZ
    generalize unescB X = U at UX E3 UZ
    have heP := fun W => equalIn_blk P P W
    have heX := fun W => equalIn_blk X X W
    have heU := fun W => equalIn_blk U U W
    simp only [decide_true] at heP heX heU
    go_enter Try.func7, Try.ntmps7
    go_upto_region 1 with fail
    generalize w.alloc (.cells (arr X) 28) = w1 at V B ⊢
    go_upto_region 4 with (first
      | (go_at_call 35; with_reducible refine (CA.out _).mono ?_; rintro e w2 ⟨rfl, hb⟩; have V2 := Lib.hid (V.out.below hb); have B2 := Lib.hid (low_go B.out hb); clear hb)
      | (refine load_blk rfl (.tmp 1) rfl w.heap.size 0 rfl X V2.out.at ?_)
      | (go_at_call 31; with_reducible refine (E1.out _).mono ?_; rintro e w3 ⟨rfl, hb⟩)
      | (refine store_newJ rfl (.tmp 3) (.tmp 16) rfl P rfl rfl ?_))
    have V4 := Lib.hid ((V2.out.below hb).below (newB_low w3 P))
    have P4 := Lib.hid (newB_var w3 P)
    have B4 := Lib.hid (newB_go (low_go B2.out hb) P)
    clear hb V B V2 B2 E1 CA
    generalize newB w3 P = w4 at V4 P4 B4 ⊢
    generalize w3.heap.size = bx at P4 ⊢
    go_upto_region 6 with (first
      | (refine load_blk rfl (.tmp 3) rfl bx 0 rfl P P4.out.at ?_)
      | (go_at_call 25; with_reducible refine (K1.out _).mono ?_; rintro e w5 ⟨rfl, hb⟩; have V5 := Lib.hid (V4.out.below hb); have P5 := Lib.hid (P4.out.below hb); have B5 := Lib.hid (low_go B4.out hb); clear hb)
      | (refine load_blk rfl (.tmp 3) rfl bx 0 rfl P P5.out.at ?_)
      | (go_at_call 31; with_reducible refine (E2.out _).mono ?_; rintro e w6 ⟨rfl, hb⟩)
      | (refine store_newJ rfl (.tmp 7) (.tmp 26) rfl P rfl rfl ?_))
    have V7 := Lib.hid ((V5.out.below hb).below (newB_low w6 P))
    have P7 := Lib.hid ((P5.out.below hb).below (newB_low w6 P))
    have Y7 := Lib.hid (newB_var w6 P)
    have B7 := Lib.hid (newB_go (low_go B5.out hb) P)
    clear hb V4 P4 B4 V5 P5 B5 K1 E2
    generalize newB w6 P = w7 at V7 P7 Y7 B7 ⊢
    generalize w6.heap.size = byy at Y7 ⊢
    go_upto_region 8 with (first
      | (refine load_blk_w rfl (.tmp 7) rfl byy 0 rfl P Y7.out.at ?_)
      | (refine load_blk_w rfl (.tmp 3) rfl bx 0 rfl P P7.out.at ?_)
      | (refine load_blk_w rfl (.tmp 1) rfl w.heap.size 0 rfl X V7.out.at ?_))
    go_upto_region 9 with (first
      | (refine load_blk rfl (.tmp 1) rfl w.heap.size 0 rfl X V7.out.at ?_)
      | (go_at_call 33; with_reducible refine (UX.out _).mono ?_; rintro e w8 ⟨rfl, hb⟩; have V8 := Lib.hid (V7.out.below hb); have P8 := Lib.hid (P7.out.below hb); have B8 := Lib.hid (low_go B7.out hb); clear hb)
      | (go_at_call 31; with_reducible refine (E3.out _).mono ?_; rintro e w9 ⟨rfl, hb⟩)
      | (refine store_newJ rfl (.tmp 9) (.tmp 55) rfl Z rfl rfl ?_))
    have VA := Lib.hid ((V8.out.below hb).below (newB_low w9 Z))
    have PA := Lib.hid ((P8.out.below hb).below (newB_low w9 Z))
    have ZA := Lib.hid (newB_var w9 Z)
    have BA := Lib.hid (newB_go (low_go B8.out hb) Z)
    clear hb V7 P7 Y7 B7 V8 P8 B8 E3 hz
    generalize newB w9 Z = wa at VA PA ZA BA ⊢
    generalize w9.heap.size = bz at ZA ⊢
    refine wp_region_class (More wa) (by kernel_rfl) (by kernel_rfl) (More.drew _) ?_
    repeat (first | go_big_quiet_skip | (go_big_quiet_want; first | (refine quiet_load (.tmp 3) rfl bx 0 rfl P (by intro w' hw'; exact (PA.out.below hw').at) ?_; simp only [Act.put, List.setIfInBounds_toArray, List.set_cons_zero, List.set_cons_succ]; go_big_quiet_on) | (refine quiet_load (.tmp 1) rfl w.heap.size 0 rfl X (by intro w' hw'; exact (VA.out.below hw').at) ?_; simp only [Act.put, List.setIfInBounds_toArray, List.set_cons_zero, List.set_cons_succ]; go_big_quiet_on) | (refine quiet_load (.tmp 9) rfl bz 0 rfl Z (by intro w' hw'; exact (ZA.out.below hw').at) ?_; simp only [Act.put, List.setIfInBounds_toArray, List.set_cons_zero, List.set_cons_succ]; go_big_quiet_on) | (go_big_quiet_op; first | go_big_quiet_on | (apply Exists.intro; refine ⟨fun _ _ => ?_, ?_⟩; (with_reducible exact rfl); go_big_quiet_on) | go_big_quiet_call ((intro hC; (first | (with_reducible refine (U1.out _).mono ?_) | (with_reducible refine (UZ.out _).mono ?_) | (with_reducible refine (UX.out _).mono ?_)); exact fun e w' h => ⟨h.1, hC.on h.2⟩)))))
    refine wpQuiet_nil ?_
    intro wb hwb
    have Bb := Lib.hid (low_go BA.out hwb)
    clear hwb
    go_wp2_with fail
    go_ret
    exact ⟨rfl, Bb.out⟩
  · rw [esc_no h] at E1 K1 E2
    clear hS h
    generalize putB32 (unescB X) 0 0 = Z at E3 UZ
    generalize unescB X = U at UX E3 UZ
    have heX := fun W => equalIn_blk X X W
    have heU := fun W => equalIn_blk U U W
    simp only [decide_true] at heX heU
    go_enter Try.func7, Try.ntmps7
    go_upto_region 1 with fail
    generalize w.alloc (.cells (arr X) 28) = w1 at V B ⊢
    go_upto_region 4 with (first
      | (go_at_call 35; with_reducible refine (CA.out _).mono ?_; rintro e w2 ⟨rfl, hb⟩; have V2 := Lib.hid (V.out.below hb); have B2 := Lib.hid (low_go B.out hb); clear hb)
      | (refine load_blk rfl (.tmp 1) rfl w.heap.size 0 rfl X V2.out.at ?_)
      | (go_at_call 31; with_reducible refine (E1.out _).mono ?_; rintro e w3 ⟨rfl, hb⟩)
      | (refine store_newJ rfl (.tmp 3) (.tmp 16) rfl X rfl rfl ?_))
    have V4 := Lib.hid ((V2.out.below hb).below (newB_low w3 X))
    have P4 := Lib.hid (newB_var w3 X)
    have B4 := Lib.hid (newB_go (low_go B2.out hb) X)
    clear hb V B V2 B2 E1 CA
    generalize newB w3 X = w4 at V4 P4 B4 ⊢
    generalize w3.heap.size = bx at P4 ⊢
    go_upto_region 6 with (first
      | (refine load_blk rfl (.tmp 3) rfl bx 0 rfl X P4.out.at ?_)
      | (go_at_call 25; with_reducible refine (K1.out _).mono ?_; rintro e w5 ⟨rfl, hb⟩; have V5 := Lib.hid (V4.out.below hb); have P5 := Lib.hid (P4.out.below hb); have B5 := Lib.hid (low_go B4.out hb); clear hb)
      | (refine load_blk rfl (.tmp 3) rfl bx 0 rfl X P5.out.at ?_)
      | (go_at_call 31; with_reducible refine (E2.out _).mono ?_; rintro e w6 ⟨rfl, hb⟩)
      | (refine store_newJ rfl (.tmp 7) (.tmp 26) rfl X rfl rfl ?_))
    have V7 := Lib.hid ((V5.out.below hb).below (newB_low w6 X))
    have P7 := Lib.hid ((P5.out.below hb).below (newB_low w6 X))
    have Y7 := Lib.hid (newB_var w6 X)
    have B7 := Lib.hid (newB_go (low_go B5.out hb) X)
    clear hb V4 P4 B4 V5 P5 B5 K1 E2
    generalize newB w6 X = w7 at V7 P7 Y7 B7 ⊢
    generalize w6.heap.size = byy at Y7 ⊢
    go_upto_region 8 with (first
      | (refine load_blk_w rfl (.tmp 7) rfl byy 0 rfl X Y7.out.at ?_)
      | (refine load_blk_w rfl (.tmp 3) rfl bx 0 rfl X P7.out.at ?_)
      | (refine load_blk_w rfl (.tmp 1) rfl w.heap.size 0 rfl X V7.out.at ?_))
    go_upto_region 9 with (first
      | (refine load_blk rfl (.tmp 1) rfl w.heap.size 0 rfl X V7.out.at ?_)
      | (go_at_call 33; with_reducible refine (UX.out _).mono ?_; rintro e w8 ⟨rfl, hb⟩; have V8 := Lib.hid (V7.out.below hb); have P8 := Lib.hid (P7.out.below hb); have B8 := Lib.hid (low_go B7.out hb); clear hb)
      | (go_at_call 31; with_reducible refine (E3.out _).mono ?_; rintro e w9 ⟨rfl, hb⟩)
      | (refine store_newJ rfl (.tmp 9) (.tmp 55) rfl Z rfl rfl ?_))
    have VA := Lib.hid ((V8.out.below hb).below (newB_low w9 Z))
    have PA := Lib.hid ((P8.out.below hb).below (newB_low w9 Z))
    have ZA := Lib.hid (newB_var w9 Z)
    have BA := Lib.hid (newB_go (low_go B8.out hb) Z)
    clear hb V7 P7 Y7 B7 V8 P8 B8 E3 hz
    generalize newB w9 Z = wa at VA PA ZA BA ⊢
    generalize w9.heap.size = bz at ZA ⊢
    refine wp_region_class (More wa) (by kernel_rfl) (by kernel_rfl) (More.drew _) ?_
    repeat (first | go_big_quiet_skip | (go_big_quiet_want; first | (refine quiet_load (.tmp 3) rfl bx 0 rfl X (by intro w' hw'; exact (PA.out.below hw').at) ?_; simp only [Act.put, List.setIfInBounds_toArray, List.set_cons_zero, List.set_cons_succ]; go_big_quiet_on) | (refine quiet_load (.tmp 1) rfl w.heap.size 0 rfl X (by intro w' hw'; exact (VA.out.below hw').at) ?_; simp only [Act.put, List.setIfInBounds_toArray, List.set_cons_zero, List.set_cons_succ]; go_big_quiet_on) | (refine quiet_load (.tmp 9) rfl bz 0 rfl Z (by intro w' hw'; exact (ZA.out.below hw').at) ?_; simp only [Act.put, List.setIfInBounds_toArray, List.set_cons_zero, List.set_cons_succ]; go_big_quiet_on) | (go_big_quiet_op; first | go_big_quiet_on | (apply Exists.intro; refine ⟨fun _ _ => ?_, ?_⟩; (with_reducible exact rfl); go_big_quiet_on) | go_big_quiet_call ((intro hC; (first | (with_reducible refine (UZ.out _).mono ?_) | (with_reducible refine (UX.out _).mono ?_)); exact fun e w' h => ⟨h.1, hC.on h.2⟩)))))
    refine wpQuiet_nil ?_
    intro wb hwb
    have Bb := Lib.hid (low_go BA.out hwb)
    clear hwb
    go_wp2_with fail
    go_ret
    exact ⟨rfl, Bb.out⟩
end Go.Proofs.Ytjiooadakklmlaa
