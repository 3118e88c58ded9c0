import Derived.Test.YtkblpildfeopiaaPBits2
namespace Go.Proofs.Ytkblpildfeopiaa
open Go.RowKit Go.Shelf Go.BigFrame

set_option maxRecDepth 100000 in
set_option maxHeartbeats 1000000 in
theorem pSetNil (i : Int) (w : World) : Calls Try.prog 17 #[.pointer none, .int .i64 i] w fun e w' => e = .returned (.bool false) ∧ Below w.heap.size w w' := by
  have B0 := Lib.hid (Below.refl w.heap.size w)
  go_enter Try.func17, Try.ntmps17
  go_wp2_with fail
  go_ret
  exact ⟨rfl, B0.out⟩
set_option maxRecDepth 100000 in
set_option maxHeartbeats 2000000 in
theorem pSet (X : Blk) (g : Nat) (i : Int) (w : World) (h : I64 i) (hX : Var w g X) : Calls Try.prog 17 #[.pointer (some ⟨g, 0, none⟩), .int .i64 i] w fun e w' => e = .returned (.bool (turns X i true)) ∧ Var w' g (turnB X i true) ∧ But g w w' := by
  have HX := Lib.hid hX
  have H := Lib.hid h
  clear hX h
  by_cases h0 : i < 0 ∨ 2048 ≤ i
  · have E := Lib.hid (turns_out (X := X) (v := true) h0)
    have CW := Lib.hid (within_no h0)
    clear h0
    go_enter Try.func17, Try.ntmps17
    go_wp2_with (go_at_call 23; refine (CW.out _).mono ?_; rintro e w1 ⟨rfl, hw1⟩)
    go_ret
    exact ⟨by rw [E.out]; try rfl, by rw [turnB_no E.out]; exact HX.out.below hw1, But.of_below hw1⟩
  · obtain ⟨k, rfl⟩ := Int.eq_ofNat_of_zero_le (show 0 ≤ i by omega)
    have hk : k < 2048 := by omega
    have CW := Lib.hid (within_yes hk)
    have CM := Lib.hid (mask_any k)
    have HO := Lib.hid (or_mask X k)
    have HS := Lib.hid (or_byte X k)
    have TN := Lib.hid (turnB_nat (X := X) (v := true) hk)
    have NE := Lib.hid (setB_ne (X := X) (v := true) hk)
    have HC : Hid (∀ w', At w' g 0 X → w'.cell? ⟨g, k / 8, none⟩ = some (.int .u8 ((X.f (k / 8) : Nat) : Int))) := Lib.hid fun w' hh => by have := hh.cell (i := k / 8) (by omega); rwa [Nat.zero_add] at this
    clear h0
    generalize X.f (k / 8) = v at HO HS HC
    generalize mkB k = mm at CM HO
    generalize orB v (k % 8) = yy at HO HS
    have hz := fun W => zero_blk W
    go_enter Try.func17, Try.ntmps17
    go_wp2_with (first | (go_at_call 23; refine (CW.out _).mono ?_; rintro e w1 ⟨rfl, hw1⟩; have V1 := Lib.hid (HX.out.below hw1); have HW1 := Lib.hid hw1; clear hw1) | (refine load_blk rfl (.tmp 14) rfl g 0 rfl X V1.out.at ?_) | (refine store_row rfl (.tmp 5) (.tmp 15) rfl _ X .zero _ rfl rfl (heap_alloc_new _ _) ?_))
    rw [World.setRow_alloc_new]
    have G1 := Lib.hid V1.out.lt
    have V2 : Hid (Var (w1.alloc (.cells (arr X) 23)) g X) := Lib.hid ((heap_alloc_old _ _ G1.out).trans V1.out)
    have O2 : Hid (Var (w1.alloc (.cells (arr X) 23)) w1.heap.size X) := Lib.hid (heap_alloc_new _ _)
    have B2 : Hid (Below w.heap.size w (w1.alloc (.cells (arr X) 23))) := Lib.hid (HW1.out.alloc HW1.out.size _)
    have GN : Hid (w1.heap.size ≠ g) := Lib.hid (by have := G1.out; omega)
    clear V1 HW1 G1
    generalize w1.alloc (.cells (arr X) 23) = w2 at V2 O2 B2 ⊢
    generalize w1.heap.size = g2 at O2 GN ⊢
    have HLAW : Hid (∀ w', More w2 w' → w'.cell? ⟨g, k / 8, none⟩ = some (.int .u8 (v : Nat))) := Lib.hid fun w' hw' => HC.out _ (V2.out.below hw').at
    refine wp_region_class_tail (More w2) 11 (by kernel_rfl) (by kernel_rfl) (More.drew _) ?_
    simp only [List.take_succ_cons, List.take_zero, List.drop_succ_cons, List.drop_zero, Act.put]
    repeat (first | go_big_quiet_skip | (go_big_quiet_want; first | (refine quiet_u8 _ rfl _ (by rfl) _ (by intro w' hw'; exact HLAW.out _ hw') ?_; simp only [Act.put, List.setIfInBounds_toArray, List.set_cons_zero, List.set_cons_succ]; go_big_quiet_on) | (go_big_quiet_op; first | go_big_quiet_on | (apply Exists.intro; refine ⟨fun _ _ => ?_, ?_⟩; (with_reducible exact rfl); go_big_quiet_on) | go_big_quiet_call ((intro hC; first | (with_reducible refine (CM.out _).mono ?_); exact fun e w' h => ⟨h.1, hC.on h.2⟩)))))
    refine wpQuiet_nil ?_
    intro w' hw'
    have c1 := HLAW.out _ hw'
    have V3 := Lib.hid (V2.out.below hw')
    have f1 : w'.frozen? ⟨g, k / 8, none⟩ = false := by simp [World.frozen?, (show w'.heap[g]? = _ from V3.out)]
    have O3 := Lib.hid (O2.out.below hw')
    have B3 := Lib.hid (B2.out.trans (Below.mono hw' B2.out.size))
    clear hw' V2 O2 B2 HLAW
    go_wp2_with fail
    rw [HO.out]
    have V4 := Lib.hid (V3.out.put HS.out)
    have O4 : Hid (Var (w'.setCell ⟨g, k / 8, none⟩ (.int .u8 (yy : Nat))) g2 X) := Lib.hid ((Below.heap_setCell w' _ _ _ GN.out).trans O3.out)
    have B4 := Lib.hid (But.set (g := g) (k := k / 8) (v := .int .u8 (yy : Nat)) B3.out)
    clear c1 f1 V3 O3 B3
    generalize w'.setCell ⟨g, k / 8, none⟩ (.int .u8 (yy : Nat)) = w4 at V4 O4 B4 ⊢
    have heq := fun W => equalIn_blk (setB X k true) X W
    have HT := NE.out
    generalize setB X k true = Z at V4 heq HT TN
    refine wp_region_class (More w4) (by kernel_rfl) (by kernel_rfl) (More.drew _) ?_
    repeat (first | go_big_quiet_skip | (go_big_quiet_want; first | (refine quiet_load _ rfl _ _ rfl _ (by intro w' hw'; first | exact (V4.out.below hw').at | exact (O4.out.below hw').at) ?_; simp only [Act.put, List.setIfInBounds_toArray, List.set_cons_zero, List.set_cons_succ]; go_big_quiet_on) | (go_big_quiet_op; first | go_big_quiet_on | (apply Exists.intro; refine ⟨fun _ _ => ?_, ?_⟩; (with_reducible exact rfl); go_big_quiet_on))))
    refine wpQuiet_nil ?_
    intro w5 hw5
    have V5 := Lib.hid (V4.out.below hw5)
    have B5 := Lib.hid (B4.out.trans (But.of_below hw5))
    clear hw5
    go_wp2
    go_ret
    exact ⟨by simp, by rw [TN.out]; exact V5.out, B5.out⟩

set_option maxRecDepth 100000 in
set_option maxHeartbeats 1000000 in
theorem pClearNil (i : Int) (w : World) : Calls Try.prog 18 #[.pointer none, .int .i64 i] w fun e w' => e = .returned (.bool false) ∧ Below w.heap.size w w' := by
  have B0 := Lib.hid (Below.refl w.heap.size w)
  go_enter Try.func18, Try.ntmps18
  go_wp2_with fail
  go_ret
  exact ⟨rfl, B0.out⟩
set_option maxRecDepth 100000 in
set_option maxHeartbeats 2000000 in
theorem pClear (X : Blk) (g : Nat) (i : Int) (w : World) (h : I64 i) (hX : Var w g X) : Calls Try.prog 18 #[.pointer (some ⟨g, 0, none⟩), .int .i64 i] w fun e w' => e = .returned (.bool (turns X i false)) ∧ Var w' g (turnB X i false) ∧ But g w w' := by
  have HX := Lib.hid hX
  have H := Lib.hid h
  clear hX h
  by_cases h0 : i < 0 ∨ 2048 ≤ i
  · have E := Lib.hid (turns_out (X := X) (v := false) h0)
    have CW := Lib.hid (within_no h0)
    clear h0
    go_enter Try.func18, Try.ntmps18
    go_wp2_with (go_at_call 23; refine (CW.out _).mono ?_; rintro e w1 ⟨rfl, hw1⟩)
    go_ret
    exact ⟨by rw [E.out]; try rfl, by rw [turnB_no E.out]; exact HX.out.below hw1, But.of_below hw1⟩
  · obtain ⟨k, rfl⟩ := Int.eq_ofNat_of_zero_le (show 0 ≤ i by omega)
    have hk : k < 2048 := by omega
    have CW := Lib.hid (within_yes hk)
    have CM := Lib.hid (mask_any k)
    have HO := Lib.hid (cl_mask X k)
    have HS := Lib.hid (cl_byte X k)
    have TN := Lib.hid (turnB_nat (X := X) (v := false) hk)
    have NE := Lib.hid (setB_ne (X := X) (v := false) hk)
    have HC : Hid (∀ w', At w' g 0 X → w'.cell? ⟨g, k / 8, none⟩ = some (.int .u8 ((X.f (k / 8) : Nat) : Int))) := Lib.hid fun w' hh => by have := hh.cell (i := k / 8) (by omega); rwa [Nat.zero_add] at this
    clear h0
    generalize X.f (k / 8) = v at HO HS HC
    generalize mkB k = mm at CM HO
    generalize clB v (k % 8) = yy at HO HS
    have hz := fun W => zero_blk W
    go_enter Try.func18, Try.ntmps18
    go_wp2_with (first | (go_at_call 23; refine (CW.out _).mono ?_; rintro e w1 ⟨rfl, hw1⟩; have V1 := Lib.hid (HX.out.below hw1); have HW1 := Lib.hid hw1; clear hw1) | (refine load_blk rfl (.tmp 14) rfl g 0 rfl X V1.out.at ?_) | (refine store_row rfl (.tmp 5) (.tmp 15) rfl _ X .zero _ rfl rfl (heap_alloc_new _ _) ?_))
    rw [World.setRow_alloc_new]
    have G1 := Lib.hid V1.out.lt
    have V2 : Hid (Var (w1.alloc (.cells (arr X) 23)) g X) := Lib.hid ((heap_alloc_old _ _ G1.out).trans V1.out)
    have O2 : Hid (Var (w1.alloc (.cells (arr X) 23)) w1.heap.size X) := Lib.hid (heap_alloc_new _ _)
    have B2 : Hid (Below w.heap.size w (w1.alloc (.cells (arr X) 23))) := Lib.hid (HW1.out.alloc HW1.out.size _)
    have GN : Hid (w1.heap.size ≠ g) := Lib.hid (by have := G1.out; omega)
    clear V1 HW1 G1
    generalize w1.alloc (.cells (arr X) 23) = w2 at V2 O2 B2 ⊢
    generalize w1.heap.size = g2 at O2 GN ⊢
    have HLAW : Hid (∀ w', More w2 w' → w'.cell? ⟨g, k / 8, none⟩ = some (.int .u8 (v : Nat))) := Lib.hid fun w' hw' => HC.out _ (V2.out.below hw').at
    refine wp_region_class_tail (More w2) 11 (by kernel_rfl) (by kernel_rfl) (More.drew _) ?_
    simp only [List.take_succ_cons, List.take_zero, List.drop_succ_cons, List.drop_zero, Act.put]
    repeat (first | go_big_quiet_skip | (go_big_quiet_want; first | (refine quiet_u8 _ rfl _ (by rfl) _ (by intro w' hw'; exact HLAW.out _ hw') ?_; simp only [Act.put, List.setIfInBounds_toArray, List.set_cons_zero, List.set_cons_succ]; go_big_quiet_on) | (go_big_quiet_op; first | go_big_quiet_on | (apply Exists.intro; refine ⟨fun _ _ => ?_, ?_⟩; (with_reducible exact rfl); go_big_quiet_on) | go_big_quiet_call ((intro hC; first | (with_reducible refine (CM.out _).mono ?_); exact fun e w' h => ⟨h.1, hC.on h.2⟩)))))
    refine wpQuiet_nil ?_
    intro w' hw'
    have c1 := HLAW.out _ hw'
    have V3 := Lib.hid (V2.out.below hw')
    have f1 : w'.frozen? ⟨g, k / 8, none⟩ = false := by simp [World.frozen?, (show w'.heap[g]? = _ from V3.out)]
    have O3 := Lib.hid (O2.out.below hw')
    have B3 := Lib.hid (B2.out.trans (Below.mono hw' B2.out.size))
    clear hw' V2 O2 B2 HLAW
    go_wp2_with fail
    rw [HO.out]
    have V4 := Lib.hid (V3.out.put HS.out)
    have O4 : Hid (Var (w'.setCell ⟨g, k / 8, none⟩ (.int .u8 (yy : Nat))) g2 X) := Lib.hid ((Below.heap_setCell w' _ _ _ GN.out).trans O3.out)
    have B4 := Lib.hid (But.set (g := g) (k := k / 8) (v := .int .u8 (yy : Nat)) B3.out)
    clear c1 f1 V3 O3 B3
    generalize w'.setCell ⟨g, k / 8, none⟩ (.int .u8 (yy : Nat)) = w4 at V4 O4 B4 ⊢
    have heq := fun W => equalIn_blk (setB X k false) X W
    have HT := NE.out
    generalize setB X k false = Z at V4 heq HT TN
    refine wp_region_class (More w4) (by kernel_rfl) (by kernel_rfl) (More.drew _) ?_
    repeat (first | go_big_quiet_skip | (go_big_quiet_want; first | (refine quiet_load _ rfl _ _ rfl _ (by intro w' hw'; first | exact (V4.out.below hw').at | exact (O4.out.below hw').at) ?_; simp only [Act.put, List.setIfInBounds_toArray, List.set_cons_zero, List.set_cons_succ]; go_big_quiet_on) | (go_big_quiet_op; first | go_big_quiet_on | (apply Exists.intro; refine ⟨fun _ _ => ?_, ?_⟩; (with_reducible exact rfl); go_big_quiet_on))))
    refine wpQuiet_nil ?_
    intro w5 hw5
    have V5 := Lib.hid (V4.out.below hw5)
    have B5 := Lib.hid (B4.out.trans (But.of_below hw5))
    clear hw5
    go_wp2
    go_ret
    exact ⟨by simp, by rw [TN.out]; exact V5.out, B5.out⟩

end Go.Proofs.Ytkblpildfeopiaa
