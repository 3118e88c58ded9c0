import Derived.Test.YtamghbmeedbbgaaGeoP0
namespace Go.Proofs.Ytamghbmeedbbgaa
open Go.RowKit Go.BigFrame

/-! The program's own small functions: within, own, May. -/
theorem within_any (n a b : Int) (w : World) (t : Bool) (h : (decide (a ≤ n) && decide (n ≤ b)) = t) : Calls Try.prog 32 #[.int .i64 n, .int .i64 a, .int .i64 b] w fun e w' => e = .returned (.bool t) ∧ Below w.heap.size w w' := by
  have B0 := Lib.hid (Below.refl w.heap.size w)
  subst h
  cases t : decide (a ≤ n)
  · go_enter Try.func32, Try.ntmps32
    go_wp2_with fail
    go_ret
    exact ⟨by simp, B0.out⟩
  · go_enter Try.func32, Try.ntmps32
    go_wp2_with fail
    go_ret
    exact ⟨by simp, B0.out⟩
set_option maxRecDepth 100000 in
theorem own_any (g : GeoV) (w : World) (h0 : 4 ≤ g.ino) (h1 : g.ino ≤ 64) : Calls Try.prog 33 #[.agg (gcs g)] w fun e w' => e = .returned (.int .i64 (ownG g)) ∧ Below w.heap.size w w' := by
  have B0 := Lib.hid ((Below.refl w.heap.size w).alloc (Nat.le_refl _) (.cells (gcs g) 23))
  have V0 : GVar (w.alloc (.cells (gcs g) 23)) w.heap.size g := heap_alloc_new w _
  have c2 := V0.c2
  have E : Hid (ownG g = 2 + g.ino / 4) := Lib.hid rfl
  have t1 : wrap64 (g.ino.tdiv 4) = g.ino / 4 := by rw [Int.tdiv_eq_ediv_of_nonneg (by omega)]; unfold wrap64; omega
  clear V0
  go_enter Try.func33, Try.ntmps33
  go_wp2_with fail
  go_ret
  refine ⟨?_, B0.out⟩
  rw [E.out]
  try simp
  try omega

set_option maxHeartbeats 4000000

set_option maxRecDepth 100000 in
theorem may_0 (g : GeoV) (w : World) (hg : g.Fits)  (ha : ¬ (1 ≤ g.gr ∧ g.gr ≤ 4)) : Calls Try.prog 14 #[.agg (gcs g)] w fun e w' => e = .returned (.bool false) ∧ Below w.heap.size w w' := by
  have B0 := Lib.hid ((Below.refl w.heap.size w).alloc (Nat.le_refl _) (.cells (gcs g) 23))
  have V0 : Hid (GVar (w.alloc (.cells (gcs g) 23)) w.heap.size g) := Lib.hid (heap_alloc_new w _)
  have Ca : Hid (∀ W, Calls Try.prog 32 #[.int .i64 g.gr, .int .i64 1, .int .i64 4] W fun e w' => e = .returned (.bool false) ∧ Below W.heap.size W w') := Lib.hid fun W => within_any _ _ _ W false (by simp; omega)
  have HH := Lib.hid hg
  clear hg
  go_enter Try.func14, Try.ntmps14
  go_wp2_with fail
  generalize w.alloc (.cells (gcs g) 23) = w1 at V0 B0 ⊢
  have c0 := V0.out.c0; have c1 := V0.out.c1; have c2 := V0.out.c2; have c3 := V0.out.c3; have hlt := V0.out.lt
  refine wp_region_class (More w1) (by kernel_rfl) (by kernel_rfl) (More.drew _) ?_
  repeat (first | go_big_quiet_skip | (go_big_quiet_want; first | (refine quiet_geo _ rfl _ _ rfl g (by intro w' hw'; exact (V0.out.below hw').at) ?_; simp only [Act.put, List.setIfInBounds_toArray, List.set_cons_zero, List.set_cons_succ]; go_big_quiet_on) | (refine quiet_int _ rfl _ rfl _ (by intro w' hw'; first | exact (hw'.cell (p := ⟨_, _, none⟩) hlt).trans c0 | exact (hw'.cell (p := ⟨_, _, none⟩) hlt).trans c1 | exact (hw'.cell (p := ⟨_, _, none⟩) hlt).trans c2 | exact (hw'.cell (p := ⟨_, _, none⟩) hlt).trans c3) ?_; simp only [Act.put, List.setIfInBounds_toArray, List.set_cons_zero, List.set_cons_succ]; go_big_quiet_on) | (go_big_quiet_op; first | go_big_quiet_on | (apply Exists.intro; refine ⟨fun _ _ => ?_, ?_⟩; (with_reducible exact rfl); go_big_quiet_on) | go_big_quiet_call ((intro hC; (first | (with_reducible refine (Ca.out _).mono ?_)); exact fun e w' h => ⟨h.1, hC.on h.2⟩)))))
  refine wpQuiet_nil ?_
  intro w4 hw4
  have B4 := Lib.hid (B0.out.trans (Below.mono hw4 B0.out.size))
  clear hw4
  go_wp2
  go_ret
  exact ⟨rfl, B4.out⟩
set_option maxRecDepth 100000 in
theorem may_1 (g : GeoV) (w : World) (hg : g.Fits) (ha : 1 ≤ g.gr ∧ g.gr ≤ 4) (hb : ¬ (16 ≤ g.sz ∧ g.sz ≤ 512)) : Calls Try.prog 14 #[.agg (gcs g)] w fun e w' => e = .returned (.bool false) ∧ Below w.heap.size w w' := by
  have B0 := Lib.hid ((Below.refl w.heap.size w).alloc (Nat.le_refl _) (.cells (gcs g) 23))
  have V0 : Hid (GVar (w.alloc (.cells (gcs g) 23)) w.heap.size g) := Lib.hid (heap_alloc_new w _)
  have Ca : Hid (∀ W, Calls Try.prog 32 #[.int .i64 g.gr, .int .i64 1, .int .i64 4] W fun e w' => e = .returned (.bool true) ∧ Below W.heap.size W w') := Lib.hid fun W => within_any _ _ _ W true (by simp; omega)
  have Cb : Hid (∀ W, Calls Try.prog 32 #[.int .i64 g.sz, .int .i64 16, .int .i64 512] W fun e w' => e = .returned (.bool false) ∧ Below W.heap.size W w') := Lib.hid fun W => within_any _ _ _ W false (by simp; omega)
  have HH := Lib.hid hg
  clear hg
  go_enter Try.func14, Try.ntmps14
  go_wp2_with fail
  generalize w.alloc (.cells (gcs g) 23) = w1 at V0 B0 ⊢
  have c0 := V0.out.c0; have c1 := V0.out.c1; have c2 := V0.out.c2; have c3 := V0.out.c3; have hlt := V0.out.lt
  refine wp_region_class (More w1) (by kernel_rfl) (by kernel_rfl) (More.drew _) ?_
  repeat (first | go_big_quiet_skip | (go_big_quiet_want; first | (refine quiet_geo _ rfl _ _ rfl g (by intro w' hw'; exact (V0.out.below hw').at) ?_; simp only [Act.put, List.setIfInBounds_toArray, List.set_cons_zero, List.set_cons_succ]; go_big_quiet_on) | (refine quiet_int _ rfl _ rfl _ (by intro w' hw'; first | exact (hw'.cell (p := ⟨_, _, none⟩) hlt).trans c0 | exact (hw'.cell (p := ⟨_, _, none⟩) hlt).trans c1 | exact (hw'.cell (p := ⟨_, _, none⟩) hlt).trans c2 | exact (hw'.cell (p := ⟨_, _, none⟩) hlt).trans c3) ?_; simp only [Act.put, List.setIfInBounds_toArray, List.set_cons_zero, List.set_cons_succ]; go_big_quiet_on) | (go_big_quiet_op; first | go_big_quiet_on | (apply Exists.intro; refine ⟨fun _ _ => ?_, ?_⟩; (with_reducible exact rfl); go_big_quiet_on) | go_big_quiet_call ((intro hC; (first | (with_reducible refine (Ca.out _).mono ?_) | (with_reducible refine (Cb.out _).mono ?_)); exact fun e w' h => ⟨h.1, hC.on h.2⟩)))))
  refine wpQuiet_nil ?_
  intro w4 hw4
  have B4 := Lib.hid (B0.out.trans (Below.mono hw4 B0.out.size))
  clear hw4
  go_wp2
  go_ret
  exact ⟨rfl, B4.out⟩
set_option maxRecDepth 100000 in
theorem may_2 (g : GeoV) (w : World) (hg : g.Fits) (ha : 1 ≤ g.gr ∧ g.gr ≤ 4) (hb : 16 ≤ g.sz ∧ g.sz ≤ 512) (hc : ¬ (4 ≤ g.ino ∧ g.ino ≤ 64)) : Calls Try.prog 14 #[.agg (gcs g)] w fun e w' => e = .returned (.bool false) ∧ Below w.heap.size w w' := by
  have B0 := Lib.hid ((Below.refl w.heap.size w).alloc (Nat.le_refl _) (.cells (gcs g) 23))
  have V0 : Hid (GVar (w.alloc (.cells (gcs g) 23)) w.heap.size g) := Lib.hid (heap_alloc_new w _)
  have Ca : Hid (∀ W, Calls Try.prog 32 #[.int .i64 g.gr, .int .i64 1, .int .i64 4] W fun e w' => e = .returned (.bool true) ∧ Below W.heap.size W w') := Lib.hid fun W => within_any _ _ _ W true (by simp; omega)
  have Cb : Hid (∀ W, Calls Try.prog 32 #[.int .i64 g.sz, .int .i64 16, .int .i64 512] W fun e w' => e = .returned (.bool true) ∧ Below W.heap.size W w') := Lib.hid fun W => within_any _ _ _ W true (by simp; omega)
  have Cc : Hid (∀ W, Calls Try.prog 32 #[.int .i64 g.ino, .int .i64 4, .int .i64 64] W fun e w' => e = .returned (.bool false) ∧ Below W.heap.size W w') := Lib.hid fun W => within_any _ _ _ W false (by simp; omega)
  have HH := Lib.hid hg
  clear hg
  go_enter Try.func14, Try.ntmps14
  go_wp2_with fail
  generalize w.alloc (.cells (gcs g) 23) = w1 at V0 B0 ⊢
  have c0 := V0.out.c0; have c1 := V0.out.c1; have c2 := V0.out.c2; have c3 := V0.out.c3; have hlt := V0.out.lt
  refine wp_region_class (More w1) (by kernel_rfl) (by kernel_rfl) (More.drew _) ?_
  repeat (first | go_big_quiet_skip | (go_big_quiet_want; first | (refine quiet_geo _ rfl _ _ rfl g (by intro w' hw'; exact (V0.out.below hw').at) ?_; simp only [Act.put, List.setIfInBounds_toArray, List.set_cons_zero, List.set_cons_succ]; go_big_quiet_on) | (refine quiet_int _ rfl _ rfl _ (by intro w' hw'; first | exact (hw'.cell (p := ⟨_, _, none⟩) hlt).trans c0 | exact (hw'.cell (p := ⟨_, _, none⟩) hlt).trans c1 | exact (hw'.cell (p := ⟨_, _, none⟩) hlt).trans c2 | exact (hw'.cell (p := ⟨_, _, none⟩) hlt).trans c3) ?_; simp only [Act.put, List.setIfInBounds_toArray, List.set_cons_zero, List.set_cons_succ]; go_big_quiet_on) | (go_big_quiet_op; first | go_big_quiet_on | (apply Exists.intro; refine ⟨fun _ _ => ?_, ?_⟩; (with_reducible exact rfl); go_big_quiet_on) | go_big_quiet_call ((intro hC; (first | (with_reducible refine (Ca.out _).mono ?_) | (with_reducible refine (Cb.out _).mono ?_) | (with_reducible refine (Cc.out _).mono ?_)); exact fun e w' h => ⟨h.1, hC.on h.2⟩)))))
  refine wpQuiet_nil ?_
  intro w4 hw4
  have B4 := Lib.hid (B0.out.trans (Below.mono hw4 B0.out.size))
  clear hw4
  go_wp2
  go_ret
  exact ⟨rfl, B4.out⟩
set_option maxRecDepth 100000 in
theorem may_3 (g : GeoV) (w : World) (hg : g.Fits) (ha : 1 ≤ g.gr ∧ g.gr ≤ 4) (hb : 16 ≤ g.sz ∧ g.sz ≤ 512) (hc : 4 ≤ g.ino ∧ g.ino ≤ 64) (hd : ¬ (g.ino % 4 = 0)) : Calls Try.prog 14 #[.agg (gcs g)] w fun e w' => e = .returned (.bool false) ∧ Below w.heap.size w w' := by
  have B0 := Lib.hid ((Below.refl w.heap.size w).alloc (Nat.le_refl _) (.cells (gcs g) 23))
  have V0 : Hid (GVar (w.alloc (.cells (gcs g) 23)) w.heap.size g) := Lib.hid (heap_alloc_new w _)
  have Ca : Hid (∀ W, Calls Try.prog 32 #[.int .i64 g.gr, .int .i64 1, .int .i64 4] W fun e w' => e = .returned (.bool true) ∧ Below W.heap.size W w') := Lib.hid fun W => within_any _ _ _ W true (by simp; omega)
  have Cb : Hid (∀ W, Calls Try.prog 32 #[.int .i64 g.sz, .int .i64 16, .int .i64 512] W fun e w' => e = .returned (.bool true) ∧ Below W.heap.size W w') := Lib.hid fun W => within_any _ _ _ W true (by simp; omega)
  have Cc : Hid (∀ W, Calls Try.prog 32 #[.int .i64 g.ino, .int .i64 4, .int .i64 64] W fun e w' => e = .returned (.bool true) ∧ Below W.heap.size W w') := Lib.hid fun W => within_any _ _ _ W true (by simp; omega)
  have td : (g.ino % 4 == 0) = false := by simp; omega
  have HH := Lib.hid hg
  clear hg
  go_enter Try.func14, Try.ntmps14
  go_wp2_with fail
  generalize w.alloc (.cells (gcs g) 23) = w1 at V0 B0 ⊢
  have c0 := V0.out.c0; have c1 := V0.out.c1; have c2 := V0.out.c2; have c3 := V0.out.c3; have hlt := V0.out.lt
  refine wp_region_class (More w1) (by kernel_rfl) (by kernel_rfl) (More.drew _) ?_
  repeat (first | go_big_quiet_skip | (go_big_quiet_want; first | (refine quiet_geo _ rfl _ _ rfl g (by intro w' hw'; exact (V0.out.below hw').at) ?_; simp only [Act.put, List.setIfInBounds_toArray, List.set_cons_zero, List.set_cons_succ]; go_big_quiet_on) | (refine quiet_int _ rfl _ rfl _ (by intro w' hw'; first | exact (hw'.cell (p := ⟨_, _, none⟩) hlt).trans c0 | exact (hw'.cell (p := ⟨_, _, none⟩) hlt).trans c1 | exact (hw'.cell (p := ⟨_, _, none⟩) hlt).trans c2 | exact (hw'.cell (p := ⟨_, _, none⟩) hlt).trans c3) ?_; simp only [Act.put, List.setIfInBounds_toArray, List.set_cons_zero, List.set_cons_succ]; go_big_quiet_on) | (go_big_quiet_op; first | go_big_quiet_on | (apply Exists.intro; refine ⟨fun _ _ => ?_, ?_⟩; (with_reducible exact rfl); go_big_quiet_on) | go_big_quiet_call ((intro hC; (first | (with_reducible refine (Ca.out _).mono ?_) | (with_reducible refine (Cb.out _).mono ?_) | (with_reducible refine (Cc.out _).mono ?_)); exact fun e w' h => ⟨h.1, hC.on h.2⟩)))))
  refine wpQuiet_nil ?_
  intro w4 hw4
  have B4 := Lib.hid (B0.out.trans (Below.mono hw4 B0.out.size))
  clear hw4
  go_wp2
  go_ret
  exact ⟨rfl, B4.out⟩
set_option maxRecDepth 100000 in
theorem may_4 (g : GeoV) (w : World) (hg : g.Fits) (ha : 1 ≤ g.gr ∧ g.gr ≤ 4) (hb : 16 ≤ g.sz ∧ g.sz ≤ 512) (hc : 4 ≤ g.ino ∧ g.ino ≤ 64) (hd : g.ino % 4 = 0) (he : ¬ (40 ≤ g.jr ∧ g.jr ≤ 256)) : Calls Try.prog 14 #[.agg (gcs g)] w fun e w' => e = .returned (.bool false) ∧ Below w.heap.size w w' := by
  have B0 := Lib.hid ((Below.refl w.heap.size w).alloc (Nat.le_refl _) (.cells (gcs g) 23))
  have V0 : Hid (GVar (w.alloc (.cells (gcs g) 23)) w.heap.size g) := Lib.hid (heap_alloc_new w _)
  have Ca : Hid (∀ W, Calls Try.prog 32 #[.int .i64 g.gr, .int .i64 1, .int .i64 4] W fun e w' => e = .returned (.bool true) ∧ Below W.heap.size W w') := Lib.hid fun W => within_any _ _ _ W true (by simp; omega)
  have Cb : Hid (∀ W, Calls Try.prog 32 #[.int .i64 g.sz, .int .i64 16, .int .i64 512] W fun e w' => e = .returned (.bool true) ∧ Below W.heap.size W w') := Lib.hid fun W => within_any _ _ _ W true (by simp; omega)
  have Cc : Hid (∀ W, Calls Try.prog 32 #[.int .i64 g.ino, .int .i64 4, .int .i64 64] W fun e w' => e = .returned (.bool true) ∧ Below W.heap.size W w') := Lib.hid fun W => within_any _ _ _ W true (by simp; omega)
  have td : (g.ino % 4 == 0) = true := by simp; omega
  have Ce : Hid (∀ W, Calls Try.prog 32 #[.int .i64 g.jr, .int .i64 40, .int .i64 256] W fun e w' => e = .returned (.bool false) ∧ Below W.heap.size W w') := Lib.hid fun W => within_any _ _ _ W false (by simp; omega)
  have HH := Lib.hid hg
  clear hg
  go_enter Try.func14, Try.ntmps14
  go_wp2_with fail
  generalize w.alloc (.cells (gcs g) 23) = w1 at V0 B0 ⊢
  have c0 := V0.out.c0; have c1 := V0.out.c1; have c2 := V0.out.c2; have c3 := V0.out.c3; have hlt := V0.out.lt
  refine wp_region_class (More w1) (by kernel_rfl) (by kernel_rfl) (More.drew _) ?_
  repeat (first | go_big_quiet_skip | (go_big_quiet_want; first | (refine quiet_geo _ rfl _ _ rfl g (by intro w' hw'; exact (V0.out.below hw').at) ?_; simp only [Act.put, List.setIfInBounds_toArray, List.set_cons_zero, List.set_cons_succ]; go_big_quiet_on) | (refine quiet_int _ rfl _ rfl _ (by intro w' hw'; first | exact (hw'.cell (p := ⟨_, _, none⟩) hlt).trans c0 | exact (hw'.cell (p := ⟨_, _, none⟩) hlt).trans c1 | exact (hw'.cell (p := ⟨_, _, none⟩) hlt).trans c2 | exact (hw'.cell (p := ⟨_, _, none⟩) hlt).trans c3) ?_; simp only [Act.put, List.setIfInBounds_toArray, List.set_cons_zero, List.set_cons_succ]; go_big_quiet_on) | (go_big_quiet_op; first | go_big_quiet_on | (apply Exists.intro; refine ⟨fun _ _ => ?_, ?_⟩; (with_reducible exact rfl); go_big_quiet_on) | go_big_quiet_call ((intro hC; (first | (with_reducible refine (Ca.out _).mono ?_) | (with_reducible refine (Cb.out _).mono ?_) | (with_reducible refine (Cc.out _).mono ?_) | (with_reducible refine (Ce.out _).mono ?_)); exact fun e w' h => ⟨h.1, hC.on h.2⟩)))))
  refine wpQuiet_nil ?_
  intro w4 hw4
  have B4 := Lib.hid (B0.out.trans (Below.mono hw4 B0.out.size))
  clear hw4
  go_wp2
  go_ret
  exact ⟨rfl, B4.out⟩
set_option maxRecDepth 100000 in
theorem may_5 (g : GeoV) (w : World) (hg : g.Fits) (ha : 1 ≤ g.gr ∧ g.gr ≤ 4) (hb : 16 ≤ g.sz ∧ g.sz ≤ 512) (hc : 4 ≤ g.ino ∧ g.ino ≤ 64) (hd : g.ino % 4 = 0) (he : 40 ≤ g.jr ∧ g.jr ≤ 256) (hf : ¬ (ownG g < g.sz)) : Calls Try.prog 14 #[.agg (gcs g)] w fun e w' => e = .returned (.bool false) ∧ Below w.heap.size w w' := by
  have B0 := Lib.hid ((Below.refl w.heap.size w).alloc (Nat.le_refl _) (.cells (gcs g) 23))
  have V0 : Hid (GVar (w.alloc (.cells (gcs g) 23)) w.heap.size g) := Lib.hid (heap_alloc_new w _)
  have Ca : Hid (∀ W, Calls Try.prog 32 #[.int .i64 g.gr, .int .i64 1, .int .i64 4] W fun e w' => e = .returned (.bool true) ∧ Below W.heap.size W w') := Lib.hid fun W => within_any _ _ _ W true (by simp; omega)
  have Cb : Hid (∀ W, Calls Try.prog 32 #[.int .i64 g.sz, .int .i64 16, .int .i64 512] W fun e w' => e = .returned (.bool true) ∧ Below W.heap.size W w') := Lib.hid fun W => within_any _ _ _ W true (by simp; omega)
  have Cc : Hid (∀ W, Calls Try.prog 32 #[.int .i64 g.ino, .int .i64 4, .int .i64 64] W fun e w' => e = .returned (.bool true) ∧ Below W.heap.size W w') := Lib.hid fun W => within_any _ _ _ W true (by simp; omega)
  have td : (g.ino % 4 == 0) = true := by simp; omega
  have Ce : Hid (∀ W, Calls Try.prog 32 #[.int .i64 g.jr, .int .i64 40, .int .i64 256] W fun e w' => e = .returned (.bool true) ∧ Below W.heap.size W w') := Lib.hid fun W => within_any _ _ _ W true (by simp; omega)
  have Cf : Hid (∀ W, Calls Try.prog 33 #[.agg (gcs g)] W fun e w' => e = .returned (.int .i64 (ownG g)) ∧ Below W.heap.size W w') := Lib.hid fun W => own_any g W (by omega) (by omega)
  have tf : decide (ownG g < g.sz) = false := by simp; omega
  have HH := Lib.hid hg
  clear hg
  go_enter Try.func14, Try.ntmps14
  go_wp2_with fail
  generalize w.alloc (.cells (gcs g) 23) = w1 at V0 B0 ⊢
  have c0 := V0.out.c0; have c1 := V0.out.c1; have c2 := V0.out.c2; have c3 := V0.out.c3; have hlt := V0.out.lt
  refine wp_region_class (More w1) (by kernel_rfl) (by kernel_rfl) (More.drew _) ?_
  repeat (first | go_big_quiet_skip | (go_big_quiet_want; first | (refine quiet_geo _ rfl _ _ rfl g (by intro w' hw'; exact (V0.out.below hw').at) ?_; simp only [Act.put, List.setIfInBounds_toArray, List.set_cons_zero, List.set_cons_succ]; go_big_quiet_on) | (refine quiet_int _ rfl _ rfl _ (by intro w' hw'; first | exact (hw'.cell (p := ⟨_, _, none⟩) hlt).trans c0 | exact (hw'.cell (p := ⟨_, _, none⟩) hlt).trans c1 | exact (hw'.cell (p := ⟨_, _, none⟩) hlt).trans c2 | exact (hw'.cell (p := ⟨_, _, none⟩) hlt).trans c3) ?_; simp only [Act.put, List.setIfInBounds_toArray, List.set_cons_zero, List.set_cons_succ]; go_big_quiet_on) | (go_big_quiet_op; first | go_big_quiet_on | (apply Exists.intro; refine ⟨fun _ _ => ?_, ?_⟩; (with_reducible exact rfl); go_big_quiet_on) | go_big_quiet_call ((intro hC; (first | (with_reducible refine (Ca.out _).mono ?_) | (with_reducible refine (Cb.out _).mono ?_) | (with_reducible refine (Cc.out _).mono ?_) | (with_reducible refine (Ce.out _).mono ?_) | (with_reducible refine (Cf.out _).mono ?_)); exact fun e w' h => ⟨h.1, hC.on h.2⟩)))))
  refine wpQuiet_nil ?_
  intro w4 hw4
  have B4 := Lib.hid (B0.out.trans (Below.mono hw4 B0.out.size))
  clear hw4
  go_wp2
  go_ret
  exact ⟨rfl, B4.out⟩
set_option maxRecDepth 100000 in
theorem may_6 (g : GeoV) (w : World) (hg : g.Fits) (ha : 1 ≤ g.gr ∧ g.gr ≤ 4) (hb : 16 ≤ g.sz ∧ g.sz ≤ 512) (hc : 4 ≤ g.ino ∧ g.ino ≤ 64) (hd : g.ino % 4 = 0) (he : 40 ≤ g.jr ∧ g.jr ≤ 256) (hf : ownG g < g.sz) (hk : ¬ (2 + g.jr + g.gr * g.sz ≤ 2048)) : Calls Try.prog 14 #[.agg (gcs g)] w fun e w' => e = .returned (.bool false) ∧ Below w.heap.size w w' := by
  have B0 := Lib.hid ((Below.refl w.heap.size w).alloc (Nat.le_refl _) (.cells (gcs g) 23))
  have V0 : Hid (GVar (w.alloc (.cells (gcs g) 23)) w.heap.size g) := Lib.hid (heap_alloc_new w _)
  have Ca : Hid (∀ W, Calls Try.prog 32 #[.int .i64 g.gr, .int .i64 1, .int .i64 4] W fun e w' => e = .returned (.bool true) ∧ Below W.heap.size W w') := Lib.hid fun W => within_any _ _ _ W true (by simp; omega)
  have Cb : Hid (∀ W, Calls Try.prog 32 #[.int .i64 g.sz, .int .i64 16, .int .i64 512] W fun e w' => e = .returned (.bool true) ∧ Below W.heap.size W w') := Lib.hid fun W => within_any _ _ _ W true (by simp; omega)
  have Cc : Hid (∀ W, Calls Try.prog 32 #[.int .i64 g.ino, .int .i64 4, .int .i64 64] W fun e w' => e = .returned (.bool true) ∧ Below W.heap.size W w') := Lib.hid fun W => within_any _ _ _ W true (by simp; omega)
  have td : (g.ino % 4 == 0) = true := by simp; omega
  have Ce : Hid (∀ W, Calls Try.prog 32 #[.int .i64 g.jr, .int .i64 40, .int .i64 256] W fun e w' => e = .returned (.bool true) ∧ Below W.heap.size W w') := Lib.hid fun W => within_any _ _ _ W true (by simp; omega)
  have Cf : Hid (∀ W, Calls Try.prog 33 #[.agg (gcs g)] W fun e w' => e = .returned (.int .i64 (ownG g)) ∧ Below W.heap.size W w') := Lib.hid fun W => own_any g W (by omega) (by omega)
  have tf : decide (ownG g < g.sz) = true := by simp; omega
  have p1 : 0 ≤ g.gr * g.sz := Int.mul_nonneg (by omega) (by omega)
  have p2 : g.gr * g.sz ≤ 4 * 512 := Int.mul_le_mul (by omega) (by omega) (by omega) (by omega)
  have tk : decide (2 + g.jr + g.gr * g.sz ≤ 2048) = false := by simp; omega
  have HH := Lib.hid hg
  clear hg
  go_enter Try.func14, Try.ntmps14
  go_wp2_with fail
  generalize w.alloc (.cells (gcs g) 23) = w1 at V0 B0 ⊢
  have c0 := V0.out.c0; have c1 := V0.out.c1; have c2 := V0.out.c2; have c3 := V0.out.c3; have hlt := V0.out.lt
  refine wp_region_class (More w1) (by kernel_rfl) (by kernel_rfl) (More.drew _) ?_
  repeat (first | go_big_quiet_skip | (go_big_quiet_want; first | (refine quiet_geo _ rfl _ _ rfl g (by intro w' hw'; exact (V0.out.below hw').at) ?_; simp only [Act.put, List.setIfInBounds_toArray, List.set_cons_zero, List.set_cons_succ]; go_big_quiet_on) | (refine quiet_int _ rfl _ rfl _ (by intro w' hw'; first | exact (hw'.cell (p := ⟨_, _, none⟩) hlt).trans c0 | exact (hw'.cell (p := ⟨_, _, none⟩) hlt).trans c1 | exact (hw'.cell (p := ⟨_, _, none⟩) hlt).trans c2 | exact (hw'.cell (p := ⟨_, _, none⟩) hlt).trans c3) ?_; simp only [Act.put, List.setIfInBounds_toArray, List.set_cons_zero, List.set_cons_succ]; go_big_quiet_on) | (go_big_quiet_op; first | go_big_quiet_on | (apply Exists.intro; refine ⟨fun _ _ => ?_, ?_⟩; (with_reducible exact rfl); go_big_quiet_on) | go_big_quiet_call ((intro hC; (first | (with_reducible refine (Ca.out _).mono ?_) | (with_reducible refine (Cb.out _).mono ?_) | (with_reducible refine (Cc.out _).mono ?_) | (with_reducible refine (Ce.out _).mono ?_) | (with_reducible refine (Cf.out _).mono ?_)); exact fun e w' h => ⟨h.1, hC.on h.2⟩)))))
  refine wpQuiet_nil ?_
  intro w4 hw4
  have B4 := Lib.hid (B0.out.trans (Below.mono hw4 B0.out.size))
  clear hw4
  go_wp2
  go_ret
  exact ⟨rfl, B4.out⟩
set_option maxRecDepth 100000 in
theorem may_7 (g : GeoV) (w : World) (hg : g.Fits) (ha : 1 ≤ g.gr ∧ g.gr ≤ 4) (hb : 16 ≤ g.sz ∧ g.sz ≤ 512) (hc : 4 ≤ g.ino ∧ g.ino ≤ 64) (hd : g.ino % 4 = 0) (he : 40 ≤ g.jr ∧ g.jr ≤ 256) (hf : ownG g < g.sz) (hk : 2 + g.jr + g.gr * g.sz ≤ 2048) : Calls Try.prog 14 #[.agg (gcs g)] w fun e w' => e = .returned (.bool true) ∧ Below w.heap.size w w' := by
  have B0 := Lib.hid ((Below.refl w.heap.size w).alloc (Nat.le_refl _) (.cells (gcs g) 23))
  have V0 : Hid (GVar (w.alloc (.cells (gcs g) 23)) w.heap.size g) := Lib.hid (heap_alloc_new w _)
  have Ca : Hid (∀ W, Calls Try.prog 32 #[.int .i64 g.gr, .int .i64 1, .int .i64 4] W fun e w' => e = .returned (.bool true) ∧ Below W.heap.size W w') := Lib.hid fun W => within_any _ _ _ W true (by simp; omega)
  have Cb : Hid (∀ W, Calls Try.prog 32 #[.int .i64 g.sz, .int .i64 16, .int .i64 512] W fun e w' => e = .returned (.bool true) ∧ Below W.heap.size W w') := Lib.hid fun W => within_any _ _ _ W true (by simp; omega)
  have Cc : Hid (∀ W, Calls Try.prog 32 #[.int .i64 g.ino, .int .i64 4, .int .i64 64] W fun e w' => e = .returned (.bool true) ∧ Below W.heap.size W w') := Lib.hid fun W => within_any _ _ _ W true (by simp; omega)
  have td : (g.ino % 4 == 0) = true := by simp; omega
  have Ce : Hid (∀ W, Calls Try.prog 32 #[.int .i64 g.jr, .int .i64 40, .int .i64 256] W fun e w' => e = .returned (.bool true) ∧ Below W.heap.size W w') := Lib.hid fun W => within_any _ _ _ W true (by simp; omega)
  have Cf : Hid (∀ W, Calls Try.prog 33 #[.agg (gcs g)] W fun e w' => e = .returned (.int .i64 (ownG g)) ∧ Below W.heap.size W w') := Lib.hid fun W => own_any g W (by omega) (by omega)
  have tf : decide (ownG g < g.sz) = true := by simp; omega
  have p1 : 0 ≤ g.gr * g.sz := Int.mul_nonneg (by omega) (by omega)
  have p2 : g.gr * g.sz ≤ 4 * 512 := Int.mul_le_mul (by omega) (by omega) (by omega) (by omega)
  have tk : decide (2 + g.jr + g.gr * g.sz ≤ 2048) = true := by simp; omega
  have HH := Lib.hid hg
  clear hg
  go_enter Try.func14, Try.ntmps14
  go_wp2_with fail
  generalize w.alloc (.cells (gcs g) 23) = w1 at V0 B0 ⊢
  have c0 := V0.out.c0; have c1 := V0.out.c1; have c2 := V0.out.c2; have c3 := V0.out.c3; have hlt := V0.out.lt
  refine wp_region_class (More w1) (by kernel_rfl) (by kernel_rfl) (More.drew _) ?_
  repeat (first | go_big_quiet_skip | (go_big_quiet_want; first | (refine quiet_geo _ rfl _ _ rfl g (by intro w' hw'; exact (V0.out.below hw').at) ?_; simp only [Act.put, List.setIfInBounds_toArray, List.set_cons_zero, List.set_cons_succ]; go_big_quiet_on) | (refine quiet_int _ rfl _ rfl _ (by intro w' hw'; first | exact (hw'.cell (p := ⟨_, _, none⟩) hlt).trans c0 | exact (hw'.cell (p := ⟨_, _, none⟩) hlt).trans c1 | exact (hw'.cell (p := ⟨_, _, none⟩) hlt).trans c2 | exact (hw'.cell (p := ⟨_, _, none⟩) hlt).trans c3) ?_; simp only [Act.put, List.setIfInBounds_toArray, List.set_cons_zero, List.set_cons_succ]; go_big_quiet_on) | (go_big_quiet_op; first | go_big_quiet_on | (apply Exists.intro; refine ⟨fun _ _ => ?_, ?_⟩; (with_reducible exact rfl); go_big_quiet_on) | go_big_quiet_call ((intro hC; (first | (with_reducible refine (Ca.out _).mono ?_) | (with_reducible refine (Cb.out _).mono ?_) | (with_reducible refine (Cc.out _).mono ?_) | (with_reducible refine (Ce.out _).mono ?_) | (with_reducible refine (Cf.out _).mono ?_)); exact fun e w' h => ⟨h.1, hC.on h.2⟩)))))
  refine wpQuiet_nil ?_
  intro w4 hw4
  have B4 := Lib.hid (B0.out.trans (Below.mono hw4 B0.out.size))
  clear hw4
  go_wp2
  go_ret
  exact ⟨rfl, B4.out⟩
theorem pMay (g : GeoV) (w : World) (hg : g.Fits) : Calls Try.prog 14 #[.agg (gcs g)] w fun e w' => e = .returned (.bool (mayB g)) ∧ Below w.heap.size w w' := by
  have no : ∀ {b}, mayB g = b → (Calls Try.prog 14 #[.agg (gcs g)] w fun e w' => e = .returned (.bool b) ∧ Below w.heap.size w w') → (Calls Try.prog 14 #[.agg (gcs g)] w fun e w' => e = .returned (.bool (mayB g)) ∧ Below w.heap.size w w') := fun h k => by rw [h]; exact k
  have nm : ¬ May g → mayB g = false := fun h => decide_eq_false h
  by_cases ha : 1 ≤ g.gr ∧ g.gr ≤ 4
  · by_cases hb : 16 ≤ g.sz ∧ g.sz ≤ 512
    · by_cases hc : 4 ≤ g.ino ∧ g.ino ≤ 64
      · by_cases hd : g.ino % 4 = 0
        · by_cases he : 40 ≤ g.jr ∧ g.jr ≤ 256
          · by_cases hf : ownG g < g.sz
            · by_cases hk : 2 + g.jr + g.gr * g.sz ≤ 2048
              · exact no (decide_eq_true (by unfold ownG at hf; exact ⟨ha.1, ha.2, hb.1, hb.2, hc.1, hc.2, hd, he.1, he.2, by omega, hk⟩)) (may_7 g w hg ha hb hc hd he hf hk)
              · exact no (nm fun m => hk m.2.2.2.2.2.2.2.2.2.2) (may_6 g w hg ha hb hc hd he hf hk)
            · exact no (nm fun m => hf (by unfold ownG; have := m.2.2.2.2.2.2.2.2.2.1; omega)) (may_5 g w hg ha hb hc hd he hf)
          · exact no (nm fun m => he ⟨m.2.2.2.2.2.2.2.1, m.2.2.2.2.2.2.2.2.1⟩) (may_4 g w hg ha hb hc hd he)
        · exact no (nm fun m => hd m.2.2.2.2.2.2.1) (may_3 g w hg ha hb hc hd)
      · exact no (nm fun m => hc ⟨m.2.2.2.2.1, m.2.2.2.2.2.1⟩) (may_2 g w hg ha hb hc)
    · exact no (nm fun m => hb ⟨m.2.2.1, m.2.2.2.1⟩) (may_1 g w hg ha hb)
  · exact no (nm fun m => ha ⟨m.1, m.2.1⟩) (may_0 g w hg ha)
end Go.Proofs.Ytamghbmeedbbgaa
