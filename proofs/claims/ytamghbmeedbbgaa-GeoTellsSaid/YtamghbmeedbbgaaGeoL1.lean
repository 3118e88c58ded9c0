import Derived.Test.YtamghbmeedbbgaaGeoA
namespace Go.Proofs.Ytamghbmeedbbgaa
open Go.RowKit

set_option maxRecDepth 100000 in
set_option maxHeartbeats 1000000 in
theorem geoSizes_any (hS : GeoSays) (g : GeoV) (w : World) (h1 : g.Fits) : Calls Try.prog 7 #[.agg (gcs g)] w fun e w' => e = .returned (.bool true) ∧ Below w.heap.size w w' := by
  have HS := Lib.hid hS
  have H1 := Lib.hid h1
  clear hS h1
  have V0 : Hid (GVar (w.alloc (.cells (gcs g) 23)) w.heap.size g) := Lib.hid (heap_alloc_new w _)
  have B0 := Lib.hid ((Below.refl w.heap.size w).alloc (Nat.le_refl _) (.cells (gcs g) 23))
  go_enter Try.func7, Try.ntmps7
  go_wp2_with fail
  generalize w.alloc (.cells (gcs g) 23) = w1 at V0 B0 ⊢
  refine (gAwake_any HS.out w1).mono ?_
  rintro e w2 ⟨rfl, hb⟩
  have V2 := Lib.hid (V0.out.below hb)
  have B2 := Lib.hid (B0.out.trans (hb.mono B0.out.size))
  clear hb V0 B0
  by_cases hm : May g
  · have M : Hid (mayB g = true) := Lib.hid (by unfold mayB; exact decide_eq_true hm)
    have eb : Hid (blocksG g = 2 + g.jr + g.gr * g.sz) := Lib.hid (if_pos hm)
    have ei : Hid (inodesG g = g.gr * g.ino) := Lib.hid (if_pos hm)
    have ed : Hid (dataG g = g.sz - 2 - g.ino / 4) := Lib.hid (if_pos hm)
    obtain ⟨m1, m2, m3, m4, m5, m6, m7, m8, m9, m10, m11⟩ := hm
    have p1 : 0 ≤ g.gr * g.sz := Int.mul_nonneg (by omega) (by omega)
    have p2 : 0 ≤ g.gr * g.ino := Int.mul_nonneg (by omega) (by omega)
    have p3 : g.gr * g.ino ≤ 4 * 64 := Int.mul_le_mul m2 m6 (by omega) (by omega)
    go_wp2_with (first
      | (refine load_geo rfl (.tmp 1) rfl w.heap.size 0 rfl g V2.out.at ?_)
      | (go_at_call 14; refine (HS.out.may g _ H1.out).mono ?_; rintro e w3 ⟨rfl, hb⟩; rw [M.out]; have V3 := Lib.hid (V2.out.below hb); have B3 := Lib.hid (B2.out.trans (hb.mono B2.out.size)); clear hb))
    have CB : Hid (∀ W, Calls Try.prog 16 #[.agg (gcs g)] W fun e w' => e = .returned (.int .i64 (2 + g.jr + g.gr * g.sz)) ∧ Below W.heap.size W w') := Lib.hid fun W => (HS.out.blocks g W H1.out).mono fun e w' q => ⟨by rw [q.1, eb.out], q.2⟩
    have CI : Hid (∀ W, Calls Try.prog 18 #[.agg (gcs g)] W fun e w' => e = .returned (.int .i64 (g.gr * g.ino)) ∧ Below W.heap.size W w') := Lib.hid fun W => (HS.out.inodes g W H1.out).mono fun e w' q => ⟨by rw [q.1, ei.out], q.2⟩
    have CD : Hid (∀ W, Calls Try.prog 20 #[.agg (gcs g)] W fun e w' => e = .returned (.int .i64 (g.sz - 2 - g.ino / 4)) ∧ Below W.heap.size W w') := Lib.hid fun W => (HS.out.data g W H1.out).mono fun e w' q => ⟨by rw [q.1, ed.out], q.2⟩
    have c0 := V3.out.c0
    have c1 := V3.out.c1
    have c2 := V3.out.c2
    have c3 := V3.out.c3
    have te1 : (2 + g.jr + g.gr * g.sz == 2 + g.jr + g.gr * g.sz) = true := by simp
    have te2 : decide (2 + g.jr + g.gr * g.sz ≤ 2048) = true := decide_eq_true (by omega)
    have te3 : (g.gr * g.ino == g.gr * g.ino) = true := by simp
    have te4 : (g.sz - 2 - g.ino / 4 == g.sz - 2 - g.ino / 4) = true := by simp
    have te5 : decide (1 ≤ g.sz - 2 - g.ino / 4) = true := decide_eq_true (by omega)
    have hlt := V3.out.lt
    refine wp_region_class (More w3) (by kernel_rfl) (by kernel_rfl) (More.drew _) ?_
    repeat (first | go_big_quiet_skip | (go_big_quiet_want; first | (refine quiet_geo _ rfl _ _ rfl g (by intro w' hw'; exact (V3.out.below hw').at) ?_; simp only [Act.put, List.setIfInBounds_toArray, List.set_cons_zero, List.set_cons_succ]; go_big_quiet_on) | (refine quiet_int _ rfl _ rfl _ (by intro w' hw'; first | exact (hw'.cell (p := ⟨_, _, none⟩) hlt).trans c0 | exact (hw'.cell (p := ⟨_, _, none⟩) hlt).trans c1 | exact (hw'.cell (p := ⟨_, _, none⟩) hlt).trans c2 | exact (hw'.cell (p := ⟨_, _, none⟩) hlt).trans c3) ?_; simp only [Act.put, List.setIfInBounds_toArray, List.set_cons_zero, List.set_cons_succ]; go_big_quiet_on) | (go_big_quiet_op; first | go_big_quiet_on | (apply Exists.intro; refine ⟨fun _ _ => ?_, ?_⟩; (with_reducible exact rfl); go_big_quiet_on) | go_big_quiet_call ((intro hC; (first | (with_reducible refine (CB.out _).mono ?_) | (with_reducible refine (CI.out _).mono ?_) | (with_reducible refine (CD.out _).mono ?_)); exact fun e w' h => ⟨h.1, hC.on h.2⟩)))))
    refine wpQuiet_nil ?_
    intro w4 hw4
    have B4 := Lib.hid (B3.out.trans (Below.mono hw4 B3.out.size))
    clear hw4
    go_wp2
    go_ret
    exact ⟨rfl, B4.out⟩
  · have M : Hid (mayB g = false) := Lib.hid (by unfold mayB; exact decide_eq_false hm)
    have eb : Hid (blocksG g = 0) := Lib.hid (if_neg hm)
    have ei : Hid (inodesG g = 0) := Lib.hid (if_neg hm)
    have ed : Hid (dataG g = 0) := Lib.hid (if_neg hm)
    have P : Hid (Below w.heap.size w w2 ∧ GVar w2 w.heap.size g) := Lib.hid ⟨B2.out, V2.out⟩
    have STEP : Hid (∀ (a b : World), Below a.heap.size a b → Hid (Below w.heap.size w a ∧ GVar a w.heap.size g) → Hid (Below w.heap.size w b ∧ GVar b w.heap.size g)) := Lib.hid fun _ _ h1 h2 => Lib.hid ⟨h2.out.1.trans (h1.mono h2.out.1.size), h2.out.2.below h1⟩
    clear hm V2 B2
    go_wp2_with (first
      | (refine load_geo rfl (.tmp 1) rfl w.heap.size 0 rfl g P.out.2.at ?_)
      | (refine load_geo_w (by rfl) (.tmp 1) rfl w.heap.size 0 rfl g P.out.2.at ?_)
      | (go_at_call 14; refine (HS.out.may g _ H1.out).mono ?_; rintro e wn ⟨rfl, hb⟩; have P := STEP.out _ _ hb P; clear hb; rw [M.out])
      | (go_at_call 16; refine (HS.out.blocks g _ H1.out).mono ?_; rintro e wn ⟨rfl, hb⟩; have P := STEP.out _ _ hb P; clear hb; rw [eb.out])
      | (go_at_call 18; refine (HS.out.inodes g _ H1.out).mono ?_; rintro e wn ⟨rfl, hb⟩; have P := STEP.out _ _ hb P; clear hb; rw [ei.out])
      | (go_at_call 20; refine (HS.out.data g _ H1.out).mono ?_; rintro e wn ⟨rfl, hb⟩; have P := STEP.out _ _ hb P; clear hb; rw [ed.out]))
    go_ret
    exact ⟨rfl, P.out.1⟩
end Go.Proofs.Ytamghbmeedbbgaa
