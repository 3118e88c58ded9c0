import Derived.Test.YtamghbmeedbbgaaGeoM3
import Derived.Test.YtamghbmeedbbgaaGeoL2
namespace Go.Proofs.Ytamghbmeedbbgaa
open Go.RowKit

/-! The document's own May, Inodes, Number. -/
theorem gp_start (w : World) (g : GeoV) : GP w g (w.alloc (.cells (gcs g) 23)) := ⟨(Below.refl w.heap.size w).alloc (Nat.le_refl _) (.cells (gcs g) 23), heap_alloc_new w _⟩
set_option maxHeartbeats 4000000

set_option maxRecDepth 100000 in
theorem rMay_0 (g : GeoV) (w : World)  (h0 : ¬ (1 ≤ g.gr)) : Calls Try.prog 15 #[.agg (gcs g)] w fun e w' => e = .returned (.bool false) ∧ Below w.heap.size w w' := by
  have P := gp_start w g
  have t0 : decide (g.gr < 1) = true := by simp; omega
  have c0 := P.2.c0; have c1 := P.2.c1; have c2 := P.2.c2; have c3 := P.2.c3
  have PP := Lib.hid P
  clear P
  go_enter Try.func15, Try.ntmps15
  go_wp2_with fail
  go_ret
  exact ⟨rfl, PP.out.1⟩
set_option maxRecDepth 100000 in
theorem rMay_1 (g : GeoV) (w : World) (h0 : 1 ≤ g.gr) (h1 : ¬ (g.gr ≤ 4)) : Calls Try.prog 15 #[.agg (gcs g)] w fun e w' => e = .returned (.bool false) ∧ Below w.heap.size w w' := by
  have P := gp_start w g
  have t0 : decide (g.gr < 1) = false := by simp; omega
  have t1 : decide (4 < g.gr) = true := by simp; omega
  have c0 := P.2.c0; have c1 := P.2.c1; have c2 := P.2.c2; have c3 := P.2.c3
  have PP := Lib.hid P
  clear P
  go_enter Try.func15, Try.ntmps15
  go_wp2_with fail
  go_ret
  exact ⟨rfl, PP.out.1⟩
set_option maxRecDepth 100000 in
theorem rMay_2 (g : GeoV) (w : World) (h0 : 1 ≤ g.gr) (h1 : g.gr ≤ 4) (h2 : ¬ (16 ≤ g.sz)) : Calls Try.prog 15 #[.agg (gcs g)] w fun e w' => e = .returned (.bool false) ∧ Below w.heap.size w w' := by
  have P := gp_start w g
  have t0 : decide (g.gr < 1) = false := by simp; omega
  have t1 : decide (4 < g.gr) = false := by simp; omega
  have t2 : decide (g.sz < 16) = true := by simp; omega
  have c0 := P.2.c0; have c1 := P.2.c1; have c2 := P.2.c2; have c3 := P.2.c3
  have PP := Lib.hid P
  clear P
  go_enter Try.func15, Try.ntmps15
  go_wp2_with fail
  go_ret
  exact ⟨rfl, PP.out.1⟩
set_option maxRecDepth 100000 in
theorem rMay_3 (g : GeoV) (w : World) (h0 : 1 ≤ g.gr) (h1 : g.gr ≤ 4) (h2 : 16 ≤ g.sz) (h3 : ¬ (g.sz ≤ 512)) : Calls Try.prog 15 #[.agg (gcs g)] w fun e w' => e = .returned (.bool false) ∧ Below w.heap.size w w' := by
  have P := gp_start w g
  have t0 : decide (g.gr < 1) = false := by simp; omega
  have t1 : decide (4 < g.gr) = false := by simp; omega
  have t2 : decide (g.sz < 16) = false := by simp; omega
  have t3 : decide (512 < g.sz) = true := by simp; omega
  have c0 := P.2.c0; have c1 := P.2.c1; have c2 := P.2.c2; have c3 := P.2.c3
  have PP := Lib.hid P
  clear P
  go_enter Try.func15, Try.ntmps15
  go_wp2_with fail
  go_ret
  exact ⟨rfl, PP.out.1⟩
set_option maxRecDepth 100000 in
theorem rMay_4 (g : GeoV) (w : World) (h0 : 1 ≤ g.gr) (h1 : g.gr ≤ 4) (h2 : 16 ≤ g.sz) (h3 : g.sz ≤ 512) (h4 : ¬ (4 ≤ g.ino)) : Calls Try.prog 15 #[.agg (gcs g)] w fun e w' => e = .returned (.bool false) ∧ Below w.heap.size w w' := by
  have P := gp_start w g
  have t0 : decide (g.gr < 1) = false := by simp; omega
  have t1 : decide (4 < g.gr) = false := by simp; omega
  have t2 : decide (g.sz < 16) = false := by simp; omega
  have t3 : decide (512 < g.sz) = false := by simp; omega
  have t4 : decide (g.ino < 4) = true := by simp; omega
  have c0 := P.2.c0; have c1 := P.2.c1; have c2 := P.2.c2; have c3 := P.2.c3
  have PP := Lib.hid P
  clear P
  go_enter Try.func15, Try.ntmps15
  go_wp2_with fail
  go_ret
  exact ⟨rfl, PP.out.1⟩
set_option maxRecDepth 100000 in
theorem rMay_5 (g : GeoV) (w : World) (h0 : 1 ≤ g.gr) (h1 : g.gr ≤ 4) (h2 : 16 ≤ g.sz) (h3 : g.sz ≤ 512) (h4 : 4 ≤ g.ino) (h5 : ¬ (g.ino ≤ 64)) : Calls Try.prog 15 #[.agg (gcs g)] w fun e w' => e = .returned (.bool false) ∧ Below w.heap.size w w' := by
  have P := gp_start w g
  have t0 : decide (g.gr < 1) = false := by simp; omega
  have t1 : decide (4 < g.gr) = false := by simp; omega
  have t2 : decide (g.sz < 16) = false := by simp; omega
  have t3 : decide (512 < g.sz) = false := by simp; omega
  have t4 : decide (g.ino < 4) = false := by simp; omega
  have t5 : decide (64 < g.ino) = true := by simp; omega
  have c0 := P.2.c0; have c1 := P.2.c1; have c2 := P.2.c2; have c3 := P.2.c3
  have PP := Lib.hid P
  clear P
  go_enter Try.func15, Try.ntmps15
  go_wp2_with fail
  go_ret
  exact ⟨rfl, PP.out.1⟩
set_option maxRecDepth 100000 in
theorem rMay_6 (g : GeoV) (w : World) (h0 : 1 ≤ g.gr) (h1 : g.gr ≤ 4) (h2 : 16 ≤ g.sz) (h3 : g.sz ≤ 512) (h4 : 4 ≤ g.ino) (h5 : g.ino ≤ 64) (h6 : ¬ (g.ino % 4 = 0)) : Calls Try.prog 15 #[.agg (gcs g)] w fun e w' => e = .returned (.bool false) ∧ Below w.heap.size w w' := by
  have P := gp_start w g
  have t0 : decide (g.gr < 1) = false := by simp; omega
  have t1 : decide (4 < g.gr) = false := by simp; omega
  have t2 : decide (g.sz < 16) = false := by simp; omega
  have t3 : decide (512 < g.sz) = false := by simp; omega
  have t4 : decide (g.ino < 4) = false := by simp; omega
  have t5 : decide (64 < g.ino) = false := by simp; omega
  have t6 : (g.ino % 4 != 0) = true := by simp; omega
  have c0 := P.2.c0; have c1 := P.2.c1; have c2 := P.2.c2; have c3 := P.2.c3
  have PP := Lib.hid P
  clear P
  go_enter Try.func15, Try.ntmps15
  go_wp2_with fail
  go_ret
  exact ⟨rfl, PP.out.1⟩
set_option maxRecDepth 100000 in
theorem rMay_7 (g : GeoV) (w : World) (h0 : 1 ≤ g.gr) (h1 : g.gr ≤ 4) (h2 : 16 ≤ g.sz) (h3 : g.sz ≤ 512) (h4 : 4 ≤ g.ino) (h5 : g.ino ≤ 64) (h6 : g.ino % 4 = 0) (h7 : ¬ (40 ≤ g.jr)) : Calls Try.prog 15 #[.agg (gcs g)] w fun e w' => e = .returned (.bool false) ∧ Below w.heap.size w w' := by
  have P := gp_start w g
  have t0 : decide (g.gr < 1) = false := by simp; omega
  have t1 : decide (4 < g.gr) = false := by simp; omega
  have t2 : decide (g.sz < 16) = false := by simp; omega
  have t3 : decide (512 < g.sz) = false := by simp; omega
  have t4 : decide (g.ino < 4) = false := by simp; omega
  have t5 : decide (64 < g.ino) = false := by simp; omega
  have t6 : (g.ino % 4 != 0) = false := by simp; omega
  have t7 : decide (g.jr < 40) = true := by simp; omega
  have c0 := P.2.c0; have c1 := P.2.c1; have c2 := P.2.c2; have c3 := P.2.c3
  have PP := Lib.hid P
  clear P
  go_enter Try.func15, Try.ntmps15
  go_wp2_with fail
  go_ret
  exact ⟨rfl, PP.out.1⟩
set_option maxRecDepth 100000 in
theorem rMay_8 (g : GeoV) (w : World) (h0 : 1 ≤ g.gr) (h1 : g.gr ≤ 4) (h2 : 16 ≤ g.sz) (h3 : g.sz ≤ 512) (h4 : 4 ≤ g.ino) (h5 : g.ino ≤ 64) (h6 : g.ino % 4 = 0) (h7 : 40 ≤ g.jr) (h8 : ¬ (g.jr ≤ 256)) : Calls Try.prog 15 #[.agg (gcs g)] w fun e w' => e = .returned (.bool false) ∧ Below w.heap.size w w' := by
  have P := gp_start w g
  have t0 : decide (g.gr < 1) = false := by simp; omega
  have t1 : decide (4 < g.gr) = false := by simp; omega
  have t2 : decide (g.sz < 16) = false := by simp; omega
  have t3 : decide (512 < g.sz) = false := by simp; omega
  have t4 : decide (g.ino < 4) = false := by simp; omega
  have t5 : decide (64 < g.ino) = false := by simp; omega
  have t6 : (g.ino % 4 != 0) = false := by simp; omega
  have t7 : decide (g.jr < 40) = false := by simp; omega
  have t8 : decide (256 < g.jr) = true := by simp; omega
  have c0 := P.2.c0; have c1 := P.2.c1; have c2 := P.2.c2; have c3 := P.2.c3
  have PP := Lib.hid P
  clear P
  go_enter Try.func15, Try.ntmps15
  go_wp2_with fail
  go_ret
  exact ⟨rfl, PP.out.1⟩
set_option maxRecDepth 100000 in
theorem rMay_9 (g : GeoV) (w : World) (h0 : 1 ≤ g.gr) (h1 : g.gr ≤ 4) (h2 : 16 ≤ g.sz) (h3 : g.sz ≤ 512) (h4 : 4 ≤ g.ino) (h5 : g.ino ≤ 64) (h6 : g.ino % 4 = 0) (h7 : 40 ≤ g.jr) (h8 : g.jr ≤ 256) (h9 : ¬ (3 + g.ino / 4 ≤ g.sz)) : Calls Try.prog 15 #[.agg (gcs g)] w fun e w' => e = .returned (.bool false) ∧ Below w.heap.size w w' := by
  have P := gp_start w g
  have t0 : decide (g.gr < 1) = false := by simp; omega
  have t1 : decide (4 < g.gr) = false := by simp; omega
  have t2 : decide (g.sz < 16) = false := by simp; omega
  have t3 : decide (512 < g.sz) = false := by simp; omega
  have t4 : decide (g.ino < 4) = false := by simp; omega
  have t5 : decide (64 < g.ino) = false := by simp; omega
  have t6 : (g.ino % 4 != 0) = false := by simp; omega
  have t7 : decide (g.jr < 40) = false := by simp; omega
  have t8 : decide (256 < g.jr) = false := by simp; omega
  have t9 : decide (3 + g.ino / 4 ≤ g.sz) = false := by simp; omega
  have c0 := P.2.c0; have c1 := P.2.c1; have c2 := P.2.c2; have c3 := P.2.c3
  have PP := Lib.hid P
  clear P
  go_enter Try.func15, Try.ntmps15
  go_wp2_with fail
  go_ret
  exact ⟨rfl, PP.out.1⟩
set_option maxRecDepth 100000 in
theorem rMay_10 (g : GeoV) (w : World) (h0 : 1 ≤ g.gr) (h1 : g.gr ≤ 4) (h2 : 16 ≤ g.sz) (h3 : g.sz ≤ 512) (h4 : 4 ≤ g.ino) (h5 : g.ino ≤ 64) (h6 : g.ino % 4 = 0) (h7 : 40 ≤ g.jr) (h8 : g.jr ≤ 256) (h9 : 3 + g.ino / 4 ≤ g.sz) (h10 : ¬ (2 + g.jr + g.gr * g.sz ≤ 2048)) : Calls Try.prog 15 #[.agg (gcs g)] w fun e w' => e = .returned (.bool false) ∧ Below w.heap.size w w' := by
  have P := gp_start w g
  have t0 : decide (g.gr < 1) = false := by simp; omega
  have t1 : decide (4 < g.gr) = false := by simp; omega
  have t2 : decide (g.sz < 16) = false := by simp; omega
  have t3 : decide (512 < g.sz) = false := by simp; omega
  have t4 : decide (g.ino < 4) = false := by simp; omega
  have t5 : decide (64 < g.ino) = false := by simp; omega
  have t6 : (g.ino % 4 != 0) = false := by simp; omega
  have t7 : decide (g.jr < 40) = false := by simp; omega
  have t8 : decide (256 < g.jr) = false := by simp; omega
  have t9 : decide (3 + g.ino / 4 ≤ g.sz) = true := by simp; omega
  have p1 : 0 ≤ g.gr * g.sz := Int.mul_nonneg (by omega) (by omega)
  have p2 : g.gr * g.sz ≤ 4 * 512 := Int.mul_le_mul (by omega) (by omega) (by omega) (by omega)
  have t10 : decide (2 + g.jr + g.gr * g.sz ≤ 2048) = false := by simp; omega
  have c0 := P.2.c0; have c1 := P.2.c1; have c2 := P.2.c2; have c3 := P.2.c3
  have PP := Lib.hid P
  clear P
  go_enter Try.func15, Try.ntmps15
  go_wp2_with fail
  go_ret
  exact ⟨rfl, PP.out.1⟩
set_option maxRecDepth 100000 in
theorem rMay_11 (g : GeoV) (w : World) (h0 : 1 ≤ g.gr) (h1 : g.gr ≤ 4) (h2 : 16 ≤ g.sz) (h3 : g.sz ≤ 512) (h4 : 4 ≤ g.ino) (h5 : g.ino ≤ 64) (h6 : g.ino % 4 = 0) (h7 : 40 ≤ g.jr) (h8 : g.jr ≤ 256) (h9 : 3 + g.ino / 4 ≤ g.sz) (h10 : 2 + g.jr + g.gr * g.sz ≤ 2048) : Calls Try.prog 15 #[.agg (gcs g)] w fun e w' => e = .returned (.bool true) ∧ Below w.heap.size w w' := by
  have P := gp_start w g
  have t0 : decide (g.gr < 1) = false := by simp; omega
  have t1 : decide (4 < g.gr) = false := by simp; omega
  have t2 : decide (g.sz < 16) = false := by simp; omega
  have t3 : decide (512 < g.sz) = false := by simp; omega
  have t4 : decide (g.ino < 4) = false := by simp; omega
  have t5 : decide (64 < g.ino) = false := by simp; omega
  have t6 : (g.ino % 4 != 0) = false := by simp; omega
  have t7 : decide (g.jr < 40) = false := by simp; omega
  have t8 : decide (256 < g.jr) = false := by simp; omega
  have t9 : decide (3 + g.ino / 4 ≤ g.sz) = true := by simp; omega
  have p1 : 0 ≤ g.gr * g.sz := Int.mul_nonneg (by omega) (by omega)
  have p2 : g.gr * g.sz ≤ 4 * 512 := Int.mul_le_mul (by omega) (by omega) (by omega) (by omega)
  have t10 : decide (2 + g.jr + g.gr * g.sz ≤ 2048) = true := by simp; omega
  have c0 := P.2.c0; have c1 := P.2.c1; have c2 := P.2.c2; have c3 := P.2.c3
  have PP := Lib.hid P
  clear P
  go_enter Try.func15, Try.ntmps15
  go_wp2_with fail
  go_ret
  exact ⟨rfl, PP.out.1⟩
theorem rMay (g : GeoV) (w : World) : Calls Try.prog 15 #[.agg (gcs g)] w fun e w' => e = .returned (.bool (mayB g)) ∧ Below w.heap.size w w' := by
  have no : ∀ {b}, mayB g = b → (Calls Try.prog 15 #[.agg (gcs g)] w fun e w' => e = .returned (.bool b) ∧ Below w.heap.size w w') → (Calls Try.prog 15 #[.agg (gcs g)] w fun e w' => e = .returned (.bool (mayB g)) ∧ Below w.heap.size w w') := fun h k => by rw [h]; exact k
  have nm : ¬ May g → mayB g = false := fun h => decide_eq_false h
  by_cases h0 : 1 ≤ g.gr
  · by_cases h1 : g.gr ≤ 4
    · by_cases h2 : 16 ≤ g.sz
      · by_cases h3 : g.sz ≤ 512
        · by_cases h4 : 4 ≤ g.ino
          · by_cases h5 : g.ino ≤ 64
            · by_cases h6 : g.ino % 4 = 0
              · by_cases h7 : 40 ≤ g.jr
                · by_cases h8 : g.jr ≤ 256
                  · by_cases h9 : 3 + g.ino / 4 ≤ g.sz
                    · by_cases h10 : 2 + g.jr + g.gr * g.sz ≤ 2048
                      · exact no (decide_eq_true ⟨h0, h1, h2, h3, h4, h5, h6, h7, h8, h9, h10⟩) (rMay_11 g w h0 h1 h2 h3 h4 h5 h6 h7 h8 h9 h10)
                      · exact no (nm fun m => h10 m.2.2.2.2.2.2.2.2.2.2) (rMay_10 g w h0 h1 h2 h3 h4 h5 h6 h7 h8 h9 h10)
                    · exact no (nm fun m => h9 m.2.2.2.2.2.2.2.2.2.1) (rMay_9 g w h0 h1 h2 h3 h4 h5 h6 h7 h8 h9)
                  · exact no (nm fun m => h8 m.2.2.2.2.2.2.2.2.1) (rMay_8 g w h0 h1 h2 h3 h4 h5 h6 h7 h8)
                · exact no (nm fun m => h7 m.2.2.2.2.2.2.2.1) (rMay_7 g w h0 h1 h2 h3 h4 h5 h6 h7)
              · exact no (nm fun m => h6 m.2.2.2.2.2.2.1) (rMay_6 g w h0 h1 h2 h3 h4 h5 h6)
            · exact no (nm fun m => h5 m.2.2.2.2.2.1) (rMay_5 g w h0 h1 h2 h3 h4 h5)
          · exact no (nm fun m => h4 m.2.2.2.2.1) (rMay_4 g w h0 h1 h2 h3 h4)
        · exact no (nm fun m => h3 m.2.2.2.1) (rMay_3 g w h0 h1 h2 h3)
      · exact no (nm fun m => h2 m.2.2.1) (rMay_2 g w h0 h1 h2)
    · exact no (nm fun m => h1 m.2.1) (rMay_1 g w h0 h1)
  · exact no (nm fun m => h0 m.1) (rMay_0 g w h0)
theorem rMay_yes {g : GeoV} (hm : May g) (w : World) : Calls Try.prog 15 #[.agg (gcs g)] w fun e w' => e = .returned (.bool true) ∧ Below w.heap.size w w' := (rMay g w).mono fun e w' q => ⟨by rw [q.1]; unfold mayB; rw [decide_eq_true hm], q.2⟩
theorem rMay_no {g : GeoV} (hm : ¬ May g) (w : World) : Calls Try.prog 15 #[.agg (gcs g)] w fun e w' => e = .returned (.bool false) ∧ Below w.heap.size w w' := (rMay g w).mono fun e w' q => ⟨by rw [q.1]; unfold mayB; rw [decide_eq_false hm], q.2⟩
end Go.Proofs.Ytamghbmeedbbgaa
