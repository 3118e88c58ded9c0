import Derived.Test.YtmlmpflfejbbcaaDoorBaseG
import Derived.Deep.AppendLies
import Derived.Test.YtmlmpflfejbbcaaDoorGeoPb
namespace Go.Proofs.YtmlmpflfejbbcaaDoor
open Go.RowKit

/-! The document's own May, Inodes, Number. -/
theorem gp_start (w : World) (g : GeoV) : GP w g (w.alloc (.cells (gcs g) 23)) := ⟨(Below.refl w.heap.size w).alloc (Nat.le_refl _) (.cells (gcs g) 23), heap_alloc_new w _⟩
set_option maxHeartbeats 4000000

set_option maxRecDepth 100000 in
theorem rMay_0 (g : GeoV) (w : World)  (h0 : ¬ (1 ≤ g.gr)) : Calls Tryd.prog 24 #[.agg (gcs g)] w fun e w' => e = .returned (.bool false) ∧ Below w.heap.size w w' := by
  have P := gp_start w g
  have t0 : decide (g.gr < 1) = true := by simp; omega
  have c0 := P.2.c0; have c1 := P.2.c1; have c2 := P.2.c2; have c3 := P.2.c3
  have PP := Lib.hid P
  clear P
  go_enter Tryd.func24, Tryd.ntmps24
  go_wp2_with fail
  go_ret
  exact ⟨rfl, PP.out.1⟩
set_option maxRecDepth 100000 in
theorem rMay_1 (g : GeoV) (w : World) (h0 : 1 ≤ g.gr) (h1 : ¬ (g.gr ≤ 4)) : Calls Tryd.prog 24 #[.agg (gcs g)] w fun e w' => e = .returned (.bool false) ∧ Below w.heap.size w w' := by
  have P := gp_start w g
  have t0 : decide (g.gr < 1) = false := by simp; omega
  have t1 : decide (4 < g.gr) = true := by simp; omega
  have c0 := P.2.c0; have c1 := P.2.c1; have c2 := P.2.c2; have c3 := P.2.c3
  have PP := Lib.hid P
  clear P
  go_enter Tryd.func24, Tryd.ntmps24
  go_wp2_with fail
  go_ret
  exact ⟨rfl, PP.out.1⟩
set_option maxRecDepth 100000 in
theorem rMay_2 (g : GeoV) (w : World) (h0 : 1 ≤ g.gr) (h1 : g.gr ≤ 4) (h2 : ¬ (16 ≤ g.sz)) : Calls Tryd.prog 24 #[.agg (gcs g)] w fun e w' => e = .returned (.bool false) ∧ Below w.heap.size w w' := by
  have P := gp_start w g
  have t0 : decide (g.gr < 1) = false := by simp; omega
  have t1 : decide (4 < g.gr) = false := by simp; omega
  have t2 : decide (g.sz < 16) = true := by simp; omega
  have c0 := P.2.c0; have c1 := P.2.c1; have c2 := P.2.c2; have c3 := P.2.c3
  have PP := Lib.hid P
  clear P
  go_enter Tryd.func24, Tryd.ntmps24
  go_wp2_with fail
  go_ret
  exact ⟨rfl, PP.out.1⟩
set_option maxRecDepth 100000 in
theorem rMay_3 (g : GeoV) (w : World) (h0 : 1 ≤ g.gr) (h1 : g.gr ≤ 4) (h2 : 16 ≤ g.sz) (h3 : ¬ (g.sz ≤ 512)) : Calls Tryd.prog 24 #[.agg (gcs g)] w fun e w' => e = .returned (.bool false) ∧ Below w.heap.size w w' := by
  have P := gp_start w g
  have t0 : decide (g.gr < 1) = false := by simp; omega
  have t1 : decide (4 < g.gr) = false := by simp; omega
  have t2 : decide (g.sz < 16) = false := by simp; omega
  have t3 : decide (512 < g.sz) = true := by simp; omega
  have c0 := P.2.c0; have c1 := P.2.c1; have c2 := P.2.c2; have c3 := P.2.c3
  have PP := Lib.hid P
  clear P
  go_enter Tryd.func24, Tryd.ntmps24
  go_wp2_with fail
  go_ret
  exact ⟨rfl, PP.out.1⟩
set_option maxRecDepth 100000 in
theorem rMay_4 (g : GeoV) (w : World) (h0 : 1 ≤ g.gr) (h1 : g.gr ≤ 4) (h2 : 16 ≤ g.sz) (h3 : g.sz ≤ 512) (h4 : ¬ (4 ≤ g.ino)) : Calls Tryd.prog 24 #[.agg (gcs g)] w fun e w' => e = .returned (.bool false) ∧ Below w.heap.size w w' := by
  have P := gp_start w g
  have t0 : decide (g.gr < 1) = false := by simp; omega
  have t1 : decide (4 < g.gr) = false := by simp; omega
  have t2 : decide (g.sz < 16) = false := by simp; omega
  have t3 : decide (512 < g.sz) = false := by simp; omega
  have t4 : decide (g.ino < 4) = true := by simp; omega
  have c0 := P.2.c0; have c1 := P.2.c1; have c2 := P.2.c2; have c3 := P.2.c3
  have PP := Lib.hid P
  clear P
  go_enter Tryd.func24, Tryd.ntmps24
  go_wp2_with fail
  go_ret
  exact ⟨rfl, PP.out.1⟩
set_option maxRecDepth 100000 in
theorem rMay_5 (g : GeoV) (w : World) (h0 : 1 ≤ g.gr) (h1 : g.gr ≤ 4) (h2 : 16 ≤ g.sz) (h3 : g.sz ≤ 512) (h4 : 4 ≤ g.ino) (h5 : ¬ (g.ino ≤ 64)) : Calls Tryd.prog 24 #[.agg (gcs g)] w fun e w' => e = .returned (.bool false) ∧ Below w.heap.size w w' := by
  have P := gp_start w g
  have t0 : decide (g.gr < 1) = false := by simp; omega
  have t1 : decide (4 < g.gr) = false := by simp; omega
  have t2 : decide (g.sz < 16) = false := by simp; omega
  have t3 : decide (512 < g.sz) = false := by simp; omega
  have t4 : decide (g.ino < 4) = false := by simp; omega
  have t5 : decide (64 < g.ino) = true := by simp; omega
  have c0 := P.2.c0; have c1 := P.2.c1; have c2 := P.2.c2; have c3 := P.2.c3
  have PP := Lib.hid P
  clear P
  go_enter Tryd.func24, Tryd.ntmps24
  go_wp2_with fail
  go_ret
  exact ⟨rfl, PP.out.1⟩
set_option maxRecDepth 100000 in
theorem rMay_6 (g : GeoV) (w : World) (h0 : 1 ≤ g.gr) (h1 : g.gr ≤ 4) (h2 : 16 ≤ g.sz) (h3 : g.sz ≤ 512) (h4 : 4 ≤ g.ino) (h5 : g.ino ≤ 64) (h6 : ¬ (g.ino % 4 = 0)) : Calls Tryd.prog 24 #[.agg (gcs g)] w fun e w' => e = .returned (.bool false) ∧ Below w.heap.size w w' := by
  have P := gp_start w g
  have t0 : decide (g.gr < 1) = false := by simp; omega
  have t1 : decide (4 < g.gr) = false := by simp; omega
  have t2 : decide (g.sz < 16) = false := by simp; omega
  have t3 : decide (512 < g.sz) = false := by simp; omega
  have t4 : decide (g.ino < 4) = false := by simp; omega
  have t5 : decide (64 < g.ino) = false := by simp; omega
  have t6 : (g.ino % 4 != 0) = true := by simp; omega
  have c0 := P.2.c0; have c1 := P.2.c1; have c2 := P.2.c2; have c3 := P.2.c3
  have PP := Lib.hid P
  clear P
  go_enter Tryd.func24, Tryd.ntmps24
  go_wp2_with fail
  go_ret
  exact ⟨rfl, PP.out.1⟩
set_option maxRecDepth 100000 in
theorem rMay_7 (g : GeoV) (w : World) (h0 : 1 ≤ g.gr) (h1 : g.gr ≤ 4) (h2 : 16 ≤ g.sz) (h3 : g.sz ≤ 512) (h4 : 4 ≤ g.ino) (h5 : g.ino ≤ 64) (h6 : g.ino % 4 = 0) (h7 : ¬ (40 ≤ g.jr)) : Calls Tryd.prog 24 #[.agg (gcs g)] w fun e w' => e = .returned (.bool false) ∧ Below w.heap.size w w' := by
  have P := gp_start w g
  have t0 : decide (g.gr < 1) = false := by simp; omega
  have t1 : decide (4 < g.gr) = false := by simp; omega
  have t2 : decide (g.sz < 16) = false := by simp; omega
  have t3 : decide (512 < g.sz) = false := by simp; omega
  have t4 : decide (g.ino < 4) = false := by simp; omega
  have t5 : decide (64 < g.ino) = false := by simp; omega
  have t6 : (g.ino % 4 != 0) = false := by simp; omega
  have t7 : decide (g.jr < 40) = true := by simp; omega
  have c0 := P.2.c0; have c1 := P.2.c1; have c2 := P.2.c2; have c3 := P.2.c3
  have PP := Lib.hid P
  clear P
  go_enter Tryd.func24, Tryd.ntmps24
  go_wp2_with fail
  go_ret
  exact ⟨rfl, PP.out.1⟩
set_option maxRecDepth 100000 in
theorem rMay_8 (g : GeoV) (w : World) (h0 : 1 ≤ g.gr) (h1 : g.gr ≤ 4) (h2 : 16 ≤ g.sz) (h3 : g.sz ≤ 512) (h4 : 4 ≤ g.ino) (h5 : g.ino ≤ 64) (h6 : g.ino % 4 = 0) (h7 : 40 ≤ g.jr) (h8 : ¬ (g.jr ≤ 256)) : Calls Tryd.prog 24 #[.agg (gcs g)] w fun e w' => e = .returned (.bool false) ∧ Below w.heap.size w w' := by
  have P := gp_start w g
  have t0 : decide (g.gr < 1) = false := by simp; omega
  have t1 : decide (4 < g.gr) = false := by simp; omega
  have t2 : decide (g.sz < 16) = false := by simp; omega
  have t3 : decide (512 < g.sz) = false := by simp; omega
  have t4 : decide (g.ino < 4) = false := by simp; omega
  have t5 : decide (64 < g.ino) = false := by simp; omega
  have t6 : (g.ino % 4 != 0) = false := by simp; omega
  have t7 : decide (g.jr < 40) = false := by simp; omega
  have t8 : decide (256 < g.jr) = true := by simp; omega
  have c0 := P.2.c0; have c1 := P.2.c1; have c2 := P.2.c2; have c3 := P.2.c3
  have PP := Lib.hid P
  clear P
  go_enter Tryd.func24, Tryd.ntmps24
  go_wp2_with fail
  go_ret
  exact ⟨rfl, PP.out.1⟩
set_option maxRecDepth 100000 in
theorem rMay_9 (g : GeoV) (w : World) (h0 : 1 ≤ g.gr) (h1 : g.gr ≤ 4) (h2 : 16 ≤ g.sz) (h3 : g.sz ≤ 512) (h4 : 4 ≤ g.ino) (h5 : g.ino ≤ 64) (h6 : g.ino % 4 = 0) (h7 : 40 ≤ g.jr) (h8 : g.jr ≤ 256) (h9 : ¬ (3 + g.ino / 4 ≤ g.sz)) : Calls Tryd.prog 24 #[.agg (gcs g)] w fun e w' => e = .returned (.bool false) ∧ Below w.heap.size w w' := by
  have P := gp_start w g
  have t0 : decide (g.gr < 1) = false := by simp; omega
  have t1 : decide (4 < g.gr) = false := by simp; omega
  have t2 : decide (g.sz < 16) = false := by simp; omega
  have t3 : decide (512 < g.sz) = false := by simp; omega
  have t4 : decide (g.ino < 4) = false := by simp; omega
  have t5 : decide (64 < g.ino) = false := by simp; omega
  have t6 : (g.ino % 4 != 0) = false := by simp; omega
  have t7 : decide (g.jr < 40) = false := by simp; omega
  have t8 : decide (256 < g.jr) = false := by simp; omega
  have t9 : decide (3 + g.ino / 4 ≤ g.sz) = false := by simp; omega
  have c0 := P.2.c0; have c1 := P.2.c1; have c2 := P.2.c2; have c3 := P.2.c3
  have PP := Lib.hid P
  clear P
  go_enter Tryd.func24, Tryd.ntmps24
  go_wp2_with fail
  go_ret
  exact ⟨rfl, PP.out.1⟩
set_option maxRecDepth 100000 in
theorem rMay_10 (g : GeoV) (w : World) (h0 : 1 ≤ g.gr) (h1 : g.gr ≤ 4) (h2 : 16 ≤ g.sz) (h3 : g.sz ≤ 512) (h4 : 4 ≤ g.ino) (h5 : g.ino ≤ 64) (h6 : g.ino % 4 = 0) (h7 : 40 ≤ g.jr) (h8 : g.jr ≤ 256) (h9 : 3 + g.ino / 4 ≤ g.sz) (h10 : ¬ (2 + g.jr + g.gr * g.sz ≤ 2048)) : Calls Tryd.prog 24 #[.agg (gcs g)] w fun e w' => e = .returned (.bool false) ∧ Below w.heap.size w w' := by
  have P := gp_start w g
  have t0 : decide (g.gr < 1) = false := by simp; omega
  have t1 : decide (4 < g.gr) = false := by simp; omega
  have t2 : decide (g.sz < 16) = false := by simp; omega
  have t3 : decide (512 < g.sz) = false := by simp; omega
  have t4 : decide (g.ino < 4) = false := by simp; omega
  have t5 : decide (64 < g.ino) = false := by simp; omega
  have t6 : (g.ino % 4 != 0) = false := by simp; omega
  have t7 : decide (g.jr < 40) = false := by simp; omega
  have t8 : decide (256 < g.jr) = false := by simp; omega
  have t9 : decide (3 + g.ino / 4 ≤ g.sz) = true := by simp; omega
  have p1 : 0 ≤ g.gr * g.sz := Int.mul_nonneg (by omega) (by omega)
  have p2 : g.gr * g.sz ≤ 4 * 512 := Int.mul_le_mul (by omega) (by omega) (by omega) (by omega)
  have t10 : decide (2 + g.jr + g.gr * g.sz ≤ 2048) = false := by simp; omega
  have c0 := P.2.c0; have c1 := P.2.c1; have c2 := P.2.c2; have c3 := P.2.c3
  have PP := Lib.hid P
  clear P
  go_enter Tryd.func24, Tryd.ntmps24
  go_wp2_with fail
  go_ret
  exact ⟨rfl, PP.out.1⟩
set_option maxRecDepth 100000 in
theorem rMay_11 (g : GeoV) (w : World) (h0 : 1 ≤ g.gr) (h1 : g.gr ≤ 4) (h2 : 16 ≤ g.sz) (h3 : g.sz ≤ 512) (h4 : 4 ≤ g.ino) (h5 : g.ino ≤ 64) (h6 : g.ino % 4 = 0) (h7 : 40 ≤ g.jr) (h8 : g.jr ≤ 256) (h9 : 3 + g.ino / 4 ≤ g.sz) (h10 : 2 + g.jr + g.gr * g.sz ≤ 2048) : Calls Tryd.prog 24 #[.agg (gcs g)] w fun e w' => e = .returned (.bool true) ∧ Below w.heap.size w w' := by
  have P := gp_start w g
  have t0 : decide (g.gr < 1) = false := by simp; omega
  have t1 : decide (4 < g.gr) = false := by simp; omega
  have t2 : decide (g.sz < 16) = false := by simp; omega
  have t3 : decide (512 < g.sz) = false := by simp; omega
  have t4 : decide (g.ino < 4) = false := by simp; omega
  have t5 : decide (64 < g.ino) = false := by simp; omega
  have t6 : (g.ino % 4 != 0) = false := by simp; omega
  have t7 : decide (g.jr < 40) = false := by simp; omega
  have t8 : decide (256 < g.jr) = false := by simp; omega
  have t9 : decide (3 + g.ino / 4 ≤ g.sz) = true := by simp; omega
  have p1 : 0 ≤ g.gr * g.sz := Int.mul_nonneg (by omega) (by omega)
  have p2 : g.gr * g.sz ≤ 4 * 512 := Int.mul_le_mul (by omega) (by omega) (by omega) (by omega)
  have t10 : decide (2 + g.jr + g.gr * g.sz ≤ 2048) = true := by simp; omega
  have c0 := P.2.c0; have c1 := P.2.c1; have c2 := P.2.c2; have c3 := P.2.c3
  have PP := Lib.hid P
  clear P
  go_enter Tryd.func24, Tryd.ntmps24
  go_wp2_with fail
  go_ret
  exact ⟨rfl, PP.out.1⟩
theorem rMay (g : GeoV) (w : World) : Calls Tryd.prog 24 #[.agg (gcs g)] w fun e w' => e = .returned (.bool (mayB g)) ∧ Below w.heap.size w w' := by
  have no : ∀ {b}, mayB g = b → (Calls Tryd.prog 24 #[.agg (gcs g)] w fun e w' => e = .returned (.bool b) ∧ Below w.heap.size w w') → (Calls Tryd.prog 24 #[.agg (gcs g)] w fun e w' => e = .returned (.bool (mayB g)) ∧ Below w.heap.size w w') := fun h k => by rw [h]; exact k
  have nm : ¬ May g → mayB g = false := fun h => decide_eq_false h
  by_cases h0 : 1 ≤ g.gr
  · by_cases h1 : g.gr ≤ 4
    · by_cases h2 : 16 ≤ g.sz
      · by_cases h3 : g.sz ≤ 512
        · by_cases h4 : 4 ≤ g.ino
          · by_cases h5 : g.ino ≤ 64
            · by_cases h6 : g.ino % 4 = 0
              · by_cases h7 : 40 ≤ g.jr
                · by_cases h8 : g.jr ≤ 256
                  · by_cases h9 : 3 + g.ino / 4 ≤ g.sz
                    · by_cases h10 : 2 + g.jr + g.gr * g.sz ≤ 2048
                      · exact no (decide_eq_true ⟨h0, h1, h2, h3, h4, h5, h6, h7, h8, h9, h10⟩) (rMay_11 g w h0 h1 h2 h3 h4 h5 h6 h7 h8 h9 h10)
                      · exact no (nm fun m => h10 m.2.2.2.2.2.2.2.2.2.2) (rMay_10 g w h0 h1 h2 h3 h4 h5 h6 h7 h8 h9 h10)
                    · exact no (nm fun m => h9 m.2.2.2.2.2.2.2.2.2.1) (rMay_9 g w h0 h1 h2 h3 h4 h5 h6 h7 h8 h9)
                  · exact no (nm fun m => h8 m.2.2.2.2.2.2.2.2.1) (rMay_8 g w h0 h1 h2 h3 h4 h5 h6 h7 h8)
                · exact no (nm fun m => h7 m.2.2.2.2.2.2.2.1) (rMay_7 g w h0 h1 h2 h3 h4 h5 h6 h7)
              · exact no (nm fun m => h6 m.2.2.2.2.2.2.1) (rMay_6 g w h0 h1 h2 h3 h4 h5 h6)
            · exact no (nm fun m => h5 m.2.2.2.2.2.1) (rMay_5 g w h0 h1 h2 h3 h4 h5)
          · exact no (nm fun m => h4 m.2.2.2.2.1) (rMay_4 g w h0 h1 h2 h3 h4)
        · exact no (nm fun m => h3 m.2.2.2.1) (rMay_3 g w h0 h1 h2 h3)
      · exact no (nm fun m => h2 m.2.2.1) (rMay_2 g w h0 h1 h2)
    · exact no (nm fun m => h1 m.2.1) (rMay_1 g w h0 h1)
  · exact no (nm fun m => h0 m.1) (rMay_0 g w h0)
theorem rMay_yes {g : GeoV} (hm : May g) (w : World) : Calls Tryd.prog 24 #[.agg (gcs g)] w fun e w' => e = .returned (.bool true) ∧ Below w.heap.size w w' := (rMay g w).mono fun e w' q => ⟨by rw [q.1]; unfold mayB; rw [decide_eq_true hm], q.2⟩
theorem rMay_no {g : GeoV} (hm : ¬ May g) (w : World) : Calls Tryd.prog 24 #[.agg (gcs g)] w fun e w' => e = .returned (.bool false) ∧ Below w.heap.size w w' := (rMay g w).mono fun e w' q => ⟨by rw [q.1]; unfold mayB; rw [decide_eq_false hm], q.2⟩
end Go.Proofs.YtmlmpflfejbbcaaDoor
namespace Go.Proofs.YtmlmpflfejbbcaaDoor
open Go.RowKit

/-! The document's own list of what the blocks are. -/
def inoW (g : GeoV) (b : Int) : Int := if (whatG g b).1 = 6 then 1 + (whatG g b).2.1 * g.ino + 4 * ((whatG g b).2.2 - 2) else 0
def thingC (g : GeoV) (n : Nat) : List Value := [.int .u8 (whatG g n).1, .int .i64 (whatG g n).2.1, .int .i64 (whatG g n).2.2, .int .i64 (inoW g n)]
def tl (g : GeoV) : Nat → List Value
  | 0 => []
  | n + 1 => tl g n ++ thingC g n
theorem tl_length (g : GeoV) : ∀ n, (tl g n).length = n * 4
  | 0 => rfl
  | n + 1 => by rw [tl, List.length_append, tl_length g n]; simp [thingC]; omega
theorem tl_get {g : GeoV} {k j : Nat} : ∀ {n : Nat}, k < n → j < 4 → (tl g n)[k * 4 + j]? = (thingC g k)[j]?
  | 0, h, _ => by omega
  | n + 1, h, hj => by
    rw [tl]
    by_cases e : k = n
    · subst e
      rw [List.getElem?_append_right (by rw [tl_length]; omega), tl_length]
      congr 1
      omega
    · rw [List.getElem?_append_left (by rw [tl_length]; omega)]
      exact tl_get (by omega) hj
theorem thing_of {g : GeoV} {n : Nat} {k q a o : Int} (h : whatG g n = (k, q, a)) (ho : inoW g n = o) : thingC g n = [.int .u8 k, .int .i64 q, .int .i64 a, .int .i64 o] := by
  unfold thingC
  rw [h, ho]
theorem ino_no {g : GeoV} {n : Int} {k q a : Int} (h : whatG g n = (k, q, a)) (hk : k ≠ 6) : inoW g n = 0 := by
  unfold inoW
  rw [h]
  exact if_neg hk
theorem ino_yes {g : GeoV} {n : Int} {q a : Int} (h : whatG g n = (6, q, a)) : inoW g n = 1 + q * g.ino + 4 * (a - 2) := by
  unfold inoW
  rw [h]
  exact if_pos rfl
theorem thing_lead {g : GeoV} (hm : May g) : tl g 2 = [.int .u8 1, .int .i64 0, .int .i64 0, .int .i64 0, .int .u8 2, .int .i64 0, .int .i64 0, .int .i64 0] := by
  have hp : 0 ≤ g.gr * g.sz := Int.mul_nonneg (by have := hm.1; omega) (by have := hm.2.2.1; omega)
  have hj := hm.2.2.2.2.2.2.2.1
  have w0 : whatG g ((0 : Nat) : Int) = (1, 0, 0) := by unfold whatG blocksG; rw [if_pos hm, if_neg (by simp only [hm, not_true_eq_false, false_or]; omega)]; rfl
  have w1 : whatG g ((1 : Nat) : Int) = (2, 0, 0) := by unfold whatG blocksG; rw [if_pos hm, if_neg (by simp only [hm, not_true_eq_false, false_or]; omega)]; rfl
  show ([] ++ thingC g 0) ++ thingC g 1 = _
  rw [thing_of w0 (ino_no w0 (by omega)), thing_of w1 (ino_no w1 (by omega))]
  rfl
theorem thing_journal {g : GeoV} (hm : May g) {i : Nat} (hi : (i : Int) < g.jr) : thingC g (2 + i) = [.int .u8 3, .int .i64 0, .int .i64 i, .int .i64 0] := by
  have hp : 0 ≤ g.gr * g.sz := Int.mul_nonneg (by have := hm.1; omega) (by have := hm.2.2.1; omega)
  have hw : whatG g ((2 + i : Nat) : Int) = ((3 : Int), (0 : Int), (i : Int)) := by
    unfold whatG blocksG
    rw [if_pos hm, if_neg (by simp only [hm, not_true_eq_false, false_or]; omega), if_neg (by omega), if_neg (by omega), if_pos (by omega)]
    congr 2
    omega
  exact thing_of hw (ino_no hw (by omega))
def bN (g : GeoV) (q : Nat) : Nat := 2 + g.jr.toNat + q * g.sz.toNat
theorem bN_next (g : GeoV) (q : Nat) : bN g (q + 1) = bN g q + g.sz.toNat := by unfold bN; rw [Nat.add_mul]; omega
theorem bN_int {g : GeoV} (hm : May g) (q : Nat) : ((bN g q : Nat) : Int) = 2 + g.jr + q * g.sz := by
  have h1 := hm.2.2.1
  have h2 := hm.2.2.2.2.2.2.2.1
  unfold bN
  rw [Int.natCast_add, Int.natCast_add, Int.natCast_mul, Int.toNat_of_nonneg (by omega), Int.toNat_of_nonneg (by omega)]
  rfl
theorem what_bN {g : GeoV} (hm : May g) {q a : Nat} (hq : (q : Int) < g.gr) (ha : (a : Int) < g.sz) : whatG g ((bN g q + a : Nat) : Int) = (kindG g (a : Int), (q : Int), (a : Int)) := by
  rw [Int.natCast_add, bN_int hm]
  exact what_at hm (by omega) hq (by omega) ha
theorem thing_bits {g : GeoV} (hm : May g) {q : Nat} (hq : (q : Int) < g.gr) : thingC g (bN g q) ++ thingC g (bN g q + 1) = [.int .u8 4, .int .i64 q, .int .i64 0, .int .i64 0, .int .u8 5, .int .i64 q, .int .i64 1, .int .i64 0] := by
  have w0 := what_bN hm (a := 0) hq (by have := hm.2.2.1; omega)
  have w1 := what_bN hm (a := 1) hq (by have := hm.2.2.1; omega)
  rw [Nat.add_zero] at w0
  have k0 : kindG g ((0 : Nat) : Int) = 4 := rfl
  have k1 : kindG g ((1 : Nat) : Int) = 5 := rfl
  rw [k0] at w0
  rw [k1] at w1
  rw [thing_of w0 (ino_no w0 (by omega)), thing_of w1 (ino_no w1 (by omega))]
  rfl
theorem thing_table {g : GeoV} (hm : May g) {q j : Nat} (hq : (q : Int) < g.gr) (hj : (4 * j : Int) < g.ino) : thingC g (bN g q + (2 + j)) = [.int .u8 6, .int .i64 q, .int .i64 (2 + j), .int .i64 (1 + q * g.ino + 4 * j)] := by
  have h1 := hm.2.2.2.2.2.2.1
  have h2 := hm.2.2.2.2.2.2.2.2.2.1
  have w0 := what_bN hm (a := 2 + j) hq (by omega)
  have k0 : kindG g ((2 + j : Nat) : Int) = 6 := by unfold kindG; rw [if_neg (by omega), if_neg (by omega), if_pos (by omega)]
  rw [k0] at w0
  rw [thing_of w0 (ino_yes w0), Int.natCast_add]
  congr 4
  simp
  omega
theorem thing_data {g : GeoV} (hm : May g) {q a : Nat} (hq : (q : Int) < g.gr) (h1 : 2 + g.ino / 4 ≤ a) (h2 : (a : Int) < g.sz) : thingC g (bN g q + a) = [.int .u8 7, .int .i64 q, .int .i64 a, .int .i64 0] := by
  have w0 := what_bN hm (a := a) hq h2
  have k0 : kindG g (a : Int) = 7 := by unfold kindG; rw [if_neg (by have := hm.2.2.2.2.1; omega), if_neg (by have := hm.2.2.2.2.1; omega), if_neg (by omega)]
  rw [k0] at w0
  exact thing_of w0 (ino_no w0 (by omega))
theorem bN_le {g : GeoV} (hm : May g) {q a : Nat} (hq : (q : Int) < g.gr) (ha : (a : Int) ≤ g.sz) : bN g q + a ≤ 2048 := by
  have h1 := bN_int hm q
  have h2 := Int.mul_le_mul_of_nonneg_right (show (q : Int) + 1 ≤ g.gr by omega) (show 0 ≤ g.sz by have := hm.2.2.1; omega)
  rw [Int.add_mul, Int.one_mul] at h2
  have h3 := hm.2.2.2.2.2.2.2.2.2.2
  omega

/-! The list in memory. -/
theorem thing_info : (Tryd.prog.info? 101).map (fun i => (i.zero, i.size, i.bytes)) = some (some (.agg #[.int .u8 0, .int .i64 0, .int .i64 0, .int .i64 0]), 4, 32) := by kernel_rfl
structure TRow (w : World) (g : GeoV) (n : Nat) (v : Value) (W : World) : Prop where
  own : W.ownsRow (w.heap.size + 1) 101 4 v n (tl g n)
  gp : GP w g W
theorem TRow.alloc {w W : World} {g : GeoV} {n : Nat} {v : Value} (h : TRow w g n v W) (o : Obj) : TRow w g n v (W.alloc o) :=
  ⟨h.own.kept (World.grownBy_alloc W o none) (by rcases h.own.2 with ⟨rfl, _⟩ | ⟨_, _, _, rfl, _⟩ <;> simp [Value.ownBlock]), h.gp.step ((Below.refl _ W).alloc (Nat.le_refl _) o)⟩
theorem TRow.base {w W : World} {g : GeoV} {n : Nat} {v : Value} (h : TRow w g n v W) : ∀ r, v.ownBlock = some r → w.heap.size + 1 ≤ r := by
  intro r e
  rcases h.own.2 with ⟨rfl, _⟩ | ⟨b, _, _, rfl, hb, _⟩
  · cases e
  · have : b = r := by simpa [Value.ownBlock] using e
    omega
theorem TRow.app {w W w5 : World} {g : GeoV} {n n' : Nat} {v v' : Value} {xs : List Value} (h : TRow w g n v W) (o : Obj) (hown : w5.ownsRow (w.heap.size + 1) 101 4 v' n' xs) (hx : xs = tl g n') (hgrow : (W.alloc o).grownBy w5 v.ownBlock) : TRow w g n' v' w5 := by
  have ha := h.alloc o
  refine ⟨by rw [← hx]; exact hown, ha.gp.1.grown hgrow ha.gp.1.size (fun k e => by have := h.base k e; omega), (hgrow.block w.heap.size ha.gp.2.lt (fun e => ?_)).trans ha.gp.2⟩
  have := h.base _ e.symm
  omega
theorem TRow.size {w W : World} {g : GeoV} {n : Nat} {v : Value} (h : TRow w g n v W) : w.heap.size + 1 ≤ W.heap.size := h.gp.2.lt

set_option maxRecDepth 100000 in
set_option maxHeartbeats 4000000 in
theorem rAll_may (g : GeoV) (w : World) (hm : May g) : Calls Tryd.prog 60 #[.agg (gcs g)] w fun e w' => ∃ v, e = .returned v ∧ TRow w g (blocksG g).toNat v w' := by
  have P0 := Lib.hid (gp_start w g)
  have HM := Lib.hid hm
  have CM := Lib.hid (fun W => rMay_yes hm W)
  obtain ⟨i0, hi0, hzz⟩ := Option.map_eq_some_iff.1 thing_info
  simp only [Prod.mk.injEq] at hzz
  obtain ⟨hz0, hz1, hz2⟩ := hzz
  have HZ0 := Lib.hid hz0
  have HZ1 := Lib.hid hz1
  have HZ2 := Lib.hid hz2
  have HI0 := Lib.hid hi0
  have LEAD := Lib.hid (thing_lead hm)
  obtain ⟨m1, m2, m3, m4, m5, m6, m7, m8, m9, m10, m11⟩ := hm
  clear hz0 hz1 hz2 hi0
  go_enter Tryd.func60, Tryd.ntmps60
  go_wp2_with (first
    | (refine load_geo rfl (.tmp 1) rfl w.heap.size 0 rfl g P0.out.2.at ?_)
    | (go_at_call 24; with_reducible refine (CM.out _).mono ?_; rintro e w2 ⟨rfl, hb⟩; have P := Lib.hid (P0.out.step hb); clear hb))
  have hb3 : Below w2.heap.size w2 (w2.alloc (.cells #[.int .u8 1, .int .i64 0, .int .i64 0, .int .i64 0, .int .u8 2, .int .i64 0, .int .i64 0, .int .i64 0] 101)) := (Below.refl _ w2).alloc (Nat.le_refl _) _
  have T0 : Hid (TRow w g (2 + 0) (.slice (some ⟨w2.heap.size, 0, none⟩) 2 2) (w2.alloc (.cells #[.int .u8 1, .int .i64 0, .int .i64 0, .int .i64 0, .int .u8 2, .int .i64 0, .int .i64 0, .int .i64 0] 101))) := Lib.hid ⟨⟨by rw [tl_length], .inr ⟨w2.heap.size, 2, _, rfl, P.out.2.lt, heap_alloc_new w2 _, by omega, by simp only [maxLen]; omega, rfl, by rw [show tl g (2 + 0) = tl g 2 from rfl, LEAD.out]; rfl⟩⟩, P.out.step hb3⟩
  clear hb3 P LEAD P0 CM
  generalize w2.alloc (.cells #[.int .u8 1, .int .i64 0, .int .i64 0, .int .i64 0, .int .u8 2, .int .i64 0, .int .i64 0, .int .i64 0] 101) = w3 at T0 ⊢
  generalize w2.heap.size = b2 at T0 ⊢
  clear w2
  go_loopw [3, 4] (fun v iv wr => ∃ i : Nat, (i : Int) ≤ g.jr ∧ iv = .int .i64 i ∧ Hid (TRow w g (2 + i) v wr)) (fun _ iv _ => (g.jr - intOf iv).toNat)
  case atStart => exact ⟨0, by omega, rfl, T0⟩
  case round =>
    obtain ⟨i, hi, rfl, T⟩ := hrel
    have c3 := T.out.gp.2.c3
    by_cases hlt : (i : Int) < g.jr
    · have t1 : decide ((i : Int) < g.jr) = true := decide_eq_true hlt
      have TJ := Lib.hid (thing_journal HM.out hlt)
      go_wp2_with (at_builtin; refine wpList_append_lies _ rfl (.tmp 21) (.tmp 24) 98 rfl (w.heap.size + 1) 101 i0 _ 4 32 Tryd.underlying98 HI0.out HZ0.out HZ1.out HZ2.out (by rfl) (by omega) _ (2 + i) (tl g (2 + i)) (by rfl) (T.out.alloc _).own ⟨wr.heap.size, 0, none⟩ 1 1 [.int .u8 3, .int .i64 0, .int .i64 i, .int .i64 0] (by rfl) (by rfl) (World.news_of_block (heap_alloc_new wr _)) (by simp [Value.oneCell']) (by omega) (by simp only [maxLen]; omega) (by omega) (by have := T.out.size; simp; omega) (wr.heap.size + 1) (by simp) ?_; intro gg cap w5 hown hgrow hat hlt; have T2 := Lib.hid (T.out.app _ hown (n' := 2 + (i + 1)) (by rw [← Nat.add_assoc, tl, TJ.out]) hgrow); clear hown hgrow hat hlt)
      go_roundw
      case rel => exact ⟨i + 1, by omega, by go_num, T2⟩
      case measure => simp [intOf]; omega
    · have t1 : decide ((i : Int) < g.jr) = false := decide_eq_false hlt
      have hb0 : 2 + i = bN g 0 := by unfold bN; omega
      rw [hb0] at T
      clear hb0 hlt
      go_wp2_with fail
      clear c3 t1
      go_loopw [3, 5, 6] (fun v ov gv wr => ∃ q : Nat, (q : Int) ≤ g.gr ∧ gv = .int .i64 q ∧ ov = .int .i64 (1 + q * g.ino) ∧ Hid (TRow w g (bN g q) v wr)) (fun _ _ gv _ => (g.gr - intOf gv).toNat)
      case atStart => exact ⟨0, by omega, rfl, by simp, T⟩
      case round =>
        obtain ⟨q, hq, rfl, rfl, T⟩ := hrel
        have c0 := T.out.gp.2.c0
        by_cases hlt : (q : Int) < g.gr
        · have t1 : decide ((q : Int) < g.gr) = true := decide_eq_true hlt
          have TB := Lib.hid (thing_bits HM.out hlt)
          have TT := Lib.hid (fun j (hj : (4 * (j : Nat) : Int) < g.ino) => thing_table HM.out (q := q) hlt hj)
          have TD := Lib.hid (fun a (h1 : 2 + g.ino / 4 ≤ ((a : Nat) : Int)) (h2 : ((a : Nat) : Int) < g.sz) => thing_data HM.out (q := q) hlt h1 h2)
          have BL := Lib.hid (fun a (ha : ((a : Nat) : Int) ≤ g.sz) => bN_le HM.out (q := q) hlt ha)
          have BN := Lib.hid (bN_next g q)
          have QN : Hid (((q + 1 : Nat) : Int) * g.ino = q * g.ino + g.ino) := Lib.hid (by rw [Int.natCast_add, Int.add_mul]; simp)
          have q1 : 0 ≤ (q : Int) * g.ino := Int.mul_nonneg (by omega) (by omega)
          have q2 : (q : Int) * g.ino ≤ 4 * 64 := Int.mul_le_mul (by omega) m6 (by omega) (by omega)
          have b0 := BL.out 2 (by omega)
          have HQ := Lib.hid hlt
          clear hlt
          obtain ⟨qi, hqi⟩ : ∃ qi, (q : Int) * g.ino = qi := ⟨_, rfl⟩
          rw [hqi] at QN q1 q2 TT ⊢
          clear hqi
          obtain ⟨B, hB⟩ : ∃ B, bN g q = B := ⟨_, rfl⟩
          rw [hB] at T TB TT TD BL BN b0
          clear hB
          go_wp2_with (at_builtin; refine wpList_append_lies _ rfl (.tmp 32) (.tmp 37) 98 rfl (w.heap.size + 1) 101 i0 _ 4 32 Tryd.underlying98 HI0.out HZ0.out HZ1.out HZ2.out (by rfl) (by omega) _ (B) (tl g (B)) (by rfl) (T.out.alloc _).own ⟨wr.heap.size, 0, none⟩ 2 2 [.int .u8 4, .int .i64 q, .int .i64 0, .int .i64 0, .int .u8 5, .int .i64 q, .int .i64 1, .int .i64 0] (by rfl) (by rfl) (World.news_of_block (heap_alloc_new wr _)) (by simp [Value.oneCell']) (by omega) (by simp only [maxLen]; omega) (by omega) (by have := T.out.size; simp; omega) (wr.heap.size + 1) (by simp) ?_; intro gg cap w5 hown hgrow hat hlt; have T2 := Lib.hid (T.out.app _ hown (n' := B + (2 + 0)) (by rw [show B + (2 + 0) = B + 1 + 1 from rfl, tl, tl, List.append_assoc, TB.out]) hgrow); clear hown hgrow hat hlt)
          clear c0 T TB b0
          go_loopw [3, 5, 7] (fun v ov iv wr => ∃ j : Nat, (4 * j : Int) ≤ g.ino ∧ iv = .int .i64 (4 * j) ∧ ov = .int .i64 (1 + qi + 4 * j) ∧ Hid (TRow w g (B + (2 + j)) v wr)) (fun _ _ iv _ => (g.ino - intOf iv).toNat)
          case atStart => exact ⟨0, by omega, rfl, by simp, T2⟩
          case round =>
            obtain ⟨j, hj, rfl, rfl, T⟩ := hrel
            have c2 := T.out.gp.2.c2
            by_cases hlt : (4 * j : Int) < g.ino
            · have t1 : decide ((4 * j : Int) < g.ino) = true := decide_eq_true hlt
              have TTj := Lib.hid (TT.out j hlt)
              have b0 := BL.out (2 + j) (by omega)
              have dq : (4 * (j : Int)) / 4 = j := by omega
              go_wp2_with (at_builtin; refine wpList_append_lies _ rfl (.tmp 45) (.tmp 52) 98 rfl (w.heap.size + 1) 101 i0 _ 4 32 Tryd.underlying98 HI0.out HZ0.out HZ1.out HZ2.out (by rfl) (by omega) _ (B + (2 + j)) (tl g (B + (2 + j))) (by rfl) (T.out.alloc _).own ⟨wr.heap.size, 0, none⟩ 1 1 [.int .u8 6, .int .i64 q, .int .i64 (2 + j), .int .i64 (1 + qi + 4 * j)] (by rfl) (by rfl) (World.news_of_block (heap_alloc_new wr _)) (by simp [Value.oneCell']) (by omega) (by simp only [maxLen]; omega) (by omega) (by have := T.out.size; simp; omega) (wr.heap.size + 1) (by simp) ?_; intro gg cap w5 hown hgrow hat hlt; have T2 := Lib.hid (T.out.app _ hown (n' := B + (2 + (j + 1))) (by rw [show B + (2 + (j + 1)) = B + (2 + j) + 1 from rfl, tl, TTj.out]) hgrow); clear hown hgrow hat hlt)
              go_roundw
              case rel => exact ⟨j + 1, by omega, by go_num, by go_num, T2⟩
              case measure => simp [intOf]; omega
            · have t1 : decide ((4 * j : Int) < g.ino) = false := decide_eq_false hlt
              have hji : 4 * (j : Int) = g.ino := by omega
              have ha : 2 + g.ino / 4 = ((2 + j : Nat) : Int) := by omega
              have hov : Hid (1 + qi + 4 * (j : Int) = 1 + ((q + 1 : Nat) : Int) * g.ino) := Lib.hid (by rw [QN.out]; omega)
              have HJI := Lib.hid hji
              have HA := Lib.hid ha
              clear hlt TT QN hji ha hj
              go_wp2_with fail
              clear c2 t1
              go_loopw [3, 8] (fun v av wr => ∃ a : Nat, 2 + g.ino / 4 ≤ (a : Int) ∧ (a : Int) ≤ g.sz ∧ av = .int .i64 a ∧ Hid (TRow w g (B + a) v wr)) (fun _ av _ => (g.sz - intOf av).toNat)
              case atStart => exact ⟨2 + j, by have := HA.out; omega, by have := HA.out; omega, by rw [HA.out], T⟩
              case round =>
                obtain ⟨a, ha1, ha2, rfl, T⟩ := hrel
                have c1 := T.out.gp.2.c1
                by_cases hlt : (a : Int) < g.sz
                · have t1 : decide ((a : Int) < g.sz) = true := decide_eq_true hlt
                  have TDa := Lib.hid (TD.out a ha1 hlt)
                  have b0 := BL.out a ha2
                  go_wp2_with (at_builtin; refine wpList_append_lies _ rfl (.tmp 66) (.tmp 70) 98 rfl (w.heap.size + 1) 101 i0 _ 4 32 Tryd.underlying98 HI0.out HZ0.out HZ1.out HZ2.out (by rfl) (by omega) _ (B + a) (tl g (B + a)) (by rfl) (T.out.alloc _).own ⟨wr.heap.size, 0, none⟩ 1 1 [.int .u8 7, .int .i64 q, .int .i64 a, .int .i64 0] (by rfl) (by rfl) (World.news_of_block (heap_alloc_new wr _)) (by simp [Value.oneCell']) (by omega) (by simp only [maxLen]; omega) (by omega) (by have := T.out.size; simp; omega) (wr.heap.size + 1) (by simp) ?_; intro gg cap w5 hown hgrow hat hlt; have T2 := Lib.hid (T.out.app _ hown (n' := B + (a + 1)) (by rw [← Nat.add_assoc, tl, TDa.out]) hgrow); clear hown hgrow hat hlt)
                  go_roundw
                  case rel => exact ⟨a + 1, by omega, by omega, by go_num, T2⟩
                  case measure => simp [intOf]; omega
                · have t1 : decide ((a : Int) < g.sz) = false := decide_eq_false hlt
                  have hB : B + a = bN g (q + 1) := by rw [BN.out]; omega
                  rw [hB] at T
                  clear hB hlt ha1 ha2 BN BL TD
                  go_wp2_with fail
                  go_roundw
                  case rel => exact ⟨q + 1, by have := HQ.out; omega, by go_num, by rw [hov.out], T⟩
                  case measure =>
                    have := HQ.out
                    simp [intOf]; omega
        · have t1 : decide ((q : Int) < g.gr) = false := decide_eq_false hlt
          have hq : bN g q = (blocksG g).toNat := by
            have h1 := bN_int HM.out q
            have h2 : blocksG g = 2 + g.jr + g.gr * g.sz := if_pos HM.out
            rw [h2, show g.gr = (q : Int) by omega, ← h1]
            simp
          rw [hq] at T
          clear hq hlt
          go_wp2_with fail
          go_ret
          exact ⟨_, rfl, T.out⟩
theorem rAll (g : GeoV) (w : World) : Calls Tryd.prog 60 #[.agg (gcs g)] w fun e w' => ∃ v, e = .returned v ∧ TRow w g (blocksG g).toNat v w' := by
  by_cases hm : May g
  · exact rAll_may g w hm
  · have P0 := Lib.hid (gp_start w g)
    have CM := Lib.hid (fun W => rMay_no hm W)
    have hz : (blocksG g).toNat = 0 := by unfold blocksG; rw [if_neg hm]; rfl
    rw [hz]
    clear hz hm
    go_enter Tryd.func60, Tryd.ntmps60
    go_wp2_with (first
      | (refine load_geo rfl (.tmp 1) rfl w.heap.size 0 rfl g P0.out.2.at ?_)
      | (go_at_call 24; with_reducible refine (CM.out _).mono ?_; rintro e w2 ⟨rfl, hb⟩; have P := Lib.hid (P0.out.step hb); clear hb))
    go_ret
    exact ⟨_, rfl, ⟨rfl, .inl ⟨rfl, rfl⟩⟩, P.out⟩
end Go.Proofs.YtmlmpflfejbbcaaDoor
namespace Go.Proofs.YtmlmpflfejbbcaaDoor
open Go.RowKit

theorem GP.geo {w a : World} {g : GeoV} (h : GP w g a) : GVar a w.heap.size g := h.2
/-! The document's own answers over its list: Blocks, Inodes, Number, What. -/
/-- A list of things as its reader sees it. -/
structure Things (W : World) (g : GeoV) (n : Nat) (A : Option Addr) (cap : Nat) : Prop where
  some : 0 < n → ∃ b, A = some ⟨b, 0, none⟩ ∧ b < W.heap.size ∧ ∀ k j v, k < n → j < 4 → (thingC g k)[j]? = some v → W.cell? ⟨b, k * 4 + j, none⟩ = some v
  le : n ≤ cap
theorem TRow.things {w W : World} {g : GeoV} {n : Nat} {v : Value} (h : TRow w g n v W) : ∃ A cap, v = .slice A n cap ∧ Things W g n A cap := by
  rcases h.own.2 with ⟨rfl, rfl⟩ | ⟨b, cap, cur, rfl, hb, hg, hc, _, hs, ht⟩
  · exact ⟨none, 0, rfl, fun h => by omega, Nat.le_refl _⟩
  · refine ⟨_, cap, rfl, fun _ => ⟨b, rfl, (Array.getElem?_eq_some_iff.1 hg).1, fun k j v hk hj hv => ?_⟩, hc⟩
    rw [cell_of_row W b _ _ _ _ hg]
    have h1 := tl_get (g := g) (n := n) hk hj
    rw [← ht, List.getElem?_take_of_lt (by omega), hv] at h1
    rw [← Array.getElem?_toList]
    exact h1
theorem Things.below {W W' : World} {g : GeoV} {n : Nat} {A : Option Addr} {cap : Nat} (h : Things W g n A cap) (hb : Below W.heap.size W W') : Things W' g n A cap :=
  ⟨fun hn => by
    obtain ⟨b, h1, h2, h3⟩ := h.some hn
    exact ⟨b, h1, Nat.lt_of_lt_of_le h2 hb.size, fun k j v hk hj hv => (hb.cell (p := ⟨b, _, none⟩) h2).trans (h3 k j v hk hj hv)⟩, h.le⟩
theorem Things.view {W : World} {g : GeoV} {n : Nat} {A : Option Addr} {cap : Nat} (h : Things W g n A cap) (hn : 0 < n) : ∃ b, A = Option.some ⟨b, 0, none⟩ ∧ b < W.heap.size ∧ ∀ k : Nat, k < n →
    W.cell? ⟨b, k * 4, none⟩ = Option.some (.int .u8 (whatG g k).1) ∧ W.cell? ⟨b, k * 4 + 1, none⟩ = Option.some (.int .i64 (whatG g k).2.1) ∧ W.cell? ⟨b, k * 4 + 2, none⟩ = Option.some (.int .i64 (whatG g k).2.2) ∧ W.cell? ⟨b, k * 4 + 3, none⟩ = Option.some (.int .i64 (inoW g k)) := by
  obtain ⟨b, h1, h2, h3⟩ := h.some hn
  exact ⟨b, h1, h2, fun k hk => ⟨h3 k 0 _ hk (by omega) rfl, h3 k 1 _ hk (by omega) rfl, h3 k 2 _ hk (by omega) rfl, h3 k 3 _ hk (by omega) rfl⟩⟩
theorem blocks_fits (g : GeoV) : 0 ≤ blocksG g ∧ blocksG g ≤ 2048 := by
  unfold blocksG
  split
  · rename_i hm
    have := Int.mul_nonneg (show 0 ≤ g.gr by have := hm.1; omega) (show 0 ≤ g.sz by have := hm.2.2.1; omega)
    have := hm.2.2.2.2.2.2.2.2.2.2
    have := hm.2.2.2.2.2.2.2.1
    omega
  · omega

theorem num_no' {g : GeoV} {k i : Int} (h : ¬ (inGroup g k = true ∧ 0 ≤ i ∧ i < g.ino)) : numberG g k i = 0 := by unfold numberG; rw [if_neg h]
end Go.Proofs.YtmlmpflfejbbcaaDoor
namespace Go.Proofs.YtmlmpflfejbbcaaDoor
open Go.RowKit

/-! The document's own answers over its list: What, Data, Start. -/
/-- Where the blocks of kind 4 stand. -/
theorem what_four {g : GeoV} {b : Nat} (hb : (b : Int) < blocksG g) {q : Int} (h4 : (whatG g (b : Int)).1 = 4) (hq : (whatG g (b : Int)).2.1 = q) : inGroup g q = true ∧ startG g q = b := by
  have hm : May g := by
    by_cases h : May g
    · exact h
    · unfold blocksG at hb; rw [if_neg h] at hb; omega
  rw [← first_num] at hb
  obtain ⟨k, hk, p1, p2⟩ := part_covers (g := g) (b := (b : Int)) (by omega) _ hb
  have hw := what_part hk p1 p2
  rw [hw] at h4 hq
  simp only at h4 hq
  match k with
  | 0 => simp [partG] at h4
  | 1 => simp [partG] at h4
  | 2 => simp [partG] at h4
  | k + 3 =>
    obtain ⟨_, q', r, hq', hr, e⟩ := part_of_kind' hk
    rw [e] at h4 hq p1 p2
    have h : r = 0 ∨ r = 1 ∨ r = 2 ∨ r = 3 := by omega
    rcases h with rfl | rfl | rfl | rfl <;> simp [inG] at h4
    simp only [inG] at hq p1 p2
    subst hq
    obtain ⟨s1, s2⟩ := start_in' hm hq'
    exact ⟨s1, by rw [s2]; omega⟩
theorem four_there {g : GeoV} {q : Int} (h : inGroup g q = true) : ∃ b : Nat, (b : Int) < blocksG g ∧ startG g q = b ∧ (whatG g (b : Int)).1 = 4 ∧ (whatG g (b : Int)).2.1 = q := by
  obtain ⟨hm, h1, h2⟩ := of_decide_eq_true h
  obtain ⟨n, rfl⟩ := Int.eq_ofNat_of_zero_le h1
  have hs := (start_in' hm h2).2
  have hw := what_at hm (k := (n : Int)) (a := 0) h1 h2 (by omega) (by have := hm.2.2.1; omega)
  have hf := start_fits' h
  refine ⟨(startG g n).toNat, ?_, by omega, ?_⟩
  · have hg := group_below (sz := g.sz) (a := 0) h2 (by have := hm.2.2.1; omega) (by have := hm.2.2.1; omega)
    unfold blocksG
    rw [if_pos hm, hs]
    unfold baseG at *
    have := Int.mul_nonneg (show (0 : Int) ≤ n by omega) (show 0 ≤ g.sz by have := hm.2.2.1; omega)
    have := hm.2.2.2.2.2.2.2.1
    omega
  · rw [show (((startG g n).toNat : Nat) : Int) = 2 + g.jr + n * g.sz + 0 by rw [Int.toNat_of_nonneg hf.1, hs]; unfold baseG; omega, hw]
    exact ⟨rfl, rfl⟩
end Go.Proofs.YtmlmpflfejbbcaaDoor
