import Derived.Test.YtjiooadakklmlaaNums3
import Derived.Test.YtjiooadakklmlaaFillR
namespace Go.Proofs.Ytjiooadakklmlaa
open Go.RowKit

/-! Numbers that are put, the world behind it told outright. -/
def set16 (w : World) (g a x : Nat) : World := (w.setCell ⟨g, a, none⟩ (.int .u8 ((x % 256 : Nat) : Int))).setCell ⟨g, a + 1, none⟩ (.int .u8 ((x / 256 % 256 : Nat) : Int))
def set32 (w : World) (g a x : Nat) : World := (((w.setCell ⟨g, a, none⟩ (.int .u8 ((x % 256 : Nat) : Int))).setCell ⟨g, a + 1, none⟩ (.int .u8 ((x / 256 % 256 : Nat) : Int))).setCell ⟨g, a + 2, none⟩ (.int .u8 ((x / 65536 % 256 : Nat) : Int))).setCell ⟨g, a + 3, none⟩ (.int .u8 ((x / 16777216 % 256 : Nat) : Int))
theorem set16_end {w : World} {g a x : Nat} {y0 y1 : Int} (e0 : y0 = ((x % 256 : Nat) : Int)) (e1 : y1 = ((x / 256 % 256 : Nat) : Int)) :
    (w.setCell ⟨g, a, none⟩ (.int .u8 y0)).setCell ⟨g, a + 1, none⟩ (.int .u8 y1) = set16 w g a x := by subst e0 e1; rfl
theorem set32_end {w : World} {g a x : Nat} {y0 y1 y2 y3 : Int} (e0 : y0 = ((x % 256 : Nat) : Int)) (e1 : y1 = ((x / 256 % 256 : Nat) : Int)) (e2 : y2 = ((x / 65536 % 256 : Nat) : Int)) (e3 : y3 = ((x / 16777216 % 256 : Nat) : Int)) :
    (((w.setCell ⟨g, a, none⟩ (.int .u8 y0)).setCell ⟨g, a + 1, none⟩ (.int .u8 y1)).setCell ⟨g, a + 2, none⟩ (.int .u8 y2)).setCell ⟨g, a + 3, none⟩ (.int .u8 y3) = set32 w g a x := by subst e0 e1 e2 e3; rfl
set_option maxHeartbeats 400000 in
theorem put32_w (g n c a x : Nat) (f : Nat → Nat) (w : World) (hn : n ≤ 140737488355328) (hc : Cells8 w g 0 n f) (h1 : a + 4 ≤ n) (hv : x < 4294967296) :
    Calls Try.prog 66 #[.slice (some ⟨g, 0, none⟩) n c, .int .i64 a, .int .u32 x] w fun e w' => e = .returned (.bool true) ∧ w' = set32 w g a x := by
  have c3 := hc.cell (a + 3) (by omega)
  have c2 := hc.cell (a + 2) (by omega)
  have c1 := hc.cell (a + 1) (by omega)
  have c0 := hc.cell a (by omega)
  rw [Nat.zero_add] at c0 c1 c2 c3
  have z3 := hc.frozen (a + 3)
  have z2 := hc.frozen (a + 2)
  have z1 := hc.frozen (a + 1)
  have z0 := hc.frozen a
  clear hc
  go_enter Try.func66, Try.ntmps66
  go_wp2_with (first | (go_at_call 68; refine (w32_any _).mono ?_; rintro e w' ⟨rfl, rfl⟩) | (go_at_call 69; refine (within_yes _ _ _ _ _ _ (by omega) (by omega) (by omega) (by omega) (by omega)).mono ?_; rintro e w' ⟨rfl, rfl⟩))
  refine wp_loop_rounds 5 ?_
  iterate 5 (rw [rounds_succ]; go_wp2)
  go_ret
  exact ⟨rfl, set32_end (by omega) (by omega) (by omega) (by omega)⟩
theorem Put32_w (g n c a x : Nat) (f : Nat → Nat) (w : World) (hn : n ≤ 140737488355328) (hc : Cells8 w g 0 n f) (h1 : a + 4 ≤ n) (hv : x < 4294967296) :
    Calls Try.prog 63 #[.slice (some ⟨g, 0, none⟩) n c, .int .i64 a, .int .u32 x] w fun e w' => e = .returned (.bool true) ∧ w' = set32 w g a x := by
  have H := Lib.hid hc
  clear hc
  go_enter Try.func63, Try.ntmps63
  go_wp2_with (go_at_call 66; refine (put32_w _ _ _ _ _ _ _ hn H.out h1 hv).mono ?_; rintro e w' ⟨rfl, rfl⟩)
  go_ret
  exact ⟨rfl, rfl⟩
theorem Only.set16 (w : World) (g a x : Nat) : Only g w (set16 w g a x) := (Only.set _ _ _ _).trans (Only.set _ _ _ _)
theorem Only.set32 (w : World) (g a x : Nat) : Only g w (set32 w g a x) := (((Only.set _ _ _ _).trans (Only.set _ _ _ _)).trans (Only.set _ _ _ _)).trans (Only.set _ _ _ _)
theorem below_new (W : World) (o : Obj) : Below W.heap.size W (W.alloc o) := (Below.refl _ _).alloc (Nat.le_refl _) o
theorem Only.of_below {g : Nat} {w w' : World} (h : Below w.heap.size w w') : Only g w w' := ⟨h.os, h.tape, h.output, h.size, fun i hi _ => h.block i hi⟩
theorem Only.row {g r : Nat} {w0 w : World} (h : Only g w0 w) (hr : w0.heap.size ≤ r) (cs : Array Value) : Only g w0 (w.setRow r cs) :=
  ⟨h.os, h.tape, h.output, Nat.le_trans h.size (by simp [World.setRow]), fun i hi hne => (setRow_other w r i cs (by omega)).trans (h.block i hi hne)⟩
end Go.Proofs.Ytjiooadakklmlaa
