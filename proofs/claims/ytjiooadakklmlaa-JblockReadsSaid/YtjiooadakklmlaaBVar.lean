import Derived.Test.YtjiooadakklmlaaPutB
import Derived.Test.YtjiooadakklmlaaPutW
import Derived.Test.YtjiooadakklmlaaNums4
namespace Go.Proofs.Ytjiooadakklmlaa
open Go.RowKit

/-! A block that lies in a variable; numbers put into it. -/
def BVar (w : World) (b : Nat) (X : Blk) : Prop := w.heap[b]? = some (.cells (arr X) 28 (0, 0))
theorem BVar.lt {w : World} {b : Nat} {X : Blk} (h : BVar w b X) : b < w.heap.size := (Array.getElem?_eq_some_iff.1 h).1
theorem BVar.below {w w' : World} {b : Nat} {X : Blk} (h : BVar w b X) (hb : Below w.heap.size w w') : BVar w' b X := (hb.block b h.lt).trans h
theorem BVar.at {w : World} {b : Nat} {X : Blk} (h : BVar w b X) : At w b 0 X := .row h
theorem BVar.row {w : World} {b : Nat} {X : Blk} (h : BVar w b X) {o n : Nat} (hn : o + n ≤ 256) : Row w (some ⟨b, o, none⟩) n (fun i => X.f (o + i)) :=
  ⟨fun i => X.lt (o + i), fun _ => ⟨b, o, rfl, h.lt, fun i hi => by
    have := h.at.cell (i := o + i) (by omega)
    rwa [Nat.zero_add] at this⟩⟩
theorem BVar.row0 {w : World} {b : Nat} {X : Blk} (h : BVar w b X) {n : Nat} (hn : n ≤ 256) : Row w (some ⟨b, 0, none⟩) n X.f :=
  ⟨X.lt, fun _ => ⟨b, 0, rfl, h.lt, fun i hi => h.at.cell (by omega)⟩⟩
section
variable {ops : Array Oper} {rest : List Oper} {op : Oper} {a : Act} {w : World} {Q : Exit → Act → World → Prop}
/-- A variable that was just made gets its value. -/
theorem store_newB (hgd : op.guard = none) (x y : Operand) (ho : op.op = .store 28 x y) (X : Blk) (hx : a.eval x = .pointer (some ⟨w.heap.size, 0, none⟩)) (hy : a.eval y = .agg (arr X))
    (h : wpList Try.prog ops Q rest (a.put op.dst undef) (w.alloc (.cells (arr X) 28))) : wpList Try.prog ops Q (op :: rest) a (w.alloc (.cells (arr .zero) 28)) := by
  refine store_row hgd x y ho w.heap.size X .zero 28 hx hy (heap_alloc_new w _) ?_
  rw [World.setRow_alloc_new]; exact h
theorem build_zeroB (hgd : op.guard = none) (ho : op.op = .build 28 #[])
    (h : wpList Try.prog ops Q rest (a.put op.dst (.agg (arr .zero))) w) : wpList Try.prog ops Q (op :: rest) a w :=
  wpList_plain hgd fun _ hK => wp_build 28 #[] ho (by simp [built_zero]) (hK _ _ (by simpa [built_zero] using h))
end
theorem Only.blk {g b : Nat} {w w' : World} {X : Blk} (h : Only g w w') (hne : b ≠ g) (hs : BVar w b X) : BVar w' b X := (h.block b hs.lt (fun e => hne (Option.some.inj e))).trans hs
theorem arr_put16 {X : Blk} {a v : Nat} (h : a + 2 ≤ 256) : ((arr X).setIfInBounds a (.int .u8 ((v % 256 : Nat) : Int))).setIfInBounds (a + 1) (.int .u8 ((v / 256 % 256 : Nat) : Int)) = arr (putB16 X a v) := by
  refine arr_ext (by simp [arr_size]) fun i hi => ?_
  rw [putB16_f hi, p16_at]
  by_cases e1 : i = a + 1
  · subst e1
    rw [Array.getElem?_setIfInBounds_self_of_lt (by simp [arr_size]; omega), if_pos rfl]
  · rw [Array.getElem?_setIfInBounds_ne (by omega), if_neg e1]
    by_cases e0 : i = a
    · subst e0
      rw [Array.getElem?_setIfInBounds_self_of_lt (by simp [arr_size]; omega), if_pos rfl]
    · rw [Array.getElem?_setIfInBounds_ne (by omega), if_neg e0, arr_get hi]
theorem arr_put32 {X : Blk} {a v : Nat} (h : a + 4 ≤ 256) : ((((arr X).setIfInBounds a (.int .u8 ((v % 256 : Nat) : Int))).setIfInBounds (a + 1) (.int .u8 ((v / 256 % 256 : Nat) : Int))).setIfInBounds (a + 2) (.int .u8 ((v / 65536 % 256 : Nat) : Int))).setIfInBounds (a + 3) (.int .u8 ((v / 16777216 % 256 : Nat) : Int)) = arr (putB32 X a v) := by
  refine arr_ext (by simp [arr_size]) fun i hi => ?_
  rw [putB32_f hi, p32_at]
  by_cases e3 : i = a + 3
  · subst e3
    rw [Array.getElem?_setIfInBounds_self_of_lt (by simp [arr_size]; omega), if_pos rfl]
  · rw [Array.getElem?_setIfInBounds_ne (by omega), if_neg e3]
    by_cases e2 : i = a + 2
    · subst e2
      rw [Array.getElem?_setIfInBounds_self_of_lt (by simp [arr_size]; omega), if_pos rfl]
    · rw [Array.getElem?_setIfInBounds_ne (by omega), if_neg e2]
      by_cases e1 : i = a + 1
      · subst e1
        rw [Array.getElem?_setIfInBounds_self_of_lt (by simp [arr_size]; omega), if_pos rfl]
      · rw [Array.getElem?_setIfInBounds_ne (by omega), if_neg e1]
        by_cases e0 : i = a
        · subst e0
          rw [Array.getElem?_setIfInBounds_self_of_lt (by simp [arr_size]; omega), if_pos rfl]
        · rw [Array.getElem?_setIfInBounds_ne (by omega), if_neg e0, arr_get hi]
theorem BVar.cells {w : World} {b : Nat} {X : Blk} (h : BVar w b X) : Cells8 w b 0 256 X.f := ⟨_, _, h, fun i hi => by rw [Nat.zero_add]; exact arr_get hi⟩
theorem BVar.drewN {w : World} {b : Nat} {X : Blk} (h : BVar w b X) (n : Nat) : BVar (w.drewN n) b X := h
theorem BVar.set16 {w : World} {b : Nat} {X : Blk} (h : BVar w b X) {a v : Nat} (ha : a + 2 ≤ 256) : BVar (set16 w b a v) b (putB16 X a v) := by
  unfold BVar Go.Proofs.Ytjiooadakklmlaa.set16 at *
  simp [World.setCell, Array.getElem?_modify, h]
  exact arr_put16 ha
theorem BVar.set32 {w : World} {b : Nat} {X : Blk} (h : BVar w b X) {a v : Nat} (ha : a + 4 ≤ 256) : BVar (set32 w b a v) b (putB32 X a v) := by
  unfold BVar Go.Proofs.Ytjiooadakklmlaa.set32 at *
  simp [World.setCell, Array.getElem?_modify, h]
  exact arr_put32 ha
set_option maxHeartbeats 400000 in
theorem rput32_b (b a x : Nat) (X : Blk) (w : World) (hV : BVar w b X) (h1 : a + 4 ≤ 256) (hv : x < 4294967296) :
    Calls Try.prog 53 #[.slice (some ⟨b, 0, none⟩) 256 256, .int .i64 a, .int .u32 x] w fun e w' => e = .returned (.bool true) ∧ BVar w' b (putB32 X a x) ∧ Only b w w' := by
  have hc := hV.cells
  have HR := Lib.hid (hV.row0 (n := 256) (Nat.le_refl _))
  have c3 := hc.cell (a + 3) (by omega)
  have c2 := hc.cell (a + 2) (by omega)
  have c1 := hc.cell (a + 1) (by omega)
  have c0 := hc.cell a (by omega)
  rw [Nat.zero_add] at c0 c1 c2 c3
  have z3 := hc.frozen (a + 3)
  have z2 := hc.frozen (a + 2)
  have z1 := hc.frozen (a + 1)
  have z0 := hc.frozen a
  have V := Lib.hid hV
  clear hc hV
  go_enter Try.func53, Try.ntmps53
  go_wp2_with (go_at_call 65; refine (rGet32_yes _ _ _ _ _ _ (by omega) HR.out (by omega) (by omega)).mono ?_; rintro e w' ⟨rfl, d, rfl⟩)
  refine wp_loop_rounds 5 ?_
  iterate 5 (rw [rounds_succ]; go_wp2)
  go_ret
  have e := set32_end (w := w.drewN d) (g := b) (a := a) (x := x) (y0 := ↑x % 256) (y1 := ↑x / 256 % 256) (y2 := ↑x / 256 / 256 % 256) (y3 := ↑x / 256 / 256 / 256 % 256) (by omega) (by omega) (by omega) (by omega)
  refine ⟨rfl, ?_⟩
  rw [show ∀ W, W = set32 (w.drewN d) b a x → (BVar W b (putB32 X a x) ∧ Only b w W) = (BVar (set32 (w.drewN d) b a x) b (putB32 X a x) ∧ Only b w (set32 (w.drewN d) b a x)) from fun W h => by rw [h]]
  · exact ⟨(V.out.drewN d).set32 h1, (Only.drewN b w d).trans (Only.set32 _ _ _ _)⟩
  · exact e
end Go.Proofs.Ytjiooadakklmlaa
