import Derived.Test.YtnneppkkmhjpbaaPaP4
import Derived.Test.YtnneppkkmhjpbaaIterL
namespace Go.Proofs.Ytnneppkkmhjpbaa
open Go.RowKit Go.Shelf Go.BigFrame
attribute [local go_sem] Oper.semAt_some

/-! Of, plainly; its cells. -/
def restN (r : Int) (L : Nat) : Nat → Int
  | 0 => r
  | j + 1 => restN r L j % spanN ((L - j - 1 : Nat) : Int)
def digN (r : Int) (L j : Nat) : Int := restN r L j / spanN ((L - j - 1 : Nat) : Int)
def digs (r : Int) (L : Nat) : Nat → List Int
  | 0 => []
  | j + 1 => digs r L j ++ [digN r L j]
theorem digs_len (r : Int) (L : Nat) : ∀ j, (digs r L j).length = j
  | 0 => rfl
  | j + 1 => by unfold digs; rw [List.length_append, digs_len r L j]; rfl
theorem span_pos {n : Nat} (h : n ≤ 2) : 0 < spanN n ∧ spanN n ≤ 4096 := by
  rcases (by omega : n = 0 ∨ n = 1 ∨ n = 2) with rfl | rfl | rfl <;> decide
theorem rest_fits {r : Int} (h0 : 0 ≤ r) (h1 : r ≤ 262144) {L : Nat} (hL : L ≤ 3) : ∀ j, j ≤ L → 0 ≤ restN r L j ∧ restN r L j ≤ 262144
  | 0, _ => ⟨h0, h1⟩
  | j + 1, hj => by
    have hp := span_pos (n := L - j - 1) (by omega)
    show 0 ≤ restN r L j % spanN ((L - j - 1 : Nat) : Int) ∧ _
    exact ⟨Int.emod_nonneg _ (by omega), by have := Int.emod_lt_of_pos (restN r L j) hp.1; show restN r L j % spanN ((L - j - 1 : Nat) : Int) ≤ _; omega⟩
theorem way_of {i : Int} {k : Nat} (hm : MayI i) (hk : k < 11) (h1 : begN k ≤ i) (h2 : i < begN (k + 1)) : wayN i = ((k : Int), digs (i - begN k) (ptrN k).lev.toNat (ptrN k).lev.toNat) := by
  have := hm.lo
  rcases (by omega : k ≤ 7 ∨ k = 8 ∨ k = 9 ∨ k = 10) with q | rfl | rfl | rfl
  · have e1 : begN k = k := by unfold begN; rw [if_pos (by omega)]
    have e2 : begN (k + 1) = (k : Int) + 1 := by unfold begN; rw [if_pos (by omega)]; omega
    rw [ptr_low q]
    rw [e1] at h1
    rw [e2] at h2
    obtain rfl : i = k := by omega
    rw [way_0 (by omega)]
    rfl
  · rw [way_1 h1 h2]
    show ((8 : Int), [i - 8]) = ((8 : Int), [(i - 8) / 1])
    rw [Int.ediv_one]
  · rw [way_2 h1 h2]
    show ((9 : Int), [(i - 72) / 64, (i - 72) % 64]) = ((9 : Int), [(i - 72) / 64, (i - 72) % 64 / 1])
    rw [Int.ediv_one]
  · rw [way_3 h1]
    show ((10 : Int), [(i - 4168) / 4096, (i - 4168) / 64 % 64, (i - 4168) % 64]) = ((10 : Int), [(i - 4168) / 4096, (i - 4168) % 4096 / 64, (i - 4168) % 4096 % 64 / 1])
    rw [Int.ediv_one, show (i - 4168) / 64 % 64 = (i - 4168) % 4096 / 64 by omega, show (i - 4168) % 64 = (i - 4168) % 4096 % 64 by omega]
theorem ptr_iterL (w : World) (b0 m : Nat) : IterSaysL Fence.wide m Try.prog 30 #[] 11 (fun k => #[.agg (pcs (ptrN k))]) b0 w := by
  intro l J Jx W hW hJ hy h0
  exact callsIn_wide.2 (callsIn_wide.1 (pointers_in Fence.wide (m + 2) (fun _ => trivial) rfl (by omega) (Lib.hid fun _ _ _ _ _ h => callsIn_wide.2 h) l b0 J Jx W hJ (fun k W1 hk hj => yieldAt_wide (hy k W1 hk hj)) h0))

/-- Of's cells: the index, the answers. -/
structure OC (W : World) (b1 b2 b3 : Nat) (i p : Int) (v : Value) : Prop where
  c1 : Boxed W b1 3 (.int .i64 i)
  c2 : Boxed W b2 3 (.int .i64 p)
  c3 : Boxed W b3 22 v
section
variable {W W' : World} {b1 b2 b3 s : Nat} {i p : Int} {v : Value}
theorem OC.below (h : OC W b1 b2 b3 i p v) (hb : Below s W W') (h1 : b1 < s) (h2 : b2 < s) (h3 : b3 < s) : OC W' b1 b2 b3 i p v :=
  ⟨(hb.block _ h1).trans h.c1, (hb.block _ h2).trans h.c2, (hb.block _ h3).trans h.c3⟩
theorem OC.put (h : OC W b1 b2 b3 i p v) {r : Nat} (o : Obj) (h1 : b1 ≠ r) (h2 : b2 ≠ r) (h3 : b3 ≠ r) : OC (W.putObj r o) b1 b2 b3 i p v :=
  ⟨(World.putObj_heap_other h1).trans h.c1, (World.putObj_heap_other h2).trans h.c2, (World.putObj_heap_other h3).trans h.c3⟩
theorem OC.set2 (h : OC W b1 b2 b3 i p v) (q : Int) (h1 : b1 ≠ b2) (h3 : b3 ≠ b2) : OC (W.setCell ⟨b2, 0, none⟩ (.int .i64 q)) b1 b2 b3 i q v :=
  ⟨(Below.heap_setCell _ _ _ _ (by exact h1)).trans h.c1, h.c2.set _, (Below.heap_setCell _ _ _ _ (by exact h3)).trans h.c3⟩
theorem OC.set3 (h : OC W b1 b2 b3 i p v) (v' : Value) (h1 : b1 ≠ b3) (h2 : b2 ≠ b3) : OC (W.setCell ⟨b3, 0, none⟩ v') b1 b2 b3 i p v' :=
  ⟨(Below.heap_setCell _ _ _ _ (by exact h1)).trans h.c1, (Below.heap_setCell _ _ _ _ (by exact h2)).trans h.c2, h.c3.set _⟩
theorem OC.grown (h : OC W b1 b2 b3 i p v) {ob : Option Nat} (hg : W.grownBy W' ob) (hob : ∀ g, ob = some g → s ≤ g) (h1 : b1 < s) (h2 : b2 < s) (h3 : b3 < s) : OC W' b1 b2 b3 i p v :=
  ⟨h.c1.kept hg (fun e => by have := hob _ e.symm; omega), h.c2.kept hg (fun e => by have := hob _ e.symm; omega), h.c3.kept hg (fun e => by have := hob _ e.symm; omega)⟩
end
theorem own_block {W : World} {base n size : Nat} {e : TypeId} {v : Value} {xs : List Value} (h : W.ownsRow base e size v n xs) : ∀ g, v.ownBlock = some g → base ≤ g := fun g hg => by
  rcases h.2 with ⟨rfl, _⟩ | ⟨g', cap, cur, rfl, hb, _⟩
  · cases hg
  · simp [Value.ownBlock] at hg
    omega
theorem Kept.grown {b0 s : Nat} {W A B : World} (h : Kept b0 s W A) {ob : Option Nat} (hg : A.grownBy B ob) (hob : ∀ g, ob = some g → W.heap.size ≤ g) : Kept b0 s W B :=
  ⟨Nat.le_trans h.size hg.size, fun k o hk ho => by
    have h1 := h.same k o hk ho
    have hlt := (Array.getElem?_eq_some_iff.1 ho).1
    exact (hg.block k (Array.getElem?_eq_some_iff.1 h1).1 (fun e => by have := hob _ e.symm; omega)).trans h1⟩
theorem own_put {W : World} {base n size r : Nat} {e : TypeId} {v : Value} {xs : List Value} (o : Obj) (h : W.ownsRow base e size v n xs) (hr : r < base) : (W.putObj r o).ownsRow base e size v n xs := by
  refine ⟨h.1, ?_⟩
  rcases h.2 with h2 | ⟨g, cap, cur, h1, h2, h3, h4⟩
  · exact .inl h2
  · exact .inr ⟨g, cap, cur, h1, h2, (World.putObj_heap_other (by omega)).trans h3, h4⟩
theorem own_set {W : World} {base n size r : Nat} {e : TypeId} {v : Value} {xs : List Value} (x : Value) (h : W.ownsRow base e size v n xs) (hr : r < base) : (W.setCell ⟨r, 0, none⟩ x).ownsRow base e size v n xs := by
  refine ⟨h.1, ?_⟩
  rcases h.2 with h2 | ⟨g, cap, cur, h1, h2, h3, h4⟩
  · exact .inl h2
  · exact .inr ⟨g, cap, cur, h1, h2, (Below.heap_setCell _ _ _ _ (by show g ≠ r; omega)).trans h3, h4⟩
/-- What holds in the loop down the levels, in one round. -/
structure RI (W wr : World) (bk s b1 b2 b3 : Nat) (w : World) (i p : Int) (l : List Int) (v : Value) : Prop where
  oc : OC wr b1 b2 b3 i p v
  own : wr.ownsRow W.heap.size 3 1 v l.length (iC l)
  kp : Kept bk s W wr
  bl : Below bk w wr
end Go.Proofs.Ytnneppkkmhjpbaa
