import Derived.Test.YtfijagjkgmhimaaInoL5
import Derived.Great.BuildSlice
namespace Go.Proofs.Ytfijagjkgmhimaa
open Go.RowKit

/-! The law InodeFour. -/
def fourV (x y z v : InoV) : Nat → InoV
  | 0 => x
  | 1 => y
  | 2 => z
  | _ => v
/-- Four inodes one behind the other in memory. -/
def LVar (w : World) (g : Nat) (x y z v : InoV) : Prop := ∀ k, k < 4 → IAt w g (k * 16) (fourV x y z v k)
theorem LVar.keep {w w' : World} {g : Nat} {x y z v : InoV} (h : LVar w g x y z v) (hk : w'.heap[g]? = w.heap[g]?) : LVar w' g x y z v := fun k hlt i u hu => by
  rw [← h k hlt i u hu]; simp [World.cell?, hk]
theorem LVar.lt {w : World} {g : Nat} {x y z v : InoV} (h : LVar w g x y z v) : g < w.heap.size :=
  World.block_lt_of_cell? w _ (h 0 (by omega) 0 _ (by rw [show (ics (fourV x y z v 0)).toList[0]? = some (.int .u8 (((fourV x y z v 0).kd : Nat) : Int)) from by have := ics_0 (fourV x y z v 0); simpa using this]))
def lcs (x y z v : InoV) : Array Value := ics x ++ ics y ++ ics z ++ ics v
theorem lcs_get {x y z v : InoV} {k i : Nat} {u : Value} (hk : k < 4) (h : (ics (fourV x y z v k))[i]? = some u) : (lcs x y z v)[k * 16 + i]? = some u := by
  have hi : i < 16 := by
    rcases Nat.lt_or_ge i 16 with q | q
    · exact q
    · rw [Array.getElem?_eq_none (by rw [ics_count]; exact q)] at h; cases h
  unfold lcs
  match k, hk with
  | 0, _ =>
    rw [Array.getElem?_append_left (by simp [ics_count]; omega), Array.getElem?_append_left (by simp [ics_count]; omega), Array.getElem?_append_left (by simp [ics_count]; omega), Nat.zero_mul, Nat.zero_add]
    exact h
  | 1, _ =>
    rw [Array.getElem?_append_left (by simp [ics_count]; omega), Array.getElem?_append_left (by simp [ics_count]; omega), Array.getElem?_append_right (by simp [ics_count]), ics_count, show 1 * 16 + i - 16 = i by omega]
    exact h
  | 2, _ =>
    rw [Array.getElem?_append_left (by simp [ics_count]; omega), Array.getElem?_append_right (by simp [ics_count]), Array.size_append, ics_count, ics_count, show 2 * 16 + i - (16 + 16) = i by omega]
    exact h
  | 3, _ =>
    rw [Array.getElem?_append_right (by simp [ics_count]), Array.size_append, Array.size_append, ics_count, ics_count, ics_count, show 3 * 16 + i - (16 + 16 + 16) = i by omega]
    exact h
theorem LVar.row {w : World} {g : Nat} {x y z v : InoV} {t : TypeId} (h : w.heap[g]? = some (.cells (lcs x y z v) t (0, 0))) : LVar w g x y z v := fun k hk i u hu => by
  rw [cell_of_row w g (k * 16 + i) _ _ _ h]
  exact lcs_get hk (by simpa using hu)
set_option maxRecDepth 100000 in
theorem four_fill (x y z v : InoV) : Instr.fill (fun i => some (i * 16, 16)) ((Array.range (4 * 16)).map ((Value.agg #[.int .u8 0, .int .i64 0, .int .u32 0, .int .i64 0, .int .u32 0, .int .u32 0, .int .u32 0, .int .u32 0, .int .u32 0, .int .u32 0, .int .u32 0, .int .u32 0, .int .u32 0, .int .u32 0, .int .u32 0, .int .u32 0]).cells[· % (Value.agg #[.int .u8 0, .int .i64 0, .int .u32 0, .int .i64 0, .int .u32 0, .int .u32 0, .int .u32 0, .int .u32 0, .int .u32 0, .int .u32 0, .int .u32 0, .int .u32 0, .int .u32 0, .int .u32 0, .int .u32 0, .int .u32 0]).cells.size]!)) [(0, .agg (ics x)), (1, .agg (ics y)), (2, .agg (ics z)), (3, .agg (ics v))] = some (lcs x y z v) := by
  unfold lcs
  rw [ics_eq, ics_eq, ics_eq, ics_eq]
  kernel_rfl
theorem build_four {ops : Array Oper} {rest : List Oper} {op : Oper} {a : Act} {w : World} {Q : Exit → Act → World → Prop} (hgd : op.guard = none) (y0 y1 y2 y3 : Operand) (ho : op.op = .buildSlice 43 4 #[(0, y0), (1, y1), (2, y2), (3, y3)]) (x y z v : InoV) (h0 : a.eval y0 = .agg (ics x)) (h1 : a.eval y1 = .agg (ics y)) (h2 : a.eval y2 = .agg (ics z)) (h3 : a.eval y3 = .agg (ics v))
    (h : wpList Try.prog ops Q rest (a.put op.dst (.slice (some ⟨w.heap.size, 0, none⟩) 4 4)) (w.alloc (.cells (lcs x y z v) 27))) : wpList Try.prog ops Q (op :: rest) a w := by
  obtain ⟨i, i1, i2⟩ := Option.map_eq_some_iff.1 ino_info
  simp only [Prod.mk.injEq] at i2
  obtain ⟨hz, hs⟩ := i2
  refine wpList_plain hgd fun _ hK => wp_buildSlice 43 27 4 _ ho (lcs x y z v) i _ Try.underlying43 i1 hz (by rw [hs]; decide) (by rw [hs]; decide) ?_ (hK _ _ h)
  rw [hs]
  simp only [List.map_toArray, List.map_cons, List.map_nil, h0, h1, h2, h3]
  exact four_fill x y z v
/-- Which places have been put. -/
def Was (f i k : Nat) : Prop := ∃ j, j < i ∧ (f + j) % 4 = k
open Classical in
/-- What the block tells when i inodes are put, from number f on. -/
def Tells (lv : Nat → InoV) (f i : Nat) (B : Blk) : Prop := ∀ k, k < 4 → getI B ((64 * k : Nat) : Int) = (if Was f i k ∧ MayI (lv k) then lv k else .zero, 0)
theorem place64 {k : Nat} (h : k < 4) : PlaceI ((64 * k : Nat) : Int) := by unfold PlaceI; omega
theorem tells_0 (lv : Nat → InoV) (f : Nat) : Tells lv f 0 .zero := fun k hk => by
  rw [if_neg (by rintro ⟨⟨j, h, _⟩, _⟩; omega)]
  exact get_zero (place64 hk)
theorem tells_succ {lv : Nat → InoV} {f i : Nat} {B : Blk} (h : Tells lv f i B) (hf : ∀ k, (lv k).Fits) : Tells lv f (i + 1) (putI B ((64 * ((f + i) % 4) : Nat) : Int) (lv ((f + i) % 4))).1 := fun k hk => by
  have hq : (f + i) % 4 < 4 := Nat.mod_lt _ (by omega)
  by_cases e : k = (f + i) % 4
  · subst e
    by_cases hm : MayI (lv ((f + i) % 4))
    · rw [get_put (place64 hq) (hf _) hm, if_pos ⟨⟨i, by omega, rfl⟩, hm⟩]
    · rw [putI_not (place64 hq) hm, if_neg (fun q => hm q.2)]
      have := h _ hq
      rw [if_neg (fun q => hm q.2)] at this
      exact this
  · rw [get_other (by omega), h k hk]
    have : Was f (i + 1) k ↔ Was f i k := by
      constructor
      · rintro ⟨j, hj, h1⟩
        rcases Nat.lt_or_ge j i with q | q
        · exact ⟨j, q, h1⟩
        · obtain rfl : j = i := by omega
          exact absurd h1.symm e
      · rintro ⟨j, hj, h1⟩; exact ⟨j, by omega, h1⟩
    rw [this]
theorem tells_4 {lv : Nat → InoV} {f : Nat} {B : Blk} (h : Tells lv f 4 B) {k : Nat} (hk : k < 4) : getI B ((64 * k : Nat) : Int) = (if mayB (lv k) = true then lv k else .zero, 0) := by
  rw [h k hk]
  have hw : Was f 4 k := by
    refine ⟨(k + 4 - f % 4) % 4, Nat.mod_lt _ (by omega), ?_⟩
    omega
  by_cases hm : MayI (lv k)
  · rw [if_pos ⟨hw, hm⟩, if_pos ((mayB_iff _).2 hm)]
  · rw [if_neg (fun q => hm q.2), if_neg (fun q => hm ((mayB_iff _).1 q))]
theorem put_ok_may {B : Blk} {k : Nat} {x : InoV} (hk : k < 4) (hf : x.Fits) : ((putI B ((64 * k : Nat) : Int) x).2 == 0) = mayB x := by
  by_cases hm : MayI x
  · rw [putI_may (place64 hk) hf.kd hm, (mayB_iff _).2 hm]; rfl
  · rw [putI_not (place64 hk) hm, Bool.eq_false_iff.2 (fun q => hm ((mayB_iff _).1 q))]; rfl
/-- What InodeFour keeps in memory. -/
structure FK (x y z v : InoV) (w0 : World) (gl gb : Nat) (B : Blk) (w : World) : Prop where
  ix : IVar w w0.heap.size x
  il : LVar w gl x y z v
  ib : BVar w gb B
  ne : w0.heap.size < gl ∧ gl < gb
  low : Below w0.heap.size w0 w
section
variable {x y z v : InoV} {w0 w w' : World} {gl gb : Nat} {B D : Blk}
theorem FK.below (h : FK x y z v w0 gl gb B w) (hb : Below w.heap.size w w') : FK x y z v w0 gl gb B w' := ⟨h.ix.below hb, h.il.keep (hb.block _ h.il.lt), h.ib.below hb, h.ne, low_go h.low hb⟩
theorem FK.drewN (h : FK x y z v w0 gl gb B w) (n : Nat) : FK x y z v w0 gl gb B (w.drewN n) := ⟨h.ix, h.il.keep rfl, h.ib, h.ne, low_drewN h.low n⟩
theorem FK.put (h : FK x y z v w0 gl gb B w) (ho : Only gb w w') (hv : BVar w' gb D) : FK x y z v w0 gl gb D w' :=
  ⟨ho.ino (by have := h.ne; omega) h.ix, h.il.keep (ho.block _ h.il.lt (fun e => by have := h.ne; injection e with e; omega)), hv, h.ne, low_only h.low ho (by have := h.ne; omega)⟩
end
def foV (gl kk : Nat) (u : InoV) (e : Int) (m : Bool) : Nat → Value → Prop
  | 0, t => t = .int .i64 (kk : Int)
  | 1, t => t = .int .i64 (64 * (kk : Int))
  | 2, t => t = .slice (some ⟨gl, 0, none⟩) 4 4
  | 3, t => t = .int .i64 (kk : Int)
  | 4, t => t = .pointer (some ⟨gl, kk * 16, none⟩)
  | 5, t => t = .agg (ics u)
  | 6, t => t = .int .i64 e
  | 7, t => t = .bool (e == 0)
  | 8, t => t = .slice (some ⟨gl, 0, none⟩) 4 4
  | 9, t => t = .int .i64 (kk : Int)
  | 10, t => t = .pointer (some ⟨gl, kk * 16, none⟩)
  | 11, t => t = .agg (ics u)
  | 12, t => t = .bool m
  | _, _ => True
def foD (i : Nat) : Tmp := 38 + i
/-- One call that writes a block, in a region that draws its order. -/
structure One (i1 : Nat) (R : Blk → World → Prop) (X Y : Blk) (seen : Array Bool) (w : World) : Prop where
  is : R (if seen.getD i1 false = true then Y else X) w
section
variable {i1 i : Nat} {R : Blk → World → Prop} {X Y : Blk} {seen : Array Bool} {w w' : World}
theorem One.other (h : One i1 R X Y seen w) (h1 : i ≠ i1) (hw : ∀ Z, R Z w → R Z w') : One i1 R X Y (seen.setIfInBounds i true) w' := ⟨by rw [getD_set_other h1]; exact hw _ h.is⟩
theorem One.fst (h : One i1 R X Y seen w) (hun : seen.getD i1 true = false) : R X w := by
  have a := h.is
  rwa [if_neg (by rw [getD_both hun]; decide)] at a
theorem One.fst' (hi : i1 < seen.size) (hr : R Y w') : One i1 R X Y (seen.setIfInBounds i1 true) w' := ⟨by rw [if_pos (getD_set_self hi)]; exact hr⟩
end
theorem op_call1 {o : Oper} {a : Act} {w : World} {K : Act → World → Prop} {Q : Exit → Act → World → Prop} {f : Nat} {y1 : Operand} {ts : Array TypeId} {v1 r : Value} (ho : o.op = .call { callee := .value (.func f), args := #[y1], argTypes := ts }) (h1 : a.eval y1 = v1)
    (hf : ∀ (args : Array Value) (w : World), (callFunc f args).run Try.prog w = .ok (.enter f args) w) {R : World → Prop} (hc : Calls Try.prog f #[v1] w fun e w' => e = .returned r ∧ R w') (hk : ∀ w', R w' → K (a.put o.dst r) w') : o.wp Try.prog a w K Q := by
  refine wp_enter (f := f) (args := #[v1]) (w' := w) ?_ (hc.mono fun e w' h => ⟨r, h.1, hk w' h.2⟩)
  have e2 : a.eval (.func f) = .func (.func f) #[] #[] := rfl
  unfold execOp
  simp only [ho]
  generalize a.eval = ev at h1 e2 ⊢
  have := hf #[v1] w
  simp [resolve, invoke, h1, e2, this, go_sem]
theorem may_enters : ∀ (args : Array Value) (w : World), (callFunc 12 args).run Try.prog w = .ok (.enter 12 args) w := enters_of Try.func12 (by kernel_rfl) rfl
theorem tmod_low (f : Int) : ∃ m : Int, f.tmod 4 = m ∧ -3 ≤ m ∧ m ≤ 3 := by
  refine ⟨_, rfl, ?_⟩
  rw [Int.tmod_eq_emod]
  split <;> omega
end Go.Proofs.Ytfijagjkgmhimaa
