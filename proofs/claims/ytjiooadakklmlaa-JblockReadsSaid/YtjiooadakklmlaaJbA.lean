import Derived.Test.YtjiooadakklmlaaJbQ10
namespace Go.Proofs.Ytjiooadakklmlaa
open Go.RowKit

/-! What the program's own journal blocks must answer: a contract. -/
structure JSays : Prop where
  writeHead : ∀ (x : HeadV) (w : World), Calls Try.prog 11 #[.agg (hcs x)] w fun e w' => e = .returned (.tuple #[.agg (arr (writeJH x).1), .int .i64 (writeJH x).2]) ∧ Below w.heap.size w w'
  readHead : ∀ (X : Blk) (w : World), Calls Try.prog 21 #[.agg (arr X)] w fun e w' => e = .returned (.tuple #[.agg (hcs (readJH X).1), .int .i64 (readJH X).2]) ∧ Below w.heap.size w w'
  writeDesc : ∀ (s : Nat) (A : Option Addr) (c : Nat) (l : List TagV) (w : World), l.length ≤ 1000 → SmallT l → TagsAt w A l → Calls Try.prog 13 #[.int .u32 (s : Int), .slice A l.length c] w fun e w' => e = .returned (.tuple #[.agg (arr (writeJT s l).1), .int .i64 (writeJT s l).2]) ∧ Below w.heap.size w w'
  readDesc : ∀ (X : Blk) (w : World), Calls Try.prog 29 #[.agg (arr X)] w fun e w' => ReadT X w.heap.size e w' ∧ Below w.heap.size w w'
  writeRevoke : ∀ (s : Nat) (A : Option Addr) (c : Nat) (l : List Nat) (w : World), l.length ≤ 1000 → Small32 l → NumsAt w A l → Calls Try.prog 15 #[.int .u32 (s : Int), .slice A l.length c] w fun e w' => e = .returned (.tuple #[.agg (arr (writeJR s l).1), .int .i64 (writeJR s l).2]) ∧ Below w.heap.size w w'
  readRevoke : ∀ (X : Blk) (w : World), Calls Try.prog 30 #[.agg (arr X)] w fun e w' => ReadR X w.heap.size e w' ∧ Below w.heap.size w w'
  writeCommit : ∀ (s : Nat) (ct : Int) (sm : Nat) (w : World), sm < 4294967296 → Calls Try.prog 17 #[.int .u32 (s : Int), .int .i64 ct, .int .u32 (sm : Int)] w fun e w' => e = .returned (.tuple #[.agg (arr (writeJC s ct sm).1), .int .i64 (writeJC s ct sm).2]) ∧ Below w.heap.size w w'
  readCommit : ∀ (X : Blk) (w : World), Calls Try.prog 23 #[.agg (arr X)] w fun e w' => e = .returned (tup4 (readJC X)) ∧ Below w.heap.size w w'
  kind : ∀ (X : Blk) (w : World), Calls Try.prog 25 #[.agg (arr X)] w fun e w' => e = .returned (.tuple #[.int .u8 (((kindOf X).1 : Nat) : Int), .int .u32 (((kindOf X).2 : Nat) : Int)]) ∧ Below w.heap.size w w'
  escape : ∀ (X : Blk) (w : World), Calls Try.prog 31 #[.agg (arr X)] w fun e w' => e = .returned (.tuple #[.agg (arr (escB X).1), .bool (escB X).2]) ∧ Below w.heap.size w w'
  unescape : ∀ (X : Blk) (w : World), Calls Try.prog 33 #[.agg (arr X)] w fun e w' => e = .returned (.agg (arr (unescB X))) ∧ Below w.heap.size w w'

/-! A block put into a new cell. -/
def newB (w : World) (X : Blk) : World := (w.alloc (.cells (arr .zero) 28)).setRow w.heap.size (arr X)
theorem newB_var (w : World) (X : Blk) : BVar (newB w X) w.heap.size X := row_heap _ _ _ _ (heap_alloc_new w _)
theorem newB_low (w : World) (X : Blk) : Below w.heap.size w (newB w X) := row_low (below_new w _) (Nat.le_refl _) _
theorem newB_go {w0 w : World} (h : Below w0.heap.size w0 w) (X : Blk) : Below w0.heap.size w0 (newB w X) := low_go h (newB_low w X)
section
variable {ops : Array Oper} {rest : List Oper} {op : Oper} {a : Act} {w : World} {Q : Exit → Act → World → Prop}
theorem store_newJ (hgd : op.guard = none) (x y : Operand) (ho : op.op = .store 28 x y) (X : Blk) (hx : a.eval x = .pointer (some ⟨w.heap.size, 0, none⟩)) (hy : a.eval y = .agg (arr X))
    (h : wpList Try.prog ops Q rest (a.put op.dst undef) (newB w X)) : wpList Try.prog ops Q (op :: rest) a (w.alloc (.cells (arr .zero) 28)) :=
  store_row hgd x y ho w.heap.size X .zero 28 hx hy (heap_alloc_new w _) h
theorem build_headJ (hgd : op.guard = none) (y0 y1 : Operand) (ho : op.op = .build 24 #[(0, y0), (1, y1)]) (x : HeadV) (h0 : a.eval y0 = .int .u32 ((x.seq : Nat) : Int)) (h1 : a.eval y1 = .int .i64 x.start)
    (h : wpList Try.prog ops Q rest (a.put op.dst (.agg (hcs x))) w) : wpList Try.prog ops Q (op :: rest) a w :=
  wpList_plain hgd fun _ hK => wp_build 24 #[(0, y0), (1, y1)] ho (by simp [h0, h1, head_built2]) (hK _ _ (by simpa [h0, h1, head_built2] using h))
theorem build_tagJ (hgd : op.guard = none) (y0 y1 : Operand) (ho : op.op = .build 62 #[(0, y0), (1, y1)]) (x : TagV) (h0 : a.eval y0 = .int .u32 ((x.1 : Nat) : Int)) (h1 : a.eval y1 = .bool x.2)
    (h : wpList Try.prog ops Q rest (a.put op.dst (.agg (tcs x))) w) : wpList Try.prog ops Q (op :: rest) a w :=
  wpList_plain hgd fun _ hK => wp_build 62 #[(0, y0), (1, y1)] ho (by simp [h0, h1, tag_built2]) (hK _ _ (by simpa [h0, h1, tag_built2] using h))
theorem tag_built1 (n : Nat) : Try.prog.built 62 [(0, .int .u32 (n : Int))] = some (tcs (n, false)) := by kernel_rfl
theorem build_tag1 (hgd : op.guard = none) (y0 : Operand) (ho : op.op = .build 62 #[(0, y0)]) (n : Nat) (h0 : a.eval y0 = .int .u32 ((n : Nat) : Int))
    (h : wpList Try.prog ops Q rest (a.put op.dst (.agg (tcs (n, false)))) w) : wpList Try.prog ops Q (op :: rest) a w :=
  wpList_plain hgd fun _ hK => wp_build 62 #[(0, y0)] ho (by simp [h0, tag_built1]) (hK _ _ (by simpa [h0, tag_built1] using h))
theorem tag_fill2 (n m : Nat) (e f : Bool) : Instr.fill (fun i => some (i * 2, 2)) ((Array.range (2 * 2)).map ((Value.agg #[.int .u32 0, .bool false]).cells[· % (Value.agg #[.int .u32 0, .bool false]).cells.size]!)) [(0, .agg (tcs (n, e))), (1, .agg (tcs (m, f)))] = some (tcs (n, e) ++ tcs (m, f)) := by kernel_rfl
theorem build_twoT (hgd : op.guard = none) (y0 y1 : Operand) (ho : op.op = .buildSlice 25 2 #[(0, y0), (1, y1)]) (t u : TagV) (h0 : a.eval y0 = .agg (tcs t)) (h1 : a.eval y1 = .agg (tcs u))
    (h : wpList Try.prog ops Q rest (a.put op.dst (.slice (some ⟨w.heap.size, 0, none⟩) 2 2)) (w.alloc (.cells (tcs t ++ tcs u) 62))) : wpList Try.prog ops Q (op :: rest) a w := by
  obtain ⟨i, i1, i2⟩ := Option.map_eq_some_iff.1 tag_two
  simp only [Prod.mk.injEq] at i2
  obtain ⟨hz, hs⟩ := i2
  refine wpList_plain hgd fun _ hK => wp_buildSlice 25 62 2 _ ho (tcs t ++ tcs u) i _ Try.underlying25 i1 hz (by rw [hs]; decide) (by rw [hs]; decide) ?_ (hK _ _ h)
  rw [hs]
  simp only [List.map_toArray, List.map_cons, List.map_nil, h0, h1]
  exact tag_fill2 t.1 u.1 t.2 u.2
end
theorem two_tags (w : World) (t u : TagV) : TagsAt (w.alloc (.cells (tcs t ++ tcs u) 62)) (some ⟨w.heap.size, 0, none⟩) [t, u] := fun _ => by
  refine ⟨_, 0, rfl, by rw [World.size_alloc]; omega, fun i v hv => ?_⟩
  have hg := heap_alloc_new w (.cells (tcs t ++ tcs u) 62)
  match i, hv with
  | 0, hv => cases hv; exact TAt.of (cell_of_row _ _ 0 _ _ _ hg) (cell_of_row _ _ 1 _ _ _ hg)
  | 1, hv => cases hv; exact TAt.of (cell_of_row _ _ 2 _ _ _ hg) (cell_of_row _ _ 3 _ _ _ hg)
theorem byte_is {X : Blk} {k i v : Nat} (h : num X k = v) (hi : i < 4) : X.f (4 * k + i) = byteN v i := by rw [← byte_num X k i hi, h]
end Go.Proofs.Ytjiooadakklmlaa
