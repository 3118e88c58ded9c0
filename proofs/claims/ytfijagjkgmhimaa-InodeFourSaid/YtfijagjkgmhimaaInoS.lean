import Derived.Test.YtfijagjkgmhimaaInoM
import Derived.Test.YtfijagjkgmhimaaBVar
import Derived.Laws.Tables
namespace Go.Proofs.Ytfijagjkgmhimaa
open Go.RowKit

/-! Inodes, their pointers and their bytes in memory. -/
@[irreducible] def ics (x : InoV) : Array Value := #[.int .u8 ((x.kd : Nat) : Int), .int .i64 x.ln, .int .u32 ((x.gen : Nat) : Int), .int .i64 x.sz,
  .int .u32 ((x.p.f 0 : Nat) : Int), .int .u32 ((x.p.f 1 : Nat) : Int), .int .u32 ((x.p.f 2 : Nat) : Int), .int .u32 ((x.p.f 3 : Nat) : Int), .int .u32 ((x.p.f 4 : Nat) : Int), .int .u32 ((x.p.f 5 : Nat) : Int),
  .int .u32 ((x.p.f 6 : Nat) : Int), .int .u32 ((x.p.f 7 : Nat) : Int), .int .u32 ((x.p.f 8 : Nat) : Int), .int .u32 ((x.p.f 9 : Nat) : Int), .int .u32 ((x.p.f 10 : Nat) : Int), .int .u32 ((x.nx : Nat) : Int)]
theorem ics_eq (x : InoV) : ics x = #[.int .u8 ((x.kd : Nat) : Int), .int .i64 x.ln, .int .u32 ((x.gen : Nat) : Int), .int .i64 x.sz,
  .int .u32 ((x.p.f 0 : Nat) : Int), .int .u32 ((x.p.f 1 : Nat) : Int), .int .u32 ((x.p.f 2 : Nat) : Int), .int .u32 ((x.p.f 3 : Nat) : Int), .int .u32 ((x.p.f 4 : Nat) : Int), .int .u32 ((x.p.f 5 : Nat) : Int),
  .int .u32 ((x.p.f 6 : Nat) : Int), .int .u32 ((x.p.f 7 : Nat) : Int), .int .u32 ((x.p.f 8 : Nat) : Int), .int .u32 ((x.p.f 9 : Nat) : Int), .int .u32 ((x.p.f 10 : Nat) : Int), .int .u32 ((x.nx : Nat) : Int)] := by unfold ics; rfl
@[irreducible] def pts (p : Ptrs) : Array Value := #[.int .u32 ((p.f 0 : Nat) : Int), .int .u32 ((p.f 1 : Nat) : Int), .int .u32 ((p.f 2 : Nat) : Int), .int .u32 ((p.f 3 : Nat) : Int), .int .u32 ((p.f 4 : Nat) : Int), .int .u32 ((p.f 5 : Nat) : Int),
  .int .u32 ((p.f 6 : Nat) : Int), .int .u32 ((p.f 7 : Nat) : Int), .int .u32 ((p.f 8 : Nat) : Int), .int .u32 ((p.f 9 : Nat) : Int), .int .u32 ((p.f 10 : Nat) : Int)]
theorem pts_eq (p : Ptrs) : pts p = #[.int .u32 ((p.f 0 : Nat) : Int), .int .u32 ((p.f 1 : Nat) : Int), .int .u32 ((p.f 2 : Nat) : Int), .int .u32 ((p.f 3 : Nat) : Int), .int .u32 ((p.f 4 : Nat) : Int), .int .u32 ((p.f 5 : Nat) : Int),
  .int .u32 ((p.f 6 : Nat) : Int), .int .u32 ((p.f 7 : Nat) : Int), .int .u32 ((p.f 8 : Nat) : Int), .int .u32 ((p.f 9 : Nat) : Int), .int .u32 ((p.f 10 : Nat) : Int)] := by unfold pts; rfl
theorem ics_count (x : InoV) : (ics x).size = 16 := by rw [ics_eq]; rfl
theorem pts_count (p : Ptrs) : (pts p).size = 11 := by rw [pts_eq]; rfl
theorem ics_0 (x : InoV) : (ics x)[0]? = some (.int .u8 ((x.kd : Nat) : Int)) := by rw [ics_eq]; rfl
theorem ics_1 (x : InoV) : (ics x)[1]? = some (.int .i64 x.ln) := by rw [ics_eq]; rfl
theorem ics_2 (x : InoV) : (ics x)[2]? = some (.int .u32 ((x.gen : Nat) : Int)) := by rw [ics_eq]; rfl
theorem ics_3 (x : InoV) : (ics x)[3]? = some (.int .i64 x.sz) := by rw [ics_eq]; rfl
theorem ics_p (x : InoV) {k : Nat} (h : k < 11) : (ics x)[4 + k]? = some (.int .u32 ((x.p.f k : Nat) : Int)) := by
  rw [ics_eq]
  match k, h with
  | 0, _ => rfl
  | 1, _ => rfl
  | 2, _ => rfl
  | 3, _ => rfl
  | 4, _ => rfl
  | 5, _ => rfl
  | 6, _ => rfl
  | 7, _ => rfl
  | 8, _ => rfl
  | 9, _ => rfl
  | 10, _ => rfl
  | k + 11, h => omega
theorem pts_p (p : Ptrs) {k : Nat} (h : k < 11) : (pts p)[k]? = some (.int .u32 ((p.f k : Nat) : Int)) := by
  rw [pts_eq]
  match k, h with
  | 0, _ => rfl
  | 1, _ => rfl
  | 2, _ => rfl
  | 3, _ => rfl
  | 4, _ => rfl
  | 5, _ => rfl
  | 6, _ => rfl
  | 7, _ => rfl
  | 8, _ => rfl
  | 9, _ => rfl
  | 10, _ => rfl
  | k + 11, h => omega
theorem ics_15 (x : InoV) : (ics x)[15]? = some (.int .u32 ((x.nx : Nat) : Int)) := by rw [ics_eq]; rfl
theorem ics_ext {A : Array Value} {x : InoV} (hs : A.size = 16) (h0 : A[0]? = some (.int .u8 ((x.kd : Nat) : Int))) (h1 : A[1]? = some (.int .i64 x.ln)) (h2 : A[2]? = some (.int .u32 ((x.gen : Nat) : Int))) (h3 : A[3]? = some (.int .i64 x.sz))
    (hp : ∀ k, k < 11 → A[4 + k]? = some (.int .u32 ((x.p.f k : Nat) : Int))) (hn : A[15]? = some (.int .u32 ((x.nx : Nat) : Int))) : A = ics x := by
  apply Array.ext_getElem?
  intro i
  by_cases hi : i < 16
  · rcases (by omega : i = 0 ∨ i = 1 ∨ i = 2 ∨ i = 3 ∨ (4 ≤ i ∧ i < 15) ∨ i = 15) with rfl | rfl | rfl | rfl | ⟨q1, q2⟩ | rfl
    · rw [h0, ics_0]
    · rw [h1, ics_1]
    · rw [h2, ics_2]
    · rw [h3, ics_3]
    · obtain ⟨k, rfl⟩ := Nat.exists_eq_add_of_le q1
      rw [hp k (by omega), ics_p x (by omega)]
    · rw [hn, ics_15]
  · rw [Array.getElem?_eq_none (by omega), Array.getElem?_eq_none (by rw [ics_count]; omega)]
theorem ics_setP (x : InoV) (k v : Nat) (hk : k < 11) (hv : v < 4294967296) : (ics x).setIfInBounds (4 + k) (.int .u32 ((v : Nat) : Int)) = ics { x with p := x.p.set k v hv } := by
  refine ics_ext (by simp [ics_count]) ?_ ?_ ?_ ?_ (fun j hj => ?_) ?_
  · rw [Array.getElem?_setIfInBounds_ne (by omega), ics_0]
  · rw [Array.getElem?_setIfInBounds_ne (by omega), ics_1]
  · rw [Array.getElem?_setIfInBounds_ne (by omega), ics_2]
  · rw [Array.getElem?_setIfInBounds_ne (by omega), ics_3]
  · unfold Ptrs.set
    simp only [Ptrs.of_f hj]
    by_cases e : j = k
    · subst e; rw [Array.getElem?_setIfInBounds_self_of_lt (by rw [ics_count]; omega), if_pos rfl]
    · rw [Array.getElem?_setIfInBounds_ne (by omega), ics_p x hj, if_neg e]
  · rw [Array.getElem?_setIfInBounds_ne (by omega), ics_15]
theorem ics_setGen (x : InoV) (v : Nat) : (ics x).setIfInBounds 2 (.int .u32 ((v : Nat) : Int)) = ics { x with gen := v } := by
  rw [ics_eq, ics_eq]; rfl
theorem ics_setNx (x : InoV) (v : Nat) : (ics x).setIfInBounds 15 (.int .u32 ((v : Nat) : Int)) = ics { x with nx := v } := by
  rw [ics_eq, ics_eq]; rfl
theorem ics_one (x : InoV) : (ics x).all (·.oneCell') = true := by rw [ics_eq]; simp [Value.oneCell']
theorem ics_inj {x y : InoV} (h : ics x = ics y) : x = y := by
  rw [InoV.eq_iff]
  have e : ∀ i : Nat, (ics x)[i]? = (ics y)[i]? := fun i => by rw [h]
  have e0 := e 0; rw [ics_0, ics_0] at e0
  have e1 := e 1; rw [ics_1, ics_1] at e1
  have e2 := e 2; rw [ics_2, ics_2] at e2
  have e3 := e 3; rw [ics_3, ics_3] at e3
  have e15 := e 15; rw [ics_15, ics_15] at e15
  simp at e0 e1 e2 e3 e15
  refine ⟨by omega, e1, by omega, e3, Ptrs.same fun k hk => ?_, by omega⟩
  have ek := e (4 + k); rw [ics_p x hk, ics_p y hk] at ek
  simp at ek; omega

def IVar (w : World) (b : Nat) (x : InoV) : Prop := w.heap[b]? = some (.cells (ics x) 27 (0, 0))
def IAt (w : World) (b o : Nat) (x : InoV) : Prop := w.rangeAt b o (ics x).toList
section
variable {w w' : World} {b : Nat} {x : InoV}
theorem IVar.lt (h : IVar w b x) : b < w.heap.size := (Array.getElem?_eq_some_iff.1 h).1
theorem IVar.below (h : IVar w b x) (hb : Below w.heap.size w w') : IVar w' b x := (hb.block b h.lt).trans h
theorem IVar.drewN (h : IVar w b x) (n : Nat) : IVar (w.drewN n) b x := h
theorem IVar.cell (h : IVar w b x) {i : Nat} {v : Value} (hv : (ics x)[i]? = some v) : w.cell? ⟨b, i, none⟩ = some v := (cell_of_row w b i _ _ _ h).trans hv
theorem IVar.at (h : IVar w b x) : IAt w b 0 x := fun i v hv => by
  rw [Nat.zero_add]; exact h.cell (by simpa using hv)
theorem IVar.ptrs (h : IVar w b x) : w.rangeAt b 4 (pts x.p).toList := fun i v hv => by
  have hv' : (pts x.p)[i]? = some v := by simpa using hv
  have hi : i < 11 := by
    rcases Nat.lt_or_ge i 11 with q | q
    · exact q
    · rw [Array.getElem?_eq_none (by rw [pts_count]; exact q)] at hv'; cases hv'
  rw [pts_p _ hi] at hv'
  exact h.cell ((ics_p x hi).trans hv')
theorem IVar.frozen (h : IVar w b x) (i : Nat) : w.frozen? ⟨b, i, none⟩ = false := by simp [World.frozen?, show w.heap[b]? = _ from h]
theorem IVar.setP (h : IVar w b x) (k v : Nat) (hk : k < 11) (hv : v < 4294967296) : IVar (w.setCell ⟨b, 4 + k, none⟩ (.int .u32 ((v : Nat) : Int))) b { x with p := x.p.set k v hv } := by
  unfold IVar at *
  rw [heap_setCell_same w b (4 + k) _ _ _ h, ics_setP x k v hk hv]
theorem IVar.setGen (h : IVar w b x) (v : Nat) : IVar (w.setCell ⟨b, 2, none⟩ (.int .u32 ((v : Nat) : Int))) b { x with gen := v } := by
  unfold IVar at *
  rw [heap_setCell_same w b 2 _ _ _ h, ics_setGen]
theorem IVar.setNx (h : IVar w b x) (v : Nat) : IVar (w.setCell ⟨b, 15, none⟩ (.int .u32 ((v : Nat) : Int))) b { x with nx := v } := by
  unfold IVar at *
  rw [heap_setCell_same w b 15 _ _ _ h, ics_setNx]
theorem IVar.row (h : IVar w b x) (y : InoV) : IVar (w.setRow b (ics y)) b y := setRow_heap _ _ _ _ _ _ h
theorem Only.ino {g : Nat} (h : Only g w w') (hne : b ≠ g) (hs : IVar w b x) : IVar w' b x := (h.block b hs.lt (fun e => hne (Option.some.inj e))).trans hs
end
theorem ino_info : (Try.prog.info? 27).map (fun i => (i.zero, i.size)) = some (some (.agg #[.int .u8 0, .int .i64 0, .int .u32 0, .int .i64 0, .int .u32 0, .int .u32 0, .int .u32 0, .int .u32 0, .int .u32 0, .int .u32 0, .int .u32 0, .int .u32 0, .int .u32 0, .int .u32 0, .int .u32 0, .int .u32 0]), 16) := by kernel_rfl
theorem ino_size16 : (Try.prog.info? 27).map (·.size) = some 16 := (zero_of_info ino_info).2
theorem ino_size (x : InoV) : (Try.prog.info? 27).map (·.size) = some (ics x).toList.length := by rw [ino_size16, ics_eq]; rfl
theorem pts_size11 : (Try.prog.info? 25).map (·.size) = some 11 := by kernel_rfl
theorem pts_size (p : Ptrs) : (Try.prog.info? 25).map (·.size) = some (pts p).toList.length := by rw [pts_size11, pts_eq]; rfl
theorem zero_ino (w : World) : (zeroValue 27).run Try.prog w = .ok (.agg (ics .zero)) w := by
  rw [(zero_of_info ino_info).1 w, ics_eq]; rfl
section
variable {ops : Array Oper} {rest : List Oper} {op : Oper} {a : Act} {w : World} {Q : Exit → Act → World → Prop}
theorem load_ino (hgd : op.guard = none) (x : Operand) (ho : op.op = .load 27 x) (b o : Nat) (hx : a.eval x = .pointer (some ⟨b, o, none⟩)) (s : InoV) (hc : IAt w b o s)
    (h : wpList Try.prog ops Q rest (a.put op.dst (.agg (ics s))) w) : wpList Try.prog ops Q (op :: rest) a w :=
  wpList_load_mid hgd 27 x ho b o hx (ics s).toList _ hc Try.underlying27 rfl (ino_size s) (by simpa using h)
theorem load_ino_w (hw : Region.wanted op (yielded ops a.tmps) = true) (x : Operand) (ho : op.op = .load 27 x) (b o : Nat) (hx : a.eval x = .pointer (some ⟨b, o, none⟩)) (s : InoV) (hc : IAt w b o s)
    (h : wpList Try.prog ops Q rest (a.put op.dst (.agg (ics s))) w) : wpList Try.prog ops Q (op :: rest) a w :=
  BigFrame.wpList_want hw fun _ hK => wp_load_mid 27 x ho b o hx (ics s).toList _ hc Try.underlying27 rfl (ino_size s) (hK _ _ (by simpa using h))
theorem load_pts (hgd : op.guard = none) (x : Operand) (ho : op.op = .load 25 x) (b o : Nat) (hx : a.eval x = .pointer (some ⟨b, o, none⟩)) (p : Ptrs) (hc : w.rangeAt b o (pts p).toList)
    (h : wpList Try.prog ops Q rest (a.put op.dst (.agg (pts p))) w) : wpList Try.prog ops Q (op :: rest) a w :=
  wpList_load_mid hgd 25 x ho b o hx (pts p).toList _ hc Try.underlying25 rfl (pts_size p) (by simpa using h)
theorem store_newI (hgd : op.guard = none) (x y : Operand) (ho : op.op = .store 27 x y) (s : InoV) (hx : a.eval x = .pointer (some ⟨w.heap.size, 0, none⟩)) (hy : a.eval y = .agg (ics s))
    (h : wpList Try.prog ops Q rest (a.put op.dst undef) (w.alloc (.cells (ics s) 27))) : wpList Try.prog ops Q (op :: rest) a (w.alloc (.cells (ics .zero) 27)) := by
  refine wpList_plain hgd fun _ hK => ?_
  unfold Oper.wp execOp
  have e := run_storeVar_row (P := Try.prog) (w.alloc (.cells (ics .zero) 27)) w.heap.size 27 27 (ics .zero) (ics s) (heap_alloc_new w _) (by rw [ics_count]; exact ino_size16) (by rw [ics_count, ics_count]) (ics_one s)
  simp only [ho, hx, hy, Instr.storeAt, Instr.sureAddr, Sem.run_bind, Sem.run_pure, Result.andThen_ok, e]
  rw [World.setRow_alloc_new]
  exact hK _ _ h
theorem store_rowI (hgd : op.guard = none) (x y : Operand) (ho : op.op = .store 27 x y) (b : Nat) (s r : InoV) (hx : a.eval x = .pointer (some ⟨b, 0, none⟩)) (hy : a.eval y = .agg (ics s)) (hb : IVar w b r)
    (h : wpList Try.prog ops Q rest (a.put op.dst undef) (w.setRow b (ics s))) : wpList Try.prog ops Q (op :: rest) a w := by
  refine wpList_plain hgd fun _ hK => ?_
  unfold Oper.wp execOp
  simp only [ho, hx, hy, Instr.storeAt, Instr.sureAddr, Sem.run_bind, Sem.run_pure, Result.andThen_ok, run_storeVar_row w b 27 27 (ics r) (ics s) hb (by rw [ics_count]; exact ino_size16) (by rw [ics_count, ics_count]) (ics_one s)]
  exact hK _ _ h
theorem ino_built0 : Try.prog.built 27 [] = some (ics .zero) := by rw [ics_eq]; kernel_rfl
theorem ino_built2 (g : Nat) : Try.prog.built 27 [(2, .int .u32 (g : Int))] = some (ics ⟨0, 0, g, 0, .zero, 0⟩) := by rw [ics_eq]; kernel_rfl
theorem ino_built013 (k : Nat) (l s : Int) : Try.prog.built 27 [(0, .int .u8 (k : Int)), (1, .int .i64 l), (3, .int .i64 s)] = some (ics ⟨k, l, 0, s, .zero, 0⟩) := by rw [ics_eq]; kernel_rfl
theorem ino_built13 (l s : Int) : Try.prog.built 27 [(1, .int .i64 l), (3, .int .i64 s)] = some (ics ⟨0, l, 0, s, .zero, 0⟩) := by rw [ics_eq]; kernel_rfl
theorem ino_built01235 (k g n : Nat) (l s : Int) : Try.prog.built 27 [(0, .int .u8 (k : Int)), (1, .int .i64 l), (2, .int .u32 (g : Int)), (3, .int .i64 s), (5, .int .u32 (n : Int))] = some (ics ⟨k, l, g, s, .zero, n⟩) := by rw [ics_eq]; kernel_rfl
theorem ino_built_k (k : Nat) : Try.prog.built 27 [(0, .int .u8 (k : Int))] = some (ics ⟨k, 0, 0, 0, .zero, 0⟩) := by rw [ics_eq]; kernel_rfl
theorem ino_built_s (s : Int) : Try.prog.built 27 [(3, .int .i64 s)] = some (ics ⟨0, 0, 0, s, .zero, 0⟩) := by rw [ics_eq]; kernel_rfl
theorem build_ino0 (hgd : op.guard = none) (ho : op.op = .build 27 #[])
    (h : wpList Try.prog ops Q rest (a.put op.dst (.agg (ics .zero))) w) : wpList Try.prog ops Q (op :: rest) a w :=
  wpList_plain hgd fun _ hK => wp_build 27 #[] ho (by simp [ino_built0]) (hK _ _ (by simpa [ino_built0] using h))
/-- Whatever is named of it. -/
theorem build_ino (hgd : op.guard = none) (l : Array (Nat × Operand)) (ho : op.op = .build 27 l) (x : InoV) (hb : Try.prog.built 27 (l.toList.map fun p => (p.1, a.eval p.2)) = some (ics x))
    (h : wpList Try.prog ops Q rest (a.put op.dst (.agg (ics x))) w) : wpList Try.prog ops Q (op :: rest) a w :=
  wpList_plain hgd fun _ hK => wp_build 27 l ho (by simp [hb]) (hK _ _ (by simpa [hb] using h))
theorem build_ino_w (hw : Region.wanted op (yielded ops a.tmps) = true) (l : Array (Nat × Operand)) (ho : op.op = .build 27 l) (x : InoV) (hb : Try.prog.built 27 (l.toList.map fun p => (p.1, a.eval p.2)) = some (ics x))
    (h : wpList Try.prog ops Q rest (a.put op.dst (.agg (ics x))) w) : wpList Try.prog ops Q (op :: rest) a w :=
  BigFrame.wpList_want hw fun _ hK => wp_build 27 l ho (by simp [hb]) (hK _ _ (by simpa [hb] using h))
theorem build_ino01235 (hgd : op.guard = none) (y0 y1 y2 y3 y5 : Operand) (ho : op.op = .build 27 #[(0, y0), (1, y1), (2, y2), (3, y3), (5, y5)]) (k g n : Nat) (l s : Int) (h0 : a.eval y0 = .int .u8 (k : Int)) (h1 : a.eval y1 = .int .i64 l) (h2 : a.eval y2 = .int .u32 (g : Int)) (h3 : a.eval y3 = .int .i64 s) (h5 : a.eval y5 = .int .u32 (n : Int))
    (h : wpList Try.prog ops Q rest (a.put op.dst (.agg (ics ⟨k, l, g, s, .zero, n⟩))) w) : wpList Try.prog ops Q (op :: rest) a w :=
  wpList_plain hgd fun _ hK => wp_build 27 #[(0, y0), (1, y1), (2, y2), (3, y3), (5, y5)] ho (by simp [h0, h1, h2, h3, h5, ino_built01235]) (hK _ _ (by simpa [h0, h1, h2, h3, h5, ino_built01235] using h))
theorem build_ino013 (hgd : op.guard = none) (y0 y1 y3 : Operand) (ho : op.op = .build 27 #[(0, y0), (1, y1), (3, y3)]) (k : Nat) (l s : Int) (h0 : a.eval y0 = .int .u8 (k : Int)) (h1 : a.eval y1 = .int .i64 l) (h3 : a.eval y3 = .int .i64 s)
    (h : wpList Try.prog ops Q rest (a.put op.dst (.agg (ics ⟨k, l, 0, s, .zero, 0⟩))) w) : wpList Try.prog ops Q (op :: rest) a w :=
  wpList_plain hgd fun _ hK => wp_build 27 #[(0, y0), (1, y1), (3, y3)] ho (by simp [h0, h1, h3, ino_built013]) (hK _ _ (by simpa [h0, h1, h3, ino_built013] using h))
theorem build_ino13 (hgd : op.guard = none) (y1 y3 : Operand) (ho : op.op = .build 27 #[(1, y1), (3, y3)]) (l s : Int) (h1 : a.eval y1 = .int .i64 l) (h3 : a.eval y3 = .int .i64 s)
    (h : wpList Try.prog ops Q rest (a.put op.dst (.agg (ics ⟨0, l, 0, s, .zero, 0⟩))) w) : wpList Try.prog ops Q (op :: rest) a w :=
  wpList_plain hgd fun _ hK => wp_build 27 #[(1, y1), (3, y3)] ho (by simp [h1, h3, ino_built13]) (hK _ _ (by simpa [h1, h3, ino_built13] using h))
theorem quiet_loadI {o : Oper} {a : Act} {C : World → Prop} {K : Act → Prop} (x : Operand) (ho : o.op = .load 27 x) (b off : Nat) (hx : a.eval x = .pointer (some ⟨b, off, none⟩)) (X : InoV) (hc : ∀ w, C w → IAt w b off X)
    (hk : K (a.put o.dst (.agg (ics X)))) : o.quiet Try.prog a C K := by
  refine ⟨_, fun w hw => ?_, hk⟩
  unfold Oper.quietAt execOp
  have h := run_loadAt_mid (P := Try.prog) w b off 27 (ics X).toList _ (hc w hw) Try.underlying27 rfl (ino_size X)
  simp only [ho, hx, h, Sem.run_bind, Sem.run_pure, Result.andThen_ok]
  exact ⟨rfl, by simp⟩
end
theorem ino_guard : Try.prog.eqGuardType Try.prog.depth 27 = false := by kernel_rfl

/-! 64 bytes. -/
@[irreducible] def im64 (f : Nat → Nat) : Array Value := ⟨bytesOf f 64⟩
theorem im64_size (f : Nat → Nat) : (im64 f).size = 64 := by unfold im64; exact bytesOf_length f 64
theorem im64_get {f : Nat → Nat} {i : Nat} (h : i < 64) : (im64 f)[i]? = some (.int .u8 ((f i : Nat) : Int)) := by unfold im64; simp; exact bytesOf_get h
theorem im64_list (f : Nat → Nat) : (im64 f).toList = bytesOf f 64 := by unfold im64; rfl
theorem im64_length (f : Nat → Nat) : (im64 f).toList.length = 64 := by rw [im64_list]; exact bytesOf_length f 64
theorem im64_ext {A : Array Value} {f : Nat → Nat} (hs : A.size = 64) (h : ∀ i, i < 64 → A[i]? = some (.int .u8 ((f i : Nat) : Int))) : A = im64 f := by
  apply Array.ext_getElem?
  intro i
  by_cases hi : i < 64
  · rw [h i hi, im64_get hi]
  · rw [Array.getElem?_eq_none (by omega), Array.getElem?_eq_none (by rw [im64_size]; omega)]
theorem im64_congr {f g : Nat → Nat} (h : ∀ i, i < 64 → f i = g i) : im64 f = im64 g := im64_ext (im64_size f) fun i hi => by rw [im64_get hi, h i hi]
theorem im64_set (f : Nat → Nat) (k v : Nat) : (im64 f).setIfInBounds k (.int .u8 ((v : Nat) : Int)) = im64 (upd f k v) := by
  refine im64_ext (by rw [Array.size_setIfInBounds, im64_size]) fun i hi => ?_
  unfold upd
  by_cases e : k = i
  · subst e; rw [Array.getElem?_setIfInBounds_self_of_lt (by rw [im64_size]; exact hi), if_pos rfl]
  · rw [Array.getElem?_setIfInBounds_ne e, im64_get hi, if_neg (fun q => e q.symm)]
theorem im64_one (f : Nat → Nat) : (im64 f).all (·.oneCell') = true := by
  rw [Array.all_eq_true_iff_forall_mem]
  intro v hv
  rw [← Array.mem_toList_iff, im64_list] at hv
  simp only [bytesOf, List.mem_map] at hv
  obtain ⟨i, _, rfl⟩ := hv
  rfl
def MVar (w : World) (b : Nat) (f : Nat → Nat) : Prop := w.heap[b]? = some (.cells (im64 f) 48 (0, 0))
section
variable {w w' : World} {b : Nat} {f : Nat → Nat}
theorem MVar.lt (h : MVar w b f) : b < w.heap.size := (Array.getElem?_eq_some_iff.1 h).1
theorem MVar.below (h : MVar w b f) (hb : Below w.heap.size w w') : MVar w' b f := (hb.block b h.lt).trans h
theorem MVar.drewN (h : MVar w b f) (n : Nat) : MVar (w.drewN n) b f := h
theorem MVar.cells (h : MVar w b f) : Cells8 w b 0 64 f := ⟨_, _, h, fun i hi => by rw [Nat.zero_add]; exact im64_get hi⟩
theorem MVar.at (h : MVar w b f) : w.rangeAt b 0 (im64 f).toList := fun i v hv => by
  rw [Nat.zero_add, cell_of_row w b i _ _ _ h]; simpa using hv
theorem MVar.row (h : MVar w b f) (hf : ∀ i, f i < 256) : Row w (some ⟨b, 0, none⟩) 64 f := ⟨hf, fun _ => ⟨b, 0, rfl, h.lt, fun i hi => h.cells.cell i hi⟩⟩
theorem MVar.set (h : MVar w b f) (k v : Nat) : MVar (w.setCell ⟨b, k, none⟩ (.int .u8 ((v : Nat) : Int))) b (upd f k v) := by
  unfold MVar at *
  rw [heap_setCell_same w b k _ _ _ h, im64_set]
theorem MVar.set16 (h : MVar w b f) (a v : Nat) : MVar (Go.Proofs.Ytfijagjkgmhimaa.set16 w b a v) b (p16 f a v) := (h.set _ _).set _ _
theorem MVar.set32 (h : MVar w b f) (a v : Nat) : MVar (Go.Proofs.Ytfijagjkgmhimaa.set32 w b a v) b (p32 f a v) := (((h.set _ _).set _ _).set _ _).set _ _
theorem MVar.congr {g : Nat → Nat} (h : MVar w b f) (e : ∀ i, i < 64 → f i = g i) : MVar w b g := by unfold MVar at *; rw [← im64_congr e]; exact h
end
theorem im_info : (Try.prog.info? 48).map (fun i => (i.zero, i.size)) = some (some (.agg ⟨bytesOf (fun _ => 0) 64⟩), 64) := by kernel_rfl
theorem im_size : (Try.prog.info? 48).map (·.size) = some 64 := (zero_of_info im_info).2
theorem zero_im (w : World) : (zeroValue 48).run Try.prog w = .ok (.agg (im64 fun _ => 0)) w := by
  rw [(zero_of_info im_info).1 w]; unfold im64; rfl
def octs (f : Nat → Nat) : List UInt8 := (List.range 64).map fun i => UInt8.ofNat (f i)
theorem octs_length (f : Nat → Nat) : (octs f).length = 64 := by simp [octs]
theorem octs_get {f : Nat → Nat} {i : Nat} (h : i < 64) : (octs f)[i]? = some (UInt8.ofNat (f i)) := by simp [octs, List.getElem?_range h]
theorem im64_octs {f : Nat → Nat} (hf : ∀ i, f i < 256) : ((octs f).map Extern.Stop.cell).toArray = im64 f := by
  refine im64_ext (by simp [octs_length]) fun i hi => ?_
  have := hf i
  simp [octs_get hi, Extern.Stop.cell, Nat.mod_eq_of_lt this]
@[irreducible] def sameIm (f g : Nat → Nat) : Bool := octs f == octs g
theorem sameIm_iff {f g : Nat → Nat} (hf : ∀ i, f i < 256) (hg : ∀ i, g i < 256) : sameIm f g = true ↔ ∀ i, i < 64 → f i = g i := by
  unfold sameIm
  rw [beq_iff_eq]
  constructor
  · intro h i hi
    have e := im64_octs hf
    rw [h, im64_octs hg] at e
    have e2 := congrArg (fun (A : Array Value) => A[i]?) e
    simp only [im64_get hi] at e2
    simp at e2
    omega
  · intro h
    unfold octs
    exact List.map_congr_left fun i hi => by rw [h i (List.mem_range.1 hi)]
theorem equalIn_im {f g : Nat → Nat} (hf : ∀ i, f i < 256) (hg : ∀ i, g i < 256) (w : World) : (Op.equalIn 10000 48 (.agg (im64 f)) (.agg (im64 g))).run Try.prog w = .ok (sameIm f g) w := by
  rw [← im64_octs hf, ← im64_octs hg]; unfold sameIm
  exact run_equalIn_bytes w 9998 48 5 64 Try.underlying48 Try.underlying5 u8_size _ _ (octs_length f) (octs_length g)
theorem im_guard : Try.prog.eqGuardType Try.prog.depth 48 = false := by kernel_rfl
section
variable {ops : Array Oper} {rest : List Oper} {op : Oper} {a : Act} {w : World} {Q : Exit → Act → World → Prop}
theorem load_im (hgd : op.guard = none) (x : Operand) (ho : op.op = .load 48 x) (b o : Nat) (hx : a.eval x = .pointer (some ⟨b, o, none⟩)) (f : Nat → Nat) (hc : w.rangeAt b o (im64 f).toList)
    (h : wpList Try.prog ops Q rest (a.put op.dst (.agg (im64 f))) w) : wpList Try.prog ops Q (op :: rest) a w :=
  wpList_load_mid hgd 48 x ho b o hx (im64 f).toList _ hc Try.underlying48 rfl (by rw [im64_length]; exact im_size) (by simpa using h)
theorem store_newM (hgd : op.guard = none) (x y : Operand) (ho : op.op = .store 48 x y) (f : Nat → Nat) (hx : a.eval x = .pointer (some ⟨w.heap.size, 0, none⟩)) (hy : a.eval y = .agg (im64 f))
    (h : wpList Try.prog ops Q rest (a.put op.dst undef) (w.alloc (.cells (im64 f) 48))) : wpList Try.prog ops Q (op :: rest) a (w.alloc (.cells (im64 fun _ => 0) 48)) := by
  refine wpList_plain hgd fun _ hK => ?_
  unfold Oper.wp execOp
  have e := run_storeVar_row (P := Try.prog) (w.alloc (.cells (im64 fun _ => 0) 48)) w.heap.size 48 48 (im64 fun _ => 0) (im64 f) (heap_alloc_new w _) (by rw [im64_size]; exact im_size) (by rw [im64_size, im64_size]) (im64_one f)
  simp only [ho, hx, hy, Instr.storeAt, Instr.sureAddr, Sem.run_bind, Sem.run_pure, Result.andThen_ok, e]
  rw [World.setRow_alloc_new]
  exact hK _ _ h
theorem store_rowM (hgd : op.guard = none) (x y : Operand) (ho : op.op = .store 48 x y) (b : Nat) (f g : Nat → Nat) (hx : a.eval x = .pointer (some ⟨b, 0, none⟩)) (hy : a.eval y = .agg (im64 f)) (hb : MVar w b g)
    (h : wpList Try.prog ops Q rest (a.put op.dst undef) (w.setRow b (im64 f))) : wpList Try.prog ops Q (op :: rest) a w := by
  refine wpList_plain hgd fun _ hK => ?_
  unfold Oper.wp execOp
  simp only [ho, hx, hy, Instr.storeAt, Instr.sureAddr, Sem.run_bind, Sem.run_pure, Result.andThen_ok, run_storeVar_row w b 48 48 (im64 g) (im64 f) hb (by rw [im64_size]; exact im_size) (by rw [im64_size, im64_size]) (im64_one f)]
  exact hK _ _ h
end
theorem Only.im {g b : Nat} {w w' : World} {f : Nat → Nat} (h : Only g w w') (hne : b ≠ g) (hs : MVar w b f) : MVar w' b f := (h.block b hs.lt (fun e => hne (Option.some.inj e))).trans hs
end Go.Proofs.Ytfijagjkgmhimaa
