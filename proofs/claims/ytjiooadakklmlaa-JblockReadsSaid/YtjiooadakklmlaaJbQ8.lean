import Derived.Test.YtjiooadakklmlaaJbQ7
import Derived.Test.YtjiooadakklmlaaVals
namespace Go.Proofs.Ytjiooadakklmlaa
open Go.RowKit

/-! The document's own ReadDesc. -/
/-- What the tags must keep, as far as they have been read. -/
structure TN (X : Blk) (k : Nat) : Prop where
  flags : ∀ i, i < k → num X (5 + 2 * i) ≤ 1
  rise : ∀ j, j + 1 < k → num X (4 + 2 * j) < num X (4 + 2 * (j + 1))
theorem TN.zero (X : Blk) : TN X 0 := ⟨fun _ h => absurd h (Nat.not_lt_zero _), fun _ h => absurd h (Nat.not_lt_zero _)⟩
theorem TN.one {X : Blk} (h : num X (5 + 2 * 0) ≤ 1) : TN X (0 + 1) := by
  refine ⟨fun i hi => ?_, fun j hj => by omega⟩
  obtain rfl : i = 0 := by omega
  exact h
theorem TN.next {X : Blk} {m : Nat} (h : TN X (m + 1)) (h1 : num X (5 + 2 * (m + 1)) ≤ 1) (h2 : num X (4 + 2 * m) < num X (4 + 2 * (m + 1))) : TN X (m + 1 + 1) := ⟨fun i hi => by
  by_cases e : i = m + 1
  · subst e; exact h1
  · exact h.flags i (by omega), fun j hj => by
  by_cases e : j = m
  · subst e; exact h2
  · exact h.rise j (by omega)⟩
theorem tagsOf_fst {X : Blk} {n i : Nat} (h : i < n) : ((tagsOf X n).map Prod.fst).getD i 0 = num X (4 + 2 * i) := by
  rw [List.getD_eq_getElem?_getD, List.getElem?_map, tagsOf_get h]; rfl
theorem tagsOf_rise {X : Blk} {n : Nat} : Rise ((tagsOf X n).map Prod.fst) ↔ ∀ j, j + 1 < n → num X (4 + 2 * j) < num X (4 + 2 * (j + 1)) := by
  unfold Rise
  rw [List.length_map, tagsOf_length]
  constructor
  · intro h j hj
    have := h j hj
    rwa [tagsOf_fst (by omega), tagsOf_fst (by omega)] at this
  · intro h j hj
    rw [tagsOf_fst (by omega), tagsOf_fst (by omega)]
    exact h j hj
theorem tagsOf_next (X : Blk) (n : Nat) : tagsOf X (n + 1) = tagsOf X n ++ [tagAt X n] := by unfold tagsOf; rw [List.range_succ, List.map_append]; rfl
/-- What ReadDesc answers. -/
def ReadT (X : Blk) (base : Nat) (e : Ending) (w : World) : Prop :=
  (IsJT X ∧ ∃ v, e = .returned (.tuple #[.int .u32 ((num X 2 : Nat) : Int), v, .int .i64 0]) ∧ w.ownsRow base 62 2 v (num X 3) (tC (tagsOf X (num X 3)))) ∨ (¬ IsJT X ∧ e = .returned (.tuple #[.int .u32 0, .slice none 0 0, .int .i64 90]))
/-- What it keeps in memory. -/
structure TR (w0 : World) (X : Blk) (v : Value) (i : Nat) (w : World) : Prop where
  blk : BVar w w0.heap.size X
  own : w.ownsRow (w0.heap.size + 1) 62 2 v i (tC (tagsOf X i))
  low : Below w0.heap.size w0 w
theorem TR.below {w0 w w' : World} {X : Blk} {v : Value} {i : Nat} (h : TR w0 X v i w) (hb : Below w.heap.size w w') : TR w0 X v i w' := ⟨h.blk.below hb, own_keep h.own hb, low_go h.low hb⟩
theorem TR.app {w0 w w1 : World} {X : Blk} {v v' : Value} {i : Nat} {xs : List Value} (h : TR w0 X v i w) (o : Obj) (hown : w1.ownsRow (w0.heap.size + 1) 62 2 v' (i + 1) xs) (hx : xs = tC (tagsOf X (i + 1))) (hgrow : (w.alloc o).grownBy w1 v.ownBlock) : TR w0 X v' (i + 1) w1 := by
  have ha := h.below (below_new w o)
  refine ⟨(hgrow.block w0.heap.size ha.blk.lt (fun e => ?_)).trans ha.blk, by rw [← hx]; exact hown, ha.low.grown hgrow ha.low.size (fun k e => by have := (h.own.lt k e).1; omega)⟩
  have := (h.own.lt _ e.symm).1
  omega
theorem own_tagsN {w : World} {base n : Nat} {v : Value} {l : List TagV} (h : w.ownsRow base 62 2 v n (tC l)) (hn : n = l.length) : ∃ A c, v = .slice A n c ∧ n ≤ c ∧ TagsAt w A l := by
  subst hn; exact own_tags h
/-- A tag that lies in memory. -/
def TVar (w : World) (b : Nat) (t : TagV) : Prop := w.heap[b]? = some (.cells (tcs t) 62 (0, 0))
theorem TVar.lt {w : World} {b : Nat} {t : TagV} (h : TVar w b t) : b < w.heap.size := by
  rcases Nat.lt_or_ge b w.heap.size with q | q
  · exact q
  · unfold TVar at h; rw [Array.getElem?_eq_none q] at h; cases h
theorem TVar.below {w w' : World} {b : Nat} {t : TagV} (h : TVar w b t) (hb : Below w.heap.size w w') : TVar w' b t := (hb.block _ h.lt).trans h
theorem TVar.at {w : World} {b : Nat} {t : TagV} (h : TVar w b t) : TAt w b 0 t := fun i v hv => by
  rw [Nat.zero_add, cell_of_row w b i _ _ _ h]; simpa using hv
theorem TVar.set {w : World} {b : Nat} {t : TagV} (h : TVar w b t) (s : TagV) : TVar (w.setRow b (tcs s)) b s := by
  unfold TVar at *
  unfold World.setRow
  simp [Array.getElem?_modify, h]
theorem zero_tag (w : World) : (zeroValue 62).run Try.prog w = .ok (.agg (tcs (0, false))) w := by
  rw [(zero_of_info tag_two).1 w]; rfl
theorem TR.row {w0 w : World} {X : Blk} {v : Value} {i bt : Nat} (h : TR w0 X v i w) (hb : w0.heap.size < bt) (hv : v.ownBlock ≠ some bt) (cs : Array Value) : TR w0 X v i (w.setRow bt cs) := by
  have hh : ∀ j, j ≠ bt → (w.setRow bt cs).heap[j]? = w.heap[j]? := fun j hj => by
    unfold World.setRow
    simp [Array.getElem?_modify, Ne.symm hj]
  refine ⟨(hh _ (by omega)).trans h.blk, h.own.kept (row := some bt) ⟨rfl, rfl, rfl, by unfold World.setRow; simp, fun j _ hne => hh j (fun e => hne (by rw [e]))⟩ (.inr hv), row_low h.low (by omega) cs⟩
theorem tcs_one (x : TagV) : (tcs x).all (·.oneCell') = true := by unfold tcs; simp [Value.oneCell']
theorem tag_built2 (n : Nat) (e : Bool) : Try.prog.built 62 [(0, .int .u32 (n : Int)), (1, .bool e)] = some (tcs (n, e)) := by kernel_rfl
section
variable {ops : Array Oper} {rest : List Oper} {op : Oper} {a : Act} {w : World} {Q : Exit → Act → World → Prop}
theorem store_tagv (hgd : op.guard = none) (x y : Operand) (ho : op.op = .store 62 x y) (b : Nat) (s t : TagV) (hx : a.eval x = .pointer (some ⟨b, 0, none⟩)) (hy : a.eval y = .agg (tcs s)) (hb : TVar w b t)
    (h : wpList Try.prog ops Q rest (a.put op.dst undef) (w.setRow b (tcs s))) : wpList Try.prog ops Q (op :: rest) a w := by
  refine wpList_plain hgd fun _ hK => ?_
  unfold Oper.wp execOp
  have e := run_storeVar_row (P := Try.prog) w b 62 62 (tcs t) (tcs s) hb tag_size2 rfl (tcs_one s)
  simp only [ho, hx, hy, Instr.storeAt, Instr.sureAddr, Sem.run_bind, Sem.run_pure, Result.andThen_ok, e]
  exact hK _ _ h
theorem load_tag (hgd : op.guard = none) (x : Operand) (ho : op.op = .load 62 x) (b o : Nat) (hx : a.eval x = .pointer (some ⟨b, o, none⟩)) (s : TagV) (hc : TAt w b o s)
    (h : wpList Try.prog ops Q rest (a.put op.dst (.agg (tcs s))) w) : wpList Try.prog ops Q (op :: rest) a w :=
  wpList_load_mid hgd 62 x ho b o hx (tcs s).toList _ hc Try.underlying62 rfl (tag_size s) (by simpa using h)
end
theorem tag_fill (n : Nat) (e : Bool) : Instr.fill (fun i => some (i * 2, 2)) ((Array.range (1 * 2)).map ((Value.agg #[.int .u32 0, .bool false]).cells[· % (Value.agg #[.int .u32 0, .bool false]).cells.size]!)) [(0, .agg (tcs (n, e)))] = some (tcs (n, e)) := by kernel_rfl
theorem build_oneT {ops : Array Oper} {rest : List Oper} {op : Oper} {a : Act} {w : World} {Q : Exit → Act → World → Prop} (hgd : op.guard = none) (y0 : Operand) (ho : op.op = .buildSlice 25 1 #[(0, y0)]) (t : TagV) (h0 : a.eval y0 = .agg (tcs t))
    (h : wpList Try.prog ops Q rest (a.put op.dst (.slice (some ⟨w.heap.size, 0, none⟩) 1 1)) (w.alloc (.cells (tcs t) 62))) : wpList Try.prog ops Q (op :: rest) a w := by
  obtain ⟨i, i1, i2⟩ := Option.map_eq_some_iff.1 tag_two
  simp only [Prod.mk.injEq] at i2
  obtain ⟨hz, hs⟩ := i2
  refine wpList_plain hgd fun _ hK => wp_buildSlice 25 62 1 _ ho (tcs t) i _ Try.underlying25 i1 hz (by rw [hs]; decide) (by rw [hs]; decide) ?_ (hK _ _ h)
  rw [hs]
  simp only [List.map_toArray, List.map_cons, List.map_nil, h0]
  exact tag_fill t.1 t.2
theorem quietJ_u32 {o : Oper} {a : Act} {C : World → Prop} {K : Act → Prop} (x : Operand) (ho : o.op = .load 22 x) (p : Addr) (hx : a.eval x = .pointer (some p)) (k : Int) (hc : ∀ w, C w → w.cell? p = some (.int .u32 k))
    (hk : K (a.put o.dst (.int .u32 k))) : o.quiet Try.prog a C K := by
  refine ⟨_, fun w hw => ?_, hk⟩
  have h := hc w hw
  unfold Oper.quietAt execOp
  simp only [ho, hx]
  go_simp
  first | done | exact ⟨rfl, hw⟩ | exact hw
theorem op_blkJ {o : Oper} {a : Act} {w : World} {K : Act → World → Prop} {Q : Exit → Act → World → Prop} (x : Operand) (ho : o.op = .load 28 x) (b off : Nat) (hx : a.eval x = .pointer (some ⟨b, off, none⟩)) (X : Blk) (hc : At w b off X)
    (hk : K (a.put o.dst (.agg (arr X))) w) : o.wp Try.prog a w K Q := by
  refine wp_value (v := .agg (arr X)) (w' := w) ?_ hk
  unfold execOp
  have h := run_loadAt_mid (P := Try.prog) w b off 28 (arr X).toList _ hc Try.underlying28 rfl (by rw [arr_length]; exact blk_size)
  simp only [ho, hx, h, Sem.run_bind, Sem.run_pure, Result.andThen_ok]
/-- The values of the region that reads a tag. -/
def rtD (i : Nat) : Tmp := if i < 12 then 36 + i else 8
def rtV (X : Blk) (i s : Nat) : Nat → Value → World → Prop
  | 0, v, _ => v = .agg (arr X)
  | 1, v, _ => v = .int .i64 (i : Int)
  | 2, v, _ => v = .int .i64 (8 * (i : Int))
  | 3, v, _ => v = .int .i64 (16 + 8 * (i : Int))
  | 4, v, _ => v = .int .u32 ((num X (4 + 2 * i) : Nat) : Int)
  | 5, v, _ => v = .agg (arr X)
  | 6, v, _ => v = .int .i64 (i : Int)
  | 7, v, _ => v = .int .i64 (8 * (i : Int))
  | 8, v, _ => v = .int .i64 (20 + 8 * (i : Int))
  | 9, v, _ => v = .int .u32 ((num X (5 + 2 * i) : Nat) : Int)
  | 10, v, _ => v = .bool (num X (5 + 2 * i) == 1)
  | 11, v, _ => v = .agg (tcs (tagAt X i))
  | _, v, w => ∃ b, v = .pointer (some ⟨b, 0, none⟩) ∧ s ≤ b ∧ TVar w b (0, false)
theorem rtV_below (X : Blk) (i s : Nat) (k : Nat) (v : Value) (w w' : World) (h : rtV X i s k v w) (hb : Below w.heap.size w w') : rtV X i s k v w' := by
  unfold rtV at h ⊢
  split at h <;> first | exact h | (obtain ⟨b, h1, h2, h3⟩ := h; exact ⟨b, h1, h2, h3.below hb⟩)
set_option maxRecDepth 100000 in
set_option maxHeartbeats 8000000 in
theorem rReadDesc (X : Blk) (w : World) : Calls Try.prog 27 #[.agg (arr X)] w fun e w' => ReadT X w.heap.size e w' ∧ Below w.heap.size w w' := by
  have V := Lib.hid (show BVar (w.alloc (.cells (arr X) 28)) w.heap.size X from heap_alloc_new w _)
  have B := Lib.hid (below_new w (.cells (arr X) 28))
  have CB : Hid (∀ W, Calls Try.prog 47 #[.agg (arr X),   .int .u32 1] W fun e w' => e = .returned (.bool (decide (Begins X 1))) ∧ Below W.heap.size W w') := Lib.hid fun W => rBegins X 1 W
  have C2 : Hid (∀ W, Calls Try.prog 48 #[.agg (arr X), .int .i64 8] W fun e w' => e = .returned (.int .u32 ((num X 2 : Nat) : Int)) ∧ Below W.heap.size W w') := Lib.hid fun W => rNum X 2 W (by omega)
  have C3 : Hid (∀ W, Calls Try.prog 48 #[.agg (arr X), .int .i64 12] W fun e w' => e = .returned (.int .u32 ((num X 3 : Nat) : Int)) ∧ Below W.heap.size W w') := Lib.hid fun W => rNum X 3 W (by omega)
  obtain ⟨n3, hn3⟩ : ∃ n3, num X 3 = n3 := ⟨_, rfl⟩
  rw [hn3] at C3
  have N3 := Lib.hid hn3
  by_cases h1 : Begins X 1
  rotate_left
  · have NR := Lib.hid fun q : IsJT X => h1 q.begins
    rw [decide_eq_false h1] at CB
    clear h1
    go_enter Try.func27, Try.ntmps27
    go_upto_region 1 with fail
    generalize w.alloc (.cells (arr X) 28) = w1 at V B ⊢
    go_wp2_with (first
      | (refine load_blk rfl (.tmp 1) rfl w.heap.size 0 rfl X V.out.at ?_)
      | (go_at_call 48; with_reducible refine (C3.out _).mono ?_; rintro e w2 ⟨rfl, hb⟩; have V2 := Lib.hid (V.out.below hb); have B2 := Lib.hid (low_go B.out hb); clear hb)
      | (refine load_blk rfl (.tmp 1) rfl w.heap.size 0 rfl X V2.out.at ?_)
      | (go_at_call 47; with_reducible refine (CB.out _).mono ?_; rintro e w3 ⟨rfl, hb⟩; have V3 := Lib.hid (V2.out.below hb); have B3 := Lib.hid (low_go B2.out hb); clear hb)
      | (go_at_call 49; with_reducible refine (CZ.out _ V3.out).mono ?_; rintro e w4 ⟨rfl, rfl⟩))
    go_ret3
    exact ⟨.inr ⟨NR.out, rfl⟩, B3.out⟩
  rw [decide_eq_true h1] at CB
  by_cases h2 : 1 ≤ n3
  rotate_left
  · have NR := Lib.hid fun q : IsJT X => h2 (by rw [← hn3]; exact q.lo)
    have d2 : decide ((n3 : Int) < 1) = true := by simp; omega
    have e2 : (n3 : Int) < 1 := by omega
    clear h1 h2
    go_enter Try.func27, Try.ntmps27
    go_upto_region 1 with fail
    generalize w.alloc (.cells (arr X) 28) = w1 at V B ⊢
    go_wp2_with (first
      | (refine load_blk rfl (.tmp 1) rfl w.heap.size 0 rfl X V.out.at ?_)
      | (go_at_call 48; with_reducible refine (C3.out _).mono ?_; rintro e w2 ⟨rfl, hb⟩; have V2 := Lib.hid (V.out.below hb); have B2 := Lib.hid (low_go B.out hb); clear hb)
      | (refine load_blk rfl (.tmp 1) rfl w.heap.size 0 rfl X V2.out.at ?_)
      | (go_at_call 47; with_reducible refine (CB.out _).mono ?_; rintro e w3 ⟨rfl, hb⟩; have V3 := Lib.hid (V2.out.below hb); have B3 := Lib.hid (low_go B2.out hb); clear hb)
      | (go_at_call 49; with_reducible refine (CZ.out _ V3.out).mono ?_; rintro e w4 ⟨rfl, rfl⟩))
    go_ret3
    exact ⟨.inr ⟨NR.out, rfl⟩, B3.out⟩
  have d2 : decide ((n3 : Int) < 1) = false := by simp; omega
  have e2 : ¬ (n3 : Int) < 1 := by omega
  by_cases h3 : n3 ≤ 30
  rotate_left
  · have NR := Lib.hid fun q : IsJT X => h3 (by rw [← hn3]; exact q.hi)
    have d3 : decide ((30 : Int) < (n3 : Int)) = true := by simp; omega
    have e3 : (30 : Int) < (n3 : Int) := by omega
    clear h1 h2 h3
    go_enter Try.func27, Try.ntmps27
    go_upto_region 1 with fail
    generalize w.alloc (.cells (arr X) 28) = w1 at V B ⊢
    go_wp2_with (first
      | (refine load_blk rfl (.tmp 1) rfl w.heap.size 0 rfl X V.out.at ?_)
      | (go_at_call 48; with_reducible refine (C3.out _).mono ?_; rintro e w2 ⟨rfl, hb⟩; have V2 := Lib.hid (V.out.below hb); have B2 := Lib.hid (low_go B.out hb); clear hb)
      | (refine load_blk rfl (.tmp 1) rfl w.heap.size 0 rfl X V2.out.at ?_)
      | (go_at_call 47; with_reducible refine (CB.out _).mono ?_; rintro e w3 ⟨rfl, hb⟩; have V3 := Lib.hid (V2.out.below hb); have B3 := Lib.hid (low_go B2.out hb); clear hb)
      | (go_at_call 49; with_reducible refine (CZ.out _ V3.out).mono ?_; rintro e w4 ⟨rfl, rfl⟩))
    go_ret3
    exact ⟨.inr ⟨NR.out, rfl⟩, B3.out⟩
  have d3 : decide ((30 : Int) < (n3 : Int)) = false := by simp; omega
  have e3 : ¬ (30 : Int) < (n3 : Int) := by omega
  have wm : IntKind.u32.wrap (8 * (n3 : Int)) = 8 * (n3 : Int) := by rw [IntKind.wrap_u32]; omega
  have wa : IntKind.u32.wrap (16 + 8 * (n3 : Int)) = 16 + 8 * (n3 : Int) := by rw [IntKind.wrap_u32]; omega
  have sc := fun W => slice_from w.heap.size (4 + 2 * n3) (by omega) (by omega) (16 + 8 * (n3 : Int)) (by omega) W
  have ZF := zero_from (X := X) (k := 4 + 2 * n3) (by omega) w.heap.size
  obtain ⟨AA, hAA⟩ : ∃ AA, fromA w.heap.size (4 + 2 * n3) = AA := ⟨_, rfl⟩
  obtain ⟨NN, hNN⟩ : ∃ NN, 256 - 4 * (4 + 2 * n3) = NN := ⟨_, rfl⟩
  rw [hAA, hNN] at ZF
  simp only [hAA, hNN] at sc
  clear hAA hNN
  by_cases h4 : Tail0 X (4 + 2 * n3)
  rotate_left
  · have NR := Lib.hid fun q : IsJT X => h4 (by rw [← hn3]; exact q.rest)
    have CZ := Lib.hid (ZF.2 h4)
    clear h1 h2 h3 h4 ZF
    go_enter Try.func27, Try.ntmps27
    go_upto_region 1 with fail
    generalize w.alloc (.cells (arr X) 28) = w1 at V B ⊢
    go_wp2_with (first
      | (refine load_blk rfl (.tmp 1) rfl w.heap.size 0 rfl X V.out.at ?_)
      | (go_at_call 48; with_reducible refine (C3.out _).mono ?_; rintro e w2 ⟨rfl, hb⟩; have V2 := Lib.hid (V.out.below hb); have B2 := Lib.hid (low_go B.out hb); clear hb)
      | (refine load_blk rfl (.tmp 1) rfl w.heap.size 0 rfl X V2.out.at ?_)
      | (go_at_call 47; with_reducible refine (CB.out _).mono ?_; rintro e w3 ⟨rfl, hb⟩; have V3 := Lib.hid (V2.out.below hb); have B3 := Lib.hid (low_go B2.out hb); clear hb)
      | (go_at_call 49; with_reducible refine (CZ.out _ V3.out).mono ?_; rintro e w4 ⟨rfl, rfl⟩))
    go_ret3
    exact ⟨.inr ⟨NR.out, rfl⟩, B3.out⟩
  have CZ := Lib.hid (ZF.1 h4)
  have IR : Hid (TN X n3 → IsJT X) := Lib.hid fun q => ⟨h1, by rw [hn3]; exact h2, by rw [hn3]; exact h3, by rw [hn3]; exact h4, by rw [hn3]; exact q.flags, by rw [hn3]; exact tagsOf_rise.2 q.rise⟩
  have NI : Hid (¬ TN X n3 → ¬ IsJT X) := Lib.hid fun q r => q (by have h1 := r.rise; have h2 := r.flags; rw [hn3] at h1 h2; exact ⟨h2, tagsOf_rise.1 h1⟩)
  have L30 := Lib.hid h3
  clear h1 h2 h3 h4 ZF hn3
  obtain ⟨i0, hi0, hzz⟩ := Option.map_eq_some_iff.1 tag_info
  simp only [Prod.mk.injEq] at hzz
  obtain ⟨hz0, hz1, hz2⟩ := hzz
  have HZ0 := Lib.hid hz0
  have HZ1 := Lib.hid hz1
  have HZ2 := Lib.hid hz2
  have HI0 := Lib.hid hi0
  clear hz0 hz1 hz2 hi0
  go_enter Try.func27, Try.ntmps27
  go_upto_region 1 with fail
  generalize w.alloc (.cells (arr X) 28) = w1 at V B ⊢
  go_upto_region 4 with (first
      | (refine load_blk rfl (.tmp 1) rfl w.heap.size 0 rfl X V.out.at ?_)
      | (go_at_call 48; with_reducible refine (C3.out _).mono ?_; rintro e w2 ⟨rfl, hb⟩; have V2 := Lib.hid (V.out.below hb); have B2 := Lib.hid (low_go B.out hb); clear hb)
      | (refine load_blk rfl (.tmp 1) rfl w.heap.size 0 rfl X V2.out.at ?_)
      | (go_at_call 47; with_reducible refine (CB.out _).mono ?_; rintro e w3 ⟨rfl, hb⟩; have V3 := Lib.hid (V2.out.below hb); have B3 := Lib.hid (low_go B2.out hb); clear hb)
      | (go_at_call 49; with_reducible refine (CZ.out _ V3.out).mono ?_; rintro e w4 ⟨rfl, rfl⟩))
  have K : Hid (TR w X (.slice none 0 0) 0 w4) := Lib.hid ⟨V3.out, World.ownsRow_nil _ _ _ _, B3.out⟩
  clear V B CB CZ V2 B2 V3 B3 C3 sc wm wa d2 d3
  go_wp2_with fail
  go_loopw [6, 7] (fun lv iv wr => ∃ (i : Nat) (v : Value), i ≤ n3 ∧ lv = v ∧ iv = .int .i64 i ∧ Hid (TR w X v i wr) ∧ Hid (TN X i)) (fun _ iv _ => n3 - (intOf iv).toNat)
  case atStart => exact ⟨0, _, Nat.zero_le _, rfl, rfl, K, Lib.hid (TN.zero X)⟩
  case round =>
    obtain ⟨i, v, hi, rfl, rfl, K2, RT⟩ := hrel
    clear K
    have n30 := L30.out
    have w64 : IntKind.i64.wrap (n3 : Int) = (n3 : Int) := by rw [IntKind.wrap_i64]; omega
    by_cases hlt : i < n3
    rotate_left
    · obtain rfl : i = n3 := by omega
      have g1 : ¬ (i : Int) < (i : Int) := by omega
      have hR := Lib.hid (IR.out RT.out)
      go_wp2_with (first
        | (refine load_blk rfl (.tmp 1) rfl w.heap.size 0 rfl X K2.out.blk.at ?_)
        | (go_at_call 48; with_reducible refine (C2.out _).mono ?_; rintro e w5 ⟨rfl, hb⟩; have K5 := Lib.hid (K2.out.below hb); clear hb))
      go_ret3
      exact ⟨.inl ⟨hR.out, _, rfl, by rw [N3.out]; exact own_monoJ K5.out.own (by omega)⟩, K5.out.low⟩
    have g1 : (i : Int) < (n3 : Int) := by omega
    have wi : IntKind.i64.wrap (8 * (i : Int)) = 8 * (i : Int) := by rw [IntKind.wrap_i64]; omega
    have wj : IntKind.i64.wrap (16 + 8 * (i : Int)) = 16 + 8 * (i : Int) := by rw [IntKind.wrap_i64]; omega
    have wk : IntKind.i64.wrap (20 + 8 * (i : Int)) = 20 + 8 * (i : Int) := by rw [IntKind.wrap_i64]; omega
    have CB : Hid (∀ W, Calls Try.prog 48 #[.agg (arr X), .int .i64 (16 + 8 * (i : Int))] W fun e w' => e = .returned (.int .u32 ((num X (4 + 2 * i) : Nat) : Int)) ∧ Below W.heap.size W w') := Lib.hid fun W => by
      have := rNum X (4 + 2 * i) W (by omega)
      rwa [show ((4 * (4 + 2 * i) : Nat) : Int) = 16 + 8 * (i : Int) by omega] at this
    have CE : Hid (∀ W, Calls Try.prog 48 #[.agg (arr X), .int .i64 (20 + 8 * (i : Int))] W fun e w' => e = .returned (.int .u32 ((num X (5 + 2 * i) : Nat) : Int)) ∧ Below W.heap.size W w') := Lib.hid fun W => by
      have := rNum X (5 + 2 * i) W (by omega)
      rwa [show ((4 * (5 + 2 * i) : Nat) : Int) = 20 + 8 * (i : Int) by omega] at this
    have V5 := Lib.hid K2.out.blk
    go_upto_region 8 with fail
    refine wp_region_vals (n := 13) rtD (rtV X i wr.heap.size) (by kernel_rfl) (by kernel_rfl) (by kernel_rfl) (by kernel_rfl) (by kernel_rfl) (rtV_below X i wr.heap.size) ?_ ?_
    · intro k op α w5 hk' ho hk hb hdep
      have Q5 : Hid (BVar w5 w.heap.size X) := Lib.hid (BVar.below (w := wr.drew) V5.out hb)
      have p1 : α.eval (.tmp 1) = .pointer (some ⟨w.heap.size, 0, none⟩) := (hk.eval (by decide)).trans rfl
      have p7 : α.eval (.tmp 7) = .int .i64 (i : Int) := (hk.eval (by decide)).trans rfl
      have hsz : wr.heap.size ≤ w5.heap.size := hb.size
      match k, hk', ho with
      | 0, _, ho =>
              cases ho
              exact op_blkJ (.tmp 1) rfl w.heap.size 0 p1 X Q5.out.at ⟨_, rfl, rfl, Below.refl _ _⟩
      | 1, _, ho =>
              cases ho
              exact Go.BigFrame.wp_move _ rfl ⟨_, rfl, p7, Below.refl _ _⟩
      | 2, _, ho =>
              cases ho
              have e1 : α.eval (.tmp 37) = .int .i64 (i : Int) := hdep ⟨1, .data⟩ (by simp) rfl
              have e2 : α.eval (.const (.int .i64 8)) = .int .i64 8 := rfl
              refine wp_value (v := .int .i64 (8 * (i : Int))) (w' := w5) ?_ ⟨_, rfl, rfl, Below.refl _ _⟩
              generalize α.eval = ev at e1 e2 ⊢
              go_simp
      | 3, _, ho =>
              cases ho
              have e1 : α.eval (.tmp 38) = .int .i64 (8 * (i : Int)) := hdep ⟨2, .data⟩ (by simp) rfl
              have e2 : α.eval (.const (.int .i64 16)) = .int .i64 16 := rfl
              refine wp_value (v := .int .i64 (16 + 8 * (i : Int))) (w' := w5) ?_ ⟨_, rfl, rfl, Below.refl _ _⟩
              generalize α.eval = ev at e1 e2 ⊢
              go_simp
      | 4, _, ho =>
              cases ho
              have e1 : α.eval (.tmp 36) = .agg (arr X) := hdep ⟨0, .data⟩ (by simp) rfl
              have e2 : α.eval (.tmp 39) = .int .i64 (16 + 8 * (i : Int)) := hdep ⟨3, .data⟩ (by simp) rfl
              refine wp_enter (f := 48) (args := #[.agg (arr X), .int .i64 (16 + 8 * (i : Int))]) ?_ ((CB.out w5).mono fun e y h => ⟨_, h.1, _, rfl, rfl, h.2⟩)
              have e3 : α.eval (.func 48) = .func (.func 48) #[] #[] := rfl
              generalize α.eval = ev at e1 e2 e3 ⊢
              go_simp
      | 5, _, ho =>
              cases ho
              exact op_blkJ (.tmp 1) rfl w.heap.size 0 p1 X Q5.out.at ⟨_, rfl, rfl, Below.refl _ _⟩
      | 6, _, ho =>
              cases ho
              exact Go.BigFrame.wp_move _ rfl ⟨_, rfl, p7, Below.refl _ _⟩
      | 7, _, ho =>
              cases ho
              have e1 : α.eval (.tmp 42) = .int .i64 (i : Int) := hdep ⟨6, .data⟩ (by simp) rfl
              have e2 : α.eval (.const (.int .i64 8)) = .int .i64 8 := rfl
              refine wp_value (v := .int .i64 (8 * (i : Int))) (w' := w5) ?_ ⟨_, rfl, rfl, Below.refl _ _⟩
              generalize α.eval = ev at e1 e2 ⊢
              go_simp
      | 8, _, ho =>
              cases ho
              have e1 : α.eval (.tmp 43) = .int .i64 (8 * (i : Int)) := hdep ⟨7, .data⟩ (by simp) rfl
              have e2 : α.eval (.const (.int .i64 20)) = .int .i64 20 := rfl
              refine wp_value (v := .int .i64 (20 + 8 * (i : Int))) (w' := w5) ?_ ⟨_, rfl, rfl, Below.refl _ _⟩
              generalize α.eval = ev at e1 e2 ⊢
              go_simp
      | 9, _, ho =>
              cases ho
              have e1 : α.eval (.tmp 41) = .agg (arr X) := hdep ⟨5, .data⟩ (by simp) rfl
              have e2 : α.eval (.tmp 44) = .int .i64 (20 + 8 * (i : Int)) := hdep ⟨8, .data⟩ (by simp) rfl
              refine wp_enter (f := 48) (args := #[.agg (arr X), .int .i64 (20 + 8 * (i : Int))]) ?_ ((CE.out w5).mono fun e y h => ⟨_, h.1, _, rfl, rfl, h.2⟩)
              have e3 : α.eval (.func 48) = .func (.func 48) #[] #[] := rfl
              generalize α.eval = ev at e1 e2 e3 ⊢
              go_simp
      | 10, _, ho =>
              cases ho
              have e1 : α.eval (.tmp 45) = .int .u32 ((num X (5 + 2 * i) : Nat) : Int) := hdep ⟨9, .data⟩ (by simp) rfl
              have e2 : α.eval (.const (.int .u32 1)) = .int .u32 1 := rfl
              have bq : (((num X (5 + 2 * i) : Nat) : Int) == 1) = (num X (5 + 2 * i) == 1) := by rw [Bool.eq_iff_iff]; simp; omega
              refine wp_value (v := .bool (num X (5 + 2 * i) == 1)) (w' := w5) ?_ ⟨_, rfl, rfl, Below.refl _ _⟩
              generalize α.eval = ev at e1 e2 ⊢
              go_simp
      | 11, _, ho =>
              cases ho
              have e1 : α.eval (.tmp 40) = .int .u32 ((num X (4 + 2 * i) : Nat) : Int) := hdep ⟨4, .data⟩ (by simp) rfl
              have e2 : α.eval (.tmp 46) = .bool (num X (5 + 2 * i) == 1) := hdep ⟨10, .data⟩ (by simp) rfl
              exact wp_build 62 #[(0, .tmp 40), (1, .tmp 46)] rfl (by simp [e1, e2, tag_built2]) ⟨_, rfl, by simp [e1, e2, tag_built2]; rfl, Below.refl _ _⟩
      | 12, _, ho =>
              cases ho
              refine wp_value (v := .pointer (some ⟨w5.heap.size, 0, none⟩)) (w' := w5.alloc (.cells (tcs (0, false)) 62)) ?_ ⟨_, rfl, ⟨_, rfl, hsz, heap_alloc_new w5 _⟩, below_new _ _⟩
              have ht := fun W => zero_tag W
              unfold execOp
              go_simp
      | k + 13, hi, _ => omega
    intro α w5 hk hb hv
    obtain ⟨y, hy, ea⟩ := hk.lit2 76 rfl
    have v11 : y 47 = .agg (tcs (tagAt X i)) := (hy 47).symm.trans (hv 11 (by omega))
    have v10 : y 46 = .bool (num X (5 + 2 * i) == 1) := (hy 46).symm.trans (hv 10 (by omega))
    obtain ⟨bt, hbt, hge, htv⟩ : ∃ b, α.eval (.tmp 8) = .pointer (some ⟨b, 0, none⟩) ∧ wr.heap.size ≤ b ∧ TVar w5 b (0, false) := hv 12 (by omega)
    have v8 : y 8 = .pointer (some ⟨bt, 0, none⟩) := (hy 8).symm.trans hbt
    replace ea : α = { tmps := #[.agg (arr X), .pointer (some ⟨w.heap.size, 0, none⟩), u2, u3, u4, .int .u32 (n3 : Int), u6, .int .i64 (i : Int), y 8, .agg (arr X), .int .u32 (n3 : Int), .agg (arr X), .bool true, .bool false, .bool false, .int .u32 (n3 : Int), .bool false, .bool false, .bool false, .int .u32 (n3 : Int), .bool false, .bool false, .bool false, .int .u32 (n3 : Int), .int .u32 (8 * (n3 : Int)), .int .u32 (16 + 8 * (n3 : Int)), .slice AA NN NN, .bool true, .bool false, .bool false, .int .i64 (i : Int), .int .u32 (n3 : Int), .int .i64 (n3 : Int), .bool true, u34, u35, y 36, y 37, y 38, y 39, y 40, y 41, y 42, y 43, y 44, y 45, y 46, y 47, u48, u49, u50, u51, u52, u53, u54, u55, u56, u57, u58, u59, u60, u61, u62, u63, u64, u65, u66, u67, u68, u69, u70, u71, u72, undef, undef, undef], defers := [] } := ea
    obtain ⟨x, hx⟩ : ∃ x, num X (4 + 2 * i) = x := ⟨_, rfl⟩
    obtain ⟨fl, hfl⟩ : ∃ fl, num X (5 + 2 * i) = fl := ⟨_, rfl⟩
    obtain ⟨eb, heb⟩ : ∃ eb, (fl == 1) = eb := ⟨_, rfl⟩
    have hxt : tagAt X i = (x, eb) := by unfold tagAt; rw [hx, hfl, heb]
    have HX := Lib.hid hxt
    rw [hxt] at v11
    rw [hfl] at CE
    rw [v8, v11] at ea
    have K5 : Hid (TR w X u6 i w5) := Lib.hid (K2.out.below (Below.trans (Below.drewN (Below.refl _ wr) 1) hb))
    have T5 := Lib.hid htv
    have OB : Hid (u6.ownBlock ≠ some bt) := Lib.hid fun e => by have := (K2.out.own.lt _ e).2; omega
    have LT : Hid (w.heap.size < bt) := Lib.hid (by have := K2.out.blk.lt; omega)
    clear hk hb hv hy v8 v11 v10 hbt hge htv K2 V5 CB hxt heb
    subst ea
    simp only [List.drop_succ_cons, List.drop_zero]
    go_upto_region 9 with (refine store_tagv rfl (.tmp 8) (.tmp 47) rfl bt (x, eb) (0, false) rfl rfl T5.out ?_)
    have K6 := Lib.hid (K5.out.row LT.out OB.out (tcs (x, eb)))
    have T6 := Lib.hid (T5.out.set (x, eb))
    generalize w5.setRow bt (tcs (x, eb)) = w6 at K6 T6 ⊢
    simp only [Act.put]
    clear K5 T5 OB LT
    have HF := Lib.hid hfl
    have HN := Lib.hid hx
    clear hfl hx
    by_cases f1 : fl ≤ 1
    rotate_left
    · have t1 : decide ((1 : Int) < (fl : Int)) = true := by simp; omega
      have t2 : (1 : Int) < (fl : Int) := by omega
      have NR : Hid (¬ IsJT X) := Lib.hid (NI.out fun r => by have := r.flags i (by omega); rw [HF.out] at this; omega)
      clear f1
      refine wp_region_class (More w6) (by kernel_rfl) (by kernel_rfl) (More.drew _) ?_
      repeat (first | go_big_quiet_skip | (go_big_quiet_want; first | (refine quiet_load (.tmp 1) rfl w.heap.size 0 rfl X (by intro w' hw'; exact (K6.out.blk.below hw').at) ?_; simp only [Act.put, List.setIfInBounds_toArray, List.set_cons_zero, List.set_cons_succ]; go_big_quiet_on) | (go_big_quiet_op; first | go_big_quiet_on | (apply Exists.intro; refine ⟨fun _ _ => ?_, ?_⟩; (with_reducible exact rfl); go_big_quiet_on) | go_big_quiet_call ((intro hC; (with_reducible refine (CE.out _).mono ?_); exact fun e w' h => ⟨h.1, hC.on h.2⟩)))))
      refine wpQuiet_nil ?_
      intro w7 hw7
      have K7 := Lib.hid (K6.out.below hw7)
      have T7 := Lib.hid (T6.out.below hw7)
      clear hw7
      go_wp2_with fail
      go_ret3
      exact ⟨.inr ⟨NR.out, rfl⟩, K7.out.low⟩
    have t1 : decide ((1 : Int) < (fl : Int)) = false := by simp; omega
    have t2 : ¬ (1 : Int) < (fl : Int) := by omega
    have FL := Lib.hid f1
    clear f1
    by_cases i1 : i = 0
    · have d0 : decide ((0 : Int) < (i : Int)) = false := by simp; omega
      have d1 : ¬ (0 : Int) < (i : Int) := by omega
      have d3 : decide (0 < i) = false := by simp; omega
      have RT2 : Hid (TN X (i + 1)) := Lib.hid (by subst i1; exact TN.one (by rw [HF.out]; exact FL.out))
      clear i1
      refine wp_region_class (More w6) (by kernel_rfl) (by kernel_rfl) (More.drew _) ?_
      repeat (first | go_big_quiet_skip | (go_big_quiet_want; first | (refine quiet_load (.tmp 1) rfl w.heap.size 0 rfl X (by intro w' hw'; exact (K6.out.blk.below hw').at) ?_; simp only [Act.put, List.setIfInBounds_toArray, List.set_cons_zero, List.set_cons_succ]; go_big_quiet_on) | (go_big_quiet_op; first | go_big_quiet_on | (apply Exists.intro; refine ⟨fun _ _ => ?_, ?_⟩; (with_reducible exact rfl); go_big_quiet_on) | go_big_quiet_call ((intro hC; (with_reducible refine (CE.out _).mono ?_); exact fun e w' h => ⟨h.1, hC.on h.2⟩)))))
      refine wpQuiet_nil ?_
      intro w7 hw7
      have K7 := Lib.hid (K6.out.below hw7)
      have T7 := Lib.hid (T6.out.below hw7)
      clear hw7
      go_wp2_with (first
        | (refine load_tag rfl (.tmp 8) rfl bt 0 rfl (x, eb) T7.out.at ?_)
        | (refine build_oneT rfl (.tmp 70) rfl (x, eb) rfl ?_)
        | (at_builtin; refine wpList_append_lies _ rfl (.tmp 69) (.tmp 71) 25 rfl (w.heap.size + 1) 62 i0 _ 2 8 Try.underlying25 HI0.out HZ0.out HZ1.out HZ2.out (by rfl) (by omega) _ i (tC (tagsOf X i)) (by rfl) (K7.out.below (below_new _ _)).own ⟨w7.heap.size, 0, none⟩ 1 1 (tC [(x, eb)]) (by rfl) (by rfl) (World.news_of_block (heap_alloc_new w7 _)) (tC_one _) (by omega) (by simp only [maxLen]; omega) (by omega) (by have := K7.out.low.size; have := K7.out.blk.lt; simp; omega) (w7.heap.size + 1) (by simp) ?_; intro gg cap w8 hown hgrow hat hlt2; have K8 := Lib.hid (K7.out.app _ hown (by rw [tagsOf_next, HX.out, tC_append]) hgrow); clear hown hgrow hat hlt2))
      go_roundw
      case rel => exact ⟨i + 1, _, by omega, rfl, by congr 1, K8, RT2⟩
      case measure => simp [intOf]; omega
    obtain ⟨m, hm⟩ : ∃ m, i = m + 1 := ⟨i - 1, by omega⟩
    have d0 : decide ((0 : Int) < (i : Int)) = true := by simp; omega
    have d3 : decide (0 < i) = true := by simp; omega
    have d1 : (0 : Int) < (i : Int) := by omega
    obtain ⟨A, c, hv, _, hn⟩ := own_tagsN K6.out.own (tagsOf_length X i).symm
    subst hv
    obtain ⟨b, o, rfl, hbl, hc⟩ := hn (by rw [tagsOf_length]; omega)
    obtain ⟨u, hu⟩ : ∃ u, num X (4 + 2 * m) = u := ⟨_, rfl⟩
    have du : w6.cell? ⟨b, o + m * 2, none⟩ = some (.int .u32 (u : Int)) := by
      have := hc m (tagAt X m) (tagsOf_get (by omega)) 0 (.int .u32 (u : Int)) (by unfold tagAt; rw [← hu]; rfl)
      rwa [Nat.add_zero] at this
    have DU : Hid (∀ W, Below w6.heap.size w6 W → W.cell? ⟨b, o + m * 2, none⟩ = some (.int .u32 (u : Int))) := Lib.hid fun W hb => (hb.cell hbl).trans du
    have wq : IntKind.i64.wrap ((i : Int) - 1) = (m : Int) := by rw [IntKind.wrap_i64]; omega
    have m0 : (0 : Int) ≤ (m : Int) := by omega
    have m1 : (m : Int) < (i : Int) := by omega
    by_cases q : x ≤ u
    · have s1 : decide ((x : Int) ≤ (u : Int)) = true := by simp; omega
      have s2 : (x : Int) ≤ (u : Int) := by omega
      have s3 : decide (x ≤ u) = true := by simp; omega
      have NR : Hid (¬ IsJT X) := Lib.hid (NI.out fun r => by have := r.rise m (by omega); rw [hu, ← hm, HN.out] at this; omega)
      clear hn hc hu i1 q hm hbl du
      refine wp_region_class (More w6) (by kernel_rfl) (by kernel_rfl) (More.drew _) ?_
      repeat (first | go_big_quiet_skip | (go_big_quiet_want; first | (refine quietJ_u32 (.tmp 58) rfl ⟨bt, 0, none⟩ rfl _ (by intro w' hw'; exact (T6.out.below hw').at 0 (.int .u32 (x : Int)) rfl) ?_; simp only [Act.put, List.setIfInBounds_toArray, List.set_cons_zero, List.set_cons_succ]; go_big_quiet_on) | (refine quietJ_u32 (.tmp 64) rfl ⟨b, o + m * 2, none⟩ rfl _ (by intro w' hw'; exact DU.out w' hw') ?_; simp only [Act.put, List.setIfInBounds_toArray, List.set_cons_zero, List.set_cons_succ]; go_big_quiet_on) | (refine quiet_load (.tmp 1) rfl w.heap.size 0 rfl X (by intro w' hw'; exact (K6.out.blk.below hw').at) ?_; simp only [Act.put, List.setIfInBounds_toArray, List.set_cons_zero, List.set_cons_succ]; go_big_quiet_on) | (go_big_quiet_op; first | go_big_quiet_on | (apply Exists.intro; refine ⟨fun _ _ => ?_, ?_⟩; (with_reducible exact rfl); go_big_quiet_on) | go_big_quiet_call ((intro hC; (with_reducible refine (CE.out _).mono ?_); exact fun e w' h => ⟨h.1, hC.on h.2⟩)))))
      refine wpQuiet_nil ?_
      intro w7 hw7
      have K7 := Lib.hid (K6.out.below hw7)
      have T7 := Lib.hid (T6.out.below hw7)
      clear hw7
      go_wp2_with fail
      go_ret3
      exact ⟨.inr ⟨NR.out, rfl⟩, K7.out.low⟩
    · have s1 : decide ((x : Int) ≤ (u : Int)) = false := by simp; omega
      have s2 : ¬ (x : Int) ≤ (u : Int) := by omega
      have s3 : decide (x ≤ u) = false := by simp; omega
      have RT2 : Hid (TN X (i + 1)) := Lib.hid (by
        have := RT.out
        rw [hm] at this ⊢
        exact this.next (by rw [← hm, HF.out]; exact FL.out) (by rw [hu, ← hm, HN.out]; omega))
      clear hn hc hu i1 q hm hbl du
      refine wp_region_class (More w6) (by kernel_rfl) (by kernel_rfl) (More.drew _) ?_
      repeat (first | go_big_quiet_skip | (go_big_quiet_want; first | (refine quietJ_u32 (.tmp 58) rfl ⟨bt, 0, none⟩ rfl _ (by intro w' hw'; exact (T6.out.below hw').at 0 (.int .u32 (x : Int)) rfl) ?_; simp only [Act.put, List.setIfInBounds_toArray, List.set_cons_zero, List.set_cons_succ]; go_big_quiet_on) | (refine quietJ_u32 (.tmp 64) rfl ⟨b, o + m * 2, none⟩ rfl _ (by intro w' hw'; exact DU.out w' hw') ?_; simp only [Act.put, List.setIfInBounds_toArray, List.set_cons_zero, List.set_cons_succ]; go_big_quiet_on) | (refine quiet_load (.tmp 1) rfl w.heap.size 0 rfl X (by intro w' hw'; exact (K6.out.blk.below hw').at) ?_; simp only [Act.put, List.setIfInBounds_toArray, List.set_cons_zero, List.set_cons_succ]; go_big_quiet_on) | (go_big_quiet_op; first | go_big_quiet_on | (apply Exists.intro; refine ⟨fun _ _ => ?_, ?_⟩; (with_reducible exact rfl); go_big_quiet_on) | go_big_quiet_call ((intro hC; (with_reducible refine (CE.out _).mono ?_); exact fun e w' h => ⟨h.1, hC.on h.2⟩)))))
      refine wpQuiet_nil ?_
      intro w7 hw7
      have K7 := Lib.hid (K6.out.below hw7)
      have T7 := Lib.hid (T6.out.below hw7)
      clear hw7
      go_wp2_with (first
        | (refine load_tag rfl (.tmp 8) rfl bt 0 rfl (x, eb) T7.out.at ?_)
        | (refine build_oneT rfl (.tmp 70) rfl (x, eb) rfl ?_)
        | (at_builtin; refine wpList_append_lies _ rfl (.tmp 69) (.tmp 71) 25 rfl (w.heap.size + 1) 62 i0 _ 2 8 Try.underlying25 HI0.out HZ0.out HZ1.out HZ2.out (by rfl) (by omega) _ i (tC (tagsOf X i)) (by rfl) (K7.out.below (below_new _ _)).own ⟨w7.heap.size, 0, none⟩ 1 1 (tC [(x, eb)]) (by rfl) (by rfl) (World.news_of_block (heap_alloc_new w7 _)) (tC_one _) (by omega) (by simp only [maxLen]; omega) (by omega) (by have := K7.out.low.size; have := K7.out.blk.lt; simp; omega) (w7.heap.size + 1) (by simp) ?_; intro gg cap w8 hown hgrow hat hlt2; have K8 := Lib.hid (K7.out.app _ hown (by rw [tagsOf_next, HX.out, tC_append]) hgrow); clear hown hgrow hat hlt2))
      go_roundw
      case rel => exact ⟨i + 1, _, by omega, rfl, by congr 1, K8, RT2⟩
      case measure => simp [intOf]; omega
end Go.Proofs.Ytjiooadakklmlaa
