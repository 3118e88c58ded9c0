import Derived.Test.YtjiooadakklmlaaJbQ2
namespace Go.Proofs.Ytjiooadakklmlaa
open Go.RowKit

/-! The document's own WriteHead and WriteCommit. -/
/-- Slices of numbers that are built. -/
theorem nums_fill1 (v0 : Nat) : Instr.fill (fun i => some (i * 1, 1)) ((Array.range (1 * 1)).map ((Value.int .u32 0).cells[· % (Value.int .u32 0).cells.size]!)) [(0, .int .u32 ((v0 : Nat) : Int))] = some #[.int .u32 ((v0 : Nat) : Int)] := by kernel_rfl
theorem build_nums1 {ops : Array Oper} {rest : List Oper} {op : Oper} {a : Act} {w : World} {Q : Exit → Act → World → Prop} (hgd : op.guard = none) (y0 : Operand) (ho : op.op = .buildSlice 26 1 #[(0, y0)]) (v0 : Nat) (h0 : a.eval y0 = .int .u32 ((v0 : Nat) : Int))
    (h : wpList Try.prog ops Q rest (a.put op.dst (.slice (some ⟨w.heap.size, 0, none⟩) 1 1)) (w.alloc (.cells #[.int .u32 ((v0 : Nat) : Int)] 22))) : wpList Try.prog ops Q (op :: rest) a w := by
  obtain ⟨i, i1, i2⟩ := Option.map_eq_some_iff.1 u32_info
  simp only [Prod.mk.injEq] at i2
  obtain ⟨hz, hs, _⟩ := i2
  refine wpList_plain hgd fun _ hK => wp_buildSlice 26 22 1 _ ho #[.int .u32 ((v0 : Nat) : Int)] i _ Try.underlying26 i1 hz (by rw [hs]; decide) (by rw [hs]; decide) ?_ (hK _ _ h)
  rw [hs]
  simp only [List.map_toArray, List.map_cons, List.map_nil, h0]
  exact nums_fill1 v0
theorem nums_fill2 (v0 v1 : Nat) : Instr.fill (fun i => some (i * 1, 1)) ((Array.range (2 * 1)).map ((Value.int .u32 0).cells[· % (Value.int .u32 0).cells.size]!)) [(0, .int .u32 ((v0 : Nat) : Int)), (1, .int .u32 ((v1 : Nat) : Int))] = some #[.int .u32 ((v0 : Nat) : Int), .int .u32 ((v1 : Nat) : Int)] := by kernel_rfl
theorem build_nums2 {ops : Array Oper} {rest : List Oper} {op : Oper} {a : Act} {w : World} {Q : Exit → Act → World → Prop} (hgd : op.guard = none) (y0 y1 : Operand) (ho : op.op = .buildSlice 26 2 #[(0, y0), (1, y1)]) (v0 v1 : Nat) (h0 : a.eval y0 = .int .u32 ((v0 : Nat) : Int)) (h1 : a.eval y1 = .int .u32 ((v1 : Nat) : Int))
    (h : wpList Try.prog ops Q rest (a.put op.dst (.slice (some ⟨w.heap.size, 0, none⟩) 2 2)) (w.alloc (.cells #[.int .u32 ((v0 : Nat) : Int), .int .u32 ((v1 : Nat) : Int)] 22))) : wpList Try.prog ops Q (op :: rest) a w := by
  obtain ⟨i, i1, i2⟩ := Option.map_eq_some_iff.1 u32_info
  simp only [Prod.mk.injEq] at i2
  obtain ⟨hz, hs, _⟩ := i2
  refine wpList_plain hgd fun _ hK => wp_buildSlice 26 22 2 _ ho #[.int .u32 ((v0 : Nat) : Int), .int .u32 ((v1 : Nat) : Int)] i _ Try.underlying26 i1 hz (by rw [hs]; decide) (by rw [hs]; decide) ?_ (hK _ _ h)
  rw [hs]
  simp only [List.map_toArray, List.map_cons, List.map_nil, h0, h1]
  exact nums_fill2 v0 v1
theorem nums_fill4 (v0 v1 v2 v3 : Nat) : Instr.fill (fun i => some (i * 1, 1)) ((Array.range (4 * 1)).map ((Value.int .u32 0).cells[· % (Value.int .u32 0).cells.size]!)) [(0, .int .u32 ((v0 : Nat) : Int)), (1, .int .u32 ((v1 : Nat) : Int)), (2, .int .u32 ((v2 : Nat) : Int)), (3, .int .u32 ((v3 : Nat) : Int))] = some #[.int .u32 ((v0 : Nat) : Int), .int .u32 ((v1 : Nat) : Int), .int .u32 ((v2 : Nat) : Int), .int .u32 ((v3 : Nat) : Int)] := by kernel_rfl
theorem build_nums4 {ops : Array Oper} {rest : List Oper} {op : Oper} {a : Act} {w : World} {Q : Exit → Act → World → Prop} (hgd : op.guard = none) (y0 y1 y2 y3 : Operand) (ho : op.op = .buildSlice 26 4 #[(0, y0), (1, y1), (2, y2), (3, y3)]) (v0 v1 v2 v3 : Nat) (h0 : a.eval y0 = .int .u32 ((v0 : Nat) : Int)) (h1 : a.eval y1 = .int .u32 ((v1 : Nat) : Int)) (h2 : a.eval y2 = .int .u32 ((v2 : Nat) : Int)) (h3 : a.eval y3 = .int .u32 ((v3 : Nat) : Int))
    (h : wpList Try.prog ops Q rest (a.put op.dst (.slice (some ⟨w.heap.size, 0, none⟩) 4 4)) (w.alloc (.cells #[.int .u32 ((v0 : Nat) : Int), .int .u32 ((v1 : Nat) : Int), .int .u32 ((v2 : Nat) : Int), .int .u32 ((v3 : Nat) : Int)] 22))) : wpList Try.prog ops Q (op :: rest) a w := by
  obtain ⟨i, i1, i2⟩ := Option.map_eq_some_iff.1 u32_info
  simp only [Prod.mk.injEq] at i2
  obtain ⟨hz, hs, _⟩ := i2
  refine wpList_plain hgd fun _ hK => wp_buildSlice 26 22 4 _ ho #[.int .u32 ((v0 : Nat) : Int), .int .u32 ((v1 : Nat) : Int), .int .u32 ((v2 : Nat) : Int), .int .u32 ((v3 : Nat) : Int)] i _ Try.underlying26 i1 hz (by rw [hs]; decide) (by rw [hs]; decide) ?_ (hK _ _ h)
  rw [hs]
  simp only [List.map_toArray, List.map_cons, List.map_nil, h0, h1, h2, h3]
  exact nums_fill4 v0 v1 v2 v3
theorem nums_fill5 (v0 v1 v2 v3 v4 : Nat) : Instr.fill (fun i => some (i * 1, 1)) ((Array.range (5 * 1)).map ((Value.int .u32 0).cells[· % (Value.int .u32 0).cells.size]!)) [(0, .int .u32 ((v0 : Nat) : Int)), (1, .int .u32 ((v1 : Nat) : Int)), (2, .int .u32 ((v2 : Nat) : Int)), (3, .int .u32 ((v3 : Nat) : Int)), (4, .int .u32 ((v4 : Nat) : Int))] = some #[.int .u32 ((v0 : Nat) : Int), .int .u32 ((v1 : Nat) : Int), .int .u32 ((v2 : Nat) : Int), .int .u32 ((v3 : Nat) : Int), .int .u32 ((v4 : Nat) : Int)] := by kernel_rfl
theorem build_nums5 {ops : Array Oper} {rest : List Oper} {op : Oper} {a : Act} {w : World} {Q : Exit → Act → World → Prop} (hgd : op.guard = none) (y0 y1 y2 y3 y4 : Operand) (ho : op.op = .buildSlice 26 5 #[(0, y0), (1, y1), (2, y2), (3, y3), (4, y4)]) (v0 v1 v2 v3 v4 : Nat) (h0 : a.eval y0 = .int .u32 ((v0 : Nat) : Int)) (h1 : a.eval y1 = .int .u32 ((v1 : Nat) : Int)) (h2 : a.eval y2 = .int .u32 ((v2 : Nat) : Int)) (h3 : a.eval y3 = .int .u32 ((v3 : Nat) : Int)) (h4 : a.eval y4 = .int .u32 ((v4 : Nat) : Int))
    (h : wpList Try.prog ops Q rest (a.put op.dst (.slice (some ⟨w.heap.size, 0, none⟩) 5 5)) (w.alloc (.cells #[.int .u32 ((v0 : Nat) : Int), .int .u32 ((v1 : Nat) : Int), .int .u32 ((v2 : Nat) : Int), .int .u32 ((v3 : Nat) : Int), .int .u32 ((v4 : Nat) : Int)] 22))) : wpList Try.prog ops Q (op :: rest) a w := by
  obtain ⟨i, i1, i2⟩ := Option.map_eq_some_iff.1 u32_info
  simp only [Prod.mk.injEq] at i2
  obtain ⟨hz, hs, _⟩ := i2
  refine wpList_plain hgd fun _ hK => wp_buildSlice 26 22 5 _ ho #[.int .u32 ((v0 : Nat) : Int), .int .u32 ((v1 : Nat) : Int), .int .u32 ((v2 : Nat) : Int), .int .u32 ((v3 : Nat) : Int), .int .u32 ((v4 : Nat) : Int)] i _ Try.underlying26 i1 hz (by rw [hs]; decide) (by rw [hs]; decide) ?_ (hK _ _ h)
  rw [hs]
  simp only [List.map_toArray, List.map_cons, List.map_nil, h0, h1, h2, h3, h4]
  exact nums_fill5 v0 v1 v2 v3 v4
theorem nums_new {w : World} (l : List Nat) (cs : Array Value) (h : cs = (nC l).toArray) : NumsAt (w.alloc (.cells cs 22)) (some ⟨w.heap.size, 0, none⟩) l := fun _ => by
  subst h
  refine ⟨_, 0, rfl, by rw [World.size_alloc]; omega, fun i v hv => ?_⟩
  rw [Nat.zero_add, cell_of_row _ w.heap.size i _ _ _ (heap_alloc_new w _)]
  unfold nC
  simp [hv]
theorem nums_own {w : World} {base : Nat} (l : List Nat) (cs : Array Value) (h : cs = (nC l).toArray) (hb : base ≤ w.heap.size) (hm : l.length ≤ maxLen) : (w.alloc (.cells cs 22)).ownsRow base 22 1 (.slice (some ⟨w.heap.size, 0, none⟩) l.length l.length) l.length (nC l) := by
  subst h
  refine ⟨nC_length l, .inr ⟨w.heap.size, l.length, _, rfl, hb, heap_alloc_new w _, Nat.le_refl _, hm, by simp [nC], ?_⟩⟩
  rw [List.take_of_length_le (by simp [nC])]
set_option maxRecDepth 100000 in
set_option maxHeartbeats 4000000 in
theorem rWriteHead (x : HeadV) (w : World) : Calls Try.prog 12 #[.agg (hcs x)] w fun e w' => e = .returned (.tuple #[.agg (arr (writeJH x).1), .int .i64 (writeJH x).2]) ∧ Below w.heap.size w w' := by
  have hz := fun W => zero_blk W
  have V := Lib.hid (show HVar ((w.alloc (.cells (hcs x) 24)).alloc (.cells (arr .zero) 28)) w.heap.size x from HVar.below (heap_alloc_new w _) (below_new _ _))
  have R := Lib.hid (show BVar ((w.alloc (.cells (hcs x) 24)).alloc (.cells (arr .zero) 28)) (w.heap.size + 1) .zero from heap_alloc2_new w _ _)
  have B := Lib.hid (show Below w.heap.size w ((w.alloc (.cells (hcs x) 24)).alloc (.cells (arr .zero) 28)) from low_go (below_new w _) (below_new _ _))
  have CS := Lib.hid fun W => rSeq x.seq W
  have c0 := V.out.seq
  have c1 := V.out.start
  by_cases h1 : MaySeq x.seq
  rotate_left
  · have E := Lib.hid (writeJH_no fun q : MayH x => h1 q.seq)
    rw [decide_eq_false h1] at CS
    generalize x.seq = sq at c0 CS
    clear h1
    go_enter Try.func12, Try.ntmps12
    go_upto_region 1 with fail
    generalize (w.alloc (.cells (hcs x) 24)).alloc (.cells (arr .zero) 28) = w1 at V R B c0 c1 ⊢
    clear hz
    go_wp2_with (first
      | (go_at_call 39; with_reducible refine (CS.out _).mono ?_; rintro e w2 ⟨rfl, rfl⟩)
      | (refine build_zeroB rfl rfl ?_)
      | (refine store_row rfl (.tmp 2) (.tmp 18) rfl (w.heap.size + 1) .zero .zero 28 rfl rfl R.out ?_))
    exact bodyPost_ret (res_blk2 Try.results12 _ _ (w.heap.size + 1) .zero (.int .i64 2) _ rfl rfl (row_heap _ _ _ _ R.out)) rfl ⟨by rw [E.out], row_low B.out (by omega) _⟩
  rw [decide_eq_true h1] at CS
  by_cases h2 : 0 ≤ x.start
  rotate_left
  · have E := Lib.hid (writeJH_no fun q : MayH x => h2 q.lo)
    have d2 : decide (x.start < 0) = true := by simp; omega
    have e2 : x.start < 0 := by omega
    generalize x.seq = sq at c0 CS
    generalize x.start = st at c1 d2 e2
    clear h1 h2
    go_enter Try.func12, Try.ntmps12
    go_upto_region 1 with fail
    generalize (w.alloc (.cells (hcs x) 24)).alloc (.cells (arr .zero) 28) = w1 at V R B c0 c1 ⊢
    clear hz
    go_wp2_with (first
      | (go_at_call 39; with_reducible refine (CS.out _).mono ?_; rintro e w2 ⟨rfl, rfl⟩)
      | (refine build_zeroB rfl rfl ?_)
      | (refine store_row rfl (.tmp 2) (.tmp 18) rfl (w.heap.size + 1) .zero .zero 28 rfl rfl R.out ?_))
    exact bodyPost_ret (res_blk2 Try.results12 _ _ (w.heap.size + 1) .zero (.int .i64 2) _ rfl rfl (row_heap _ _ _ _ R.out)) rfl ⟨by rw [E.out], row_low B.out (by omega) _⟩
  have d2 : decide (x.start < 0) = false := by simp; omega
  have e2 : ¬ x.start < 0 := by omega
  by_cases h3 : x.start ≤ 255
  rotate_left
  · have E := Lib.hid (writeJH_no fun q : MayH x => h3 q.hi)
    have d3 : decide (255 < x.start) = true := by simp; omega
    have e3 : 255 < x.start := by omega
    generalize x.seq = sq at c0 CS
    generalize x.start = st at c1 d2 e2 d3 e3
    clear h1 h2 h3
    go_enter Try.func12, Try.ntmps12
    go_upto_region 1 with fail
    generalize (w.alloc (.cells (hcs x) 24)).alloc (.cells (arr .zero) 28) = w1 at V R B c0 c1 ⊢
    clear hz
    go_wp2_with (first
      | (go_at_call 39; with_reducible refine (CS.out _).mono ?_; rintro e w2 ⟨rfl, rfl⟩)
      | (refine build_zeroB rfl rfl ?_)
      | (refine store_row rfl (.tmp 2) (.tmp 18) rfl (w.heap.size + 1) .zero .zero 28 rfl rfl R.out ?_))
    exact bodyPost_ret (res_blk2 Try.results12 _ _ (w.heap.size + 1) .zero (.int .i64 2) _ rfl rfl (row_heap _ _ _ _ R.out)) rfl ⟨by rw [E.out], row_low B.out (by omega) _⟩
  have d3 : decide (255 < x.start) = false := by simp; omega
  have e3 : ¬ 255 < x.start := by omega
  have hm : MayH x := ⟨h1, h2, h3⟩
  have E := Lib.hid (writeJH_yes hm)
  obtain ⟨st, hst⟩ : ∃ st : Nat, x.start = (st : Int) := ⟨x.start.toNat, by omega⟩
  have w32 : IntKind.u32.wrap (st : Int) = (st : Int) := by rw [IntKind.wrap_u32]; omega
  have HLst : Hid (headL x = [magic, 4, x.seq, st]) := Lib.hid (by unfold headL; rw [hst]; rfl)
  have LT := Lib.hid (headL_lt hm)
  rw [hst] at c1 d2 e2 d3 e3
  obtain ⟨sq, hsq⟩ : ∃ sq, x.seq = sq := ⟨_, rfl⟩
  rw [hsq] at c0 CS HLst
  have CB : Hid (∀ W, Calls Try.prog 40 #[.slice (some ⟨W.heap.size, 0, none⟩) 4 4] (W.alloc (.cells #[.int .u32 1280199249, .int .u32 4, .int .u32 ((sq : Nat) : Int), .int .u32 ((st : Nat) : Int)] 22)) fun e w' => e = .returned (.agg (arr (listB (headL x)))) ∧ Below W.heap.size W w') := Lib.hid fun W => by
    have h := rBlock (some ⟨W.heap.size, 0, none⟩) 4 (headL x) (W.alloc (.cells #[.int .u32 ((1280199249 : Nat) : Int), .int .u32 ((4 : Nat) : Int), .int .u32 ((sq : Nat) : Int), .int .u32 ((st : Nat) : Int)] 22)) (by rw [HLst.out]; show 4 ≤ 64; omega) LT.out (nums_new _ _ (by rw [HLst.out]; rfl))
    rw [show (headL x).length = 4 by rw [HLst.out]; rfl] at h
    exact h.mono fun e w' q => ⟨q.1, low_go (below_new W _) q.2⟩
  clear h1 h2 h3 hm hst hsq LT
  go_enter Try.func12, Try.ntmps12
  go_upto_region 1 with fail
  generalize (w.alloc (.cells (hcs x) 24)).alloc (.cells (arr .zero) 28) = w1 at V R B c0 c1 ⊢
  clear hz
  go_wp2_with (first
    | (go_at_call 39; with_reducible refine (CS.out _).mono ?_; rintro e w2 ⟨rfl, rfl⟩)
    | (refine build_nums4 rfl (.const (.int .u32 1280199249)) (.const (.int .u32 4)) (.tmp 20) (.tmp 23) rfl 1280199249 4 sq st rfl rfl rfl rfl ?_)
    | (go_at_call 40; with_reducible refine (CB.out _).mono ?_; rintro e w3 ⟨rfl, hb⟩; have R3 := Lib.hid (R.out.below hb))
    | (refine store_row rfl (.tmp 2) (.tmp 25) rfl (w.heap.size + 1) (listB (headL x)) .zero 28 rfl rfl R3.out ?_))
  exact bodyPost_ret (res_blk2 Try.results12 _ _ (w.heap.size + 1) (listB (headL x)) (.int .i64 0) _ rfl rfl (row_heap _ _ _ _ R3.out)) rfl ⟨by rw [E.out], row_low (low_go B.out hb) (by omega) _⟩
end Go.Proofs.Ytjiooadakklmlaa
