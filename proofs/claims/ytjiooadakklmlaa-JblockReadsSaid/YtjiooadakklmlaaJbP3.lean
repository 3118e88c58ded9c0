import Derived.Test.YtjiooadakklmlaaJbP2
namespace Go.Proofs.Ytjiooadakklmlaa
open Go.RowKit

/-! The landed code: the rows of a list of tags. -/
def FBox (w : World) (q : Nat) : Prop := w.heap[q]? = some (.cells #[.func (.func 55) #[] #[]] 96 (0, 0))
section
variable {w w' : World} {q : Nat}
theorem FBox.lt (h : FBox w q) : q < w.heap.size := (Array.getElem?_eq_some_iff.1 h).1
theorem FBox.keep (h : FBox w q) (hk : w'.heap[q]? = w.heap[q]?) : FBox w' q := hk.trans h
theorem FBox.below (h : FBox w q) (hb : Below w.heap.size w w') : FBox w' q := h.keep (hb.block _ h.lt)
theorem FBox.only {g : Nat} (h : FBox w q) (ho : Only g w w') (hne : q ≠ g) : FBox w' q := h.keep (ho.block _ h.lt (fun e => by injection e with e; exact hne e))
theorem FBox.cell (h : FBox w q) : w.cell? ⟨q, 0, none⟩ = some (.func (.func 55) #[] #[]) := cell_of_row w q 0 _ _ _ h
end
theorem pT1 (i : Nat) (w : World) (hi : i < 30) : Calls Try.prog 55 #[.int .i64 (i : Int)] w fun e w' => e = .returned (.tuple #[.int .i64 ((4 * (4 + 2 * i) : Nat) : Int), .int .i64 ((4 * (5 + 2 * i) : Nat) : Int)]) ∧ w' = w := by
  rw [show ((4 * (4 + 2 * i) : Nat) : Int) = 16 + 8 * (i : Int) by omega, show ((4 * (5 + 2 * i) : Nat) : Int) = 16 + 8 * (i : Int) + 4 by omega]
  have w1 : IntKind.i64.wrap (8 * (i : Int)) = 8 * (i : Int) := by rw [IntKind.wrap_i64]; omega
  have w2 : IntKind.i64.wrap (16 + 8 * (i : Int)) = 16 + 8 * (i : Int) := by rw [IntKind.wrap_i64]; omega
  have w3 : IntKind.i64.wrap (16 + 8 * (i : Int) + 4) = 16 + 8 * (i : Int) + 4 := by rw [IntKind.wrap_i64]; omega
  go_enter Try.func55, Try.ntmps55
  go_wp2
  go_ret2
  exact ⟨rfl, rfl⟩
theorem pT2 (t : TagV) (w : World) : Calls Try.prog 56 #[.agg (tcs t)] w fun e w' => e = .returned (.int .u32 ((t.1 : Nat) : Int)) ∧ Below w.heap.size w w' := by
  have T := Lib.hid (show (w.alloc (.cells (tcs t) 62)).cell? ⟨w.heap.size, 0, none⟩ = some (.int .u32 ((t.1 : Nat) : Int)) from cell_of_row _ _ 0 _ _ _ (heap_alloc_new w _))
  have B := Lib.hid (below_new w (.cells (tcs t) 62))
  go_enter Try.func56, Try.ntmps56
  go_upto_region 1 with fail
  generalize w.alloc (.cells (tcs t) 62) = w1 at T B ⊢
  have c := T.out
  go_wp2
  go_ret
  exact ⟨rfl, B.out⟩
/-- The five cells of the rows of numbers; the box p holds the block's pointer. -/
def trw (q p : Nat) : Array Value := #[.int .u8 1, .int .i64 30, .func (.func 56) #[] #[], .func (.func 57) #[] #[.pointer (some ⟨q, 0, none⟩), .pointer (some ⟨p, 0, none⟩)], .func (.func 58) #[] #[.pointer (some ⟨q, 0, none⟩), .pointer (some ⟨p, 0, none⟩)]]
def TRow (w : World) (r q p : Nat) : Prop := w.heap[r]? = some (.cells (trw q p) 94 (0, 0))
theorem trw_two : (Try.prog.info? 94).map (fun i => (i.zero, i.size)) = some (some (.agg rw0), 5) := by kernel_rfl
theorem trw_size5 : (Try.prog.info? 94).map (·.size) = some 5 := (zero_of_info trw_two).2
theorem zero_trw (w : World) : (zeroValue 94).run Try.prog w = .ok (.agg rw0) w := (zero_of_info trw_two).1 w
theorem trw_one (q p : Nat) : (trw q p).all (·.oneCell') = true := by unfold trw; simp [Value.oneCell']
theorem trw_built (q p : Nat) : Try.prog.built 94 [(0, .int .u8 1), (1, .int .i64 30), (2, .func (.func 56) #[] #[]), (3, .func (.func 57) #[] #[.pointer (some ⟨q, 0, none⟩), .pointer (some ⟨p, 0, none⟩)]), (4, .func (.func 58) #[] #[.pointer (some ⟨q, 0, none⟩), .pointer (some ⟨p, 0, none⟩)])] = some (trw q p) := by kernel_rfl
section
variable {w w' : World} {r q p : Nat}
theorem TRow.lt (h : TRow w r q p) : r < w.heap.size := (Array.getElem?_eq_some_iff.1 h).1
theorem TRow.keep (h : TRow w r q p) (hk : w'.heap[r]? = w.heap[r]?) : TRow w' r q p := hk.trans h
theorem TRow.below (h : TRow w r q p) (hb : Below w.heap.size w w') : TRow w' r q p := h.keep (hb.block _ h.lt)
theorem TRow.only {g : Nat} (h : TRow w r q p) (ho : Only g w w') (hne : r ≠ g) : TRow w' r q p := h.keep (ho.block _ h.lt (fun e => by injection e with e; exact hne e))
theorem TRow.c0 (h : TRow w r q p) : w.cell? ⟨r, 0, none⟩ = some (.int .u8 1) := cell_of_row w r 0 _ _ _ h
theorem TRow.c1 (h : TRow w r q p) : w.cell? ⟨r, 1, none⟩ = some (.int .i64 30) := cell_of_row w r 1 _ _ _ h
theorem TRow.c2 (h : TRow w r q p) : w.cell? ⟨r, 2, none⟩ = some (.func (.func 56) #[] #[]) := cell_of_row w r 2 _ _ _ h
theorem TRow.c3 (h : TRow w r q p) : w.cell? ⟨r, 3, none⟩ = some (.func (.func 57) #[] #[.pointer (some ⟨q, 0, none⟩), .pointer (some ⟨p, 0, none⟩)]) := cell_of_row w r 3 _ _ _ h
theorem TRow.c4 (h : TRow w r q p) : w.cell? ⟨r, 4, none⟩ = some (.func (.func 58) #[] #[.pointer (some ⟨q, 0, none⟩), .pointer (some ⟨p, 0, none⟩)]) := cell_of_row w r 4 _ _ _ h
end
theorem trow_set {w : World} {r q p : Nat} (h : w.heap[r]? = some (.cells rw0 94 (0, 0))) : TRow (w.setRow r (trw q p)) r q p := by
  unfold TRow World.setRow
  simp [Array.getElem?_modify, h]
section
variable {ops : Array Oper} {rest : List Oper} {op : Oper} {a : Act} {w : World} {Q : Exit → Act → World → Prop}
theorem store_trw (hgd : op.guard = none) (x y : Operand) (ho : op.op = .store 94 x y) (r q p : Nat) (hx : a.eval x = .pointer (some ⟨r, 0, none⟩)) (hy : a.eval y = .agg (trw q p)) (hb : w.heap[r]? = some (.cells rw0 94 (0, 0)))
    (h : wpList Try.prog ops Q rest (a.put op.dst undef) (w.setRow r (trw q p))) : wpList Try.prog ops Q (op :: rest) a w := by
  refine wpList_plain hgd fun _ hK => ?_
  unfold Oper.wp execOp
  have e := run_storeVar_row (P := Try.prog) w r 94 94 rw0 (trw q p) hb trw_size5 rfl (trw_one q p)
  simp only [ho, hx, hy, Instr.storeAt, Instr.sureAddr, Sem.run_bind, Sem.run_pure, Result.andThen_ok, e]
  exact hK _ _ h
theorem build_trw (hgd : op.guard = none) (y3 y4 : Operand) (ho : op.op = .build 94 #[(0, .const (.int .u8 1)), (1, .const (.int .i64 30)), (2, .func 56), (3, y3), (4, y4)]) (q p : Nat) (h3 : a.eval y3 = .func (.func 57) #[] #[.pointer (some ⟨q, 0, none⟩), .pointer (some ⟨p, 0, none⟩)]) (h4 : a.eval y4 = .func (.func 58) #[] #[.pointer (some ⟨q, 0, none⟩), .pointer (some ⟨p, 0, none⟩)])
    (h : wpList Try.prog ops Q rest (a.put op.dst (.agg (trw q p))) w) : wpList Try.prog ops Q (op :: rest) a w := by
  have e : Try.prog.built 94 ((#[(0, Operand.const (.int .u8 1)), (1, .const (.int .i64 30)), (2, .func 56), (3, y3), (4, y4)].map fun (q : Nat × Operand) => (q.1, a.eval q.2)).toList) = some (trw q p) := by
    have e2 : (#[(0, Operand.const (.int .u8 1)), (1, .const (.int .i64 30)), (2, .func 56), (3, y3), (4, y4)].map fun (q : Nat × Operand) => (q.1, a.eval q.2)).toList = [(0, .int .u8 1), (1, .int .i64 30), (2, .func (.func 56) #[] #[]), (3, a.eval y3), (4, a.eval y4)] := by
      simp only [List.map_toArray, List.map_cons, List.map_nil]
      rfl
    rw [e2, h3, h4]
    exact trw_built q p
  exact wpList_plain hgd fun _ hK => wp_build 94 _ ho (by rw [e]; rfl) (hK _ _ (by rw [e]; exact h))
end
theorem res_trw {fn : Func} {u : Tmp} (h : fn.results = #[.cell u 94]) (tmps : Array Value) (w : World) (r q p : Nat) (hp : tmps.getD u undef = .pointer (some ⟨r, 0, none⟩)) (hg : TRow w r q p) :
    (results fn tmps).run Try.prog w = .ok (.agg (trw q p)) w :=
  results_cell_row h tmps w r 94 (trw q p) (0, 0) _ hp hg Try.underlying94 rfl trw_size5
theorem quiet_build {o : Oper} {a : Act} {C : World → Prop} {K : Act → Prop} (t : TypeId) (parts : Array (Nat × Operand)) (ho : o.op = .build t parts) (cells : Array Value) (hc : Try.prog.built t (parts.map fun (i, x) => (i, a.eval x)).toList = some cells)
    (hk : K (a.put o.dst (.agg cells))) : o.quiet Try.prog a C K := by
  refine ⟨_, fun w hw => ?_, hk⟩
  unfold Oper.quietAt execOp
  simp only [ho, Sem.run_bind, run_build w t _ cells hc, Result.andThen_ok]
  exact ⟨rfl, by simp⟩
theorem quietJ_ptr {o : Oper} {a : Act} {C : World → Prop} {K : Act → Prop} (x : Operand) (ho : o.op = .load 80 x) (p : Addr) (hx : a.eval x = .pointer (some p)) (k : Option Addr) (hc : ∀ w, C w → w.cell? p = some (.pointer k))
    (hk : K (a.put o.dst (.pointer k))) : o.quiet Try.prog a C K := by
  refine ⟨_, fun w hw => ?_, hk⟩
  have h := hc w hw
  unfold Oper.quietAt execOp
  simp only [ho, hx]
  go_simp
  first | done | exact ⟨rfl, hw⟩ | exact hw
theorem res_tag {fn : Func} {u : Tmp} (h : fn.results = #[.cell u 62]) (tmps : Array Value) (w : World) (b : Nat) (t : TagV) (hp : tmps.getD u undef = .pointer (some ⟨b, 0, none⟩)) (hg : TVar w b t) :
    (results fn tmps).run Try.prog w = .ok (.agg (tcs t)) w :=
  results_cell_row h tmps w b 62 (tcs t) (0, 0) _ hp hg Try.underlying62 rfl tag_size2
set_option maxRecDepth 100000 in
set_option maxHeartbeats 4000000 in
theorem pT3 (q p b i : Nat) (X : Blk) (w : World) (hq : FBox w q) (hp : PBox w p b) (hV : BVar w b X) (hi : i < 30) : Calls Try.prog 57 #[.int .i64 (i : Int), .pointer (some ⟨q, 0, none⟩), .pointer (some ⟨p, 0, none⟩)] w fun e w' => e = .returned (.agg (tcs (tagAt X i))) ∧ Below w.heap.size w w' := by
  have hz := fun W => zero_tag W
  have B := Lib.hid (below_new w (.cells (tcs (0, false)) 62))
  have F := Lib.hid (hq.below B.out)
  have PB := Lib.hid (hp.below B.out)
  have V := Lib.hid (hV.below B.out)
  have T := Lib.hid (show TVar (w.alloc (.cells (tcs (0, false)) 62)) w.heap.size (0, false) from heap_alloc_new w _)
  have C1 := Lib.hid fun W => pT1 i W hi
  have CA := Lib.hid fun W (h : BVar W b X) => pNum b (4 + 2 * i) X W h (by omega)
  have CB := Lib.hid fun W (h : BVar W b X) => pNum b (5 + 2 * i) X W h (by omega)
  have bq : (((num X (5 + 2 * i) : Nat) : Int) == 1) = (num X (5 + 2 * i) == 1) := by rw [Bool.eq_iff_iff]; simp; omega
  have HT : Hid ((num X (4 + 2 * i), num X (5 + 2 * i) == 1) = tagAt X i) := Lib.hid rfl
  obtain ⟨x, hx⟩ : ∃ x, num X (4 + 2 * i) = x := ⟨_, rfl⟩
  obtain ⟨fl, hfl⟩ : ∃ fl, num X (5 + 2 * i) = fl := ⟨_, rfl⟩
  obtain ⟨eb, heb⟩ : ∃ eb, (fl == 1) = eb := ⟨_, rfl⟩
  rw [hx] at CA HT
  rw [hfl] at CB bq HT
  rw [heb] at bq HT
  obtain ⟨a1, ha1⟩ : ∃ a1 : Nat, 4 * (4 + 2 * i) = a1 := ⟨_, rfl⟩
  obtain ⟨a2, ha2⟩ : ∃ a2 : Nat, 4 * (5 + 2 * i) = a2 := ⟨_, rfl⟩
  simp only [ha1, ha2] at C1 CA CB
  clear hq hp hV hx hfl heb ha1 ha2 hi
  go_enter Try.func57, Try.ntmps57
  go_upto_region 1 with fail
  generalize w.alloc (.cells (tcs (0, false)) 62) = w1 at B F PB V T ⊢
  have c := F.out.cell
  clear hz
  go_upto_region 2 with (go_at_call 55; with_reducible refine (C1.out _).mono ?_; rintro e w2 ⟨rfl, rfl⟩)
  clear C1 c
  refine wp_region_class_tail (More w2) 8 (by kernel_rfl) (by kernel_rfl) (More.drew _) ?_
  simp only [List.take_succ_cons, List.take_zero, List.drop_succ_cons, List.drop_zero]
  repeat (first | go_big_quiet_skip | (go_big_quiet_want; first | (refine quietJ_ptr (.tmp 2) rfl ⟨p, 0, none⟩ rfl (some ⟨b, 0, none⟩) (by intro w' hw'; exact (PB.out.below hw').cell) ?_; simp only [Act.put, List.setIfInBounds_toArray, List.set_cons_zero, List.set_cons_succ]; go_big_quiet_on) | (refine quiet_build 62 #[(0, .tmp 15), (1, .tmp 19)] rfl (tcs (x, eb)) (tag_built2 x eb) ?_; simp only [Act.put, List.setIfInBounds_toArray, List.set_cons_zero, List.set_cons_succ]; go_big_quiet_on) | (go_big_quiet_op; first | go_big_quiet_on | (apply Exists.intro; refine ⟨fun _ _ => ?_, ?_⟩; (with_reducible exact rfl); go_big_quiet_on) | go_big_quiet_call ((intro hC; have hV := V.out.below hC; first | ((with_reducible refine (CA.out _ hV).mono ?_); exact fun e w' h => ⟨h.1, by rw [h.2]; exact hC⟩) | ((with_reducible refine (CB.out _ hV).mono ?_); exact fun e w' h => ⟨h.1, by rw [h.2]; exact hC⟩))))))
  refine wpQuiet_nil ?_
  intro w5 hw5
  have T5 := Lib.hid (show TVar w5 w.heap.size (0, false) from T.out.below hw5)
  have B5 := Lib.hid (low_go B.out hw5)
  clear hw5
  go_wp2_with (refine store_tagv rfl (.tmp 4) (.tmp 20) rfl w.heap.size (x, eb) (0, false) rfl rfl T5.out ?_)
  exact bodyPost_ret (res_tag Try.results57 _ _ w.heap.size (x, eb) rfl (T5.out.set (x, eb))) rfl ⟨by rw [HT.out], row_low B5.out (Nat.le_refl _) _⟩
theorem TVar.only {w w' : World} {b g : Nat} {t : TagV} (h : TVar w b t) (ho : Only g w w') (hne : b ≠ g) : TVar w' b t := (ho.block _ h.lt (fun e => by injection e with e; exact hne e)).trans h
/-- A tag written into a block. -/
def putT (X : Blk) (i : Nat) (t : TagV) : Blk := if t.2 then putB32 (putB32 X (4 * (4 + 2 * i)) t.1) (4 * (5 + 2 * i)) 1 else putB32 X (4 * (4 + 2 * i)) t.1
set_option maxHeartbeats 2000000 in
theorem pT4 (q p b i : Nat) (t : TagV) (X : Blk) (w : World) (hq : FBox w q) (hp : PBox w p b) (hV : BVar w b X) (hi : i < 30) (ht : t.1 < 4294967296) (hqb : q ≠ b) (hpb : p ≠ b) : Calls Try.prog 58 #[.int .i64 (i : Int), .agg (tcs t), .pointer (some ⟨q, 0, none⟩), .pointer (some ⟨p, 0, none⟩)] w fun e w' => e = .returned (.tuple #[]) ∧ BVar w' b (putT X i t) ∧ Only b w w' := by
  have B := Lib.hid (below_new w (.cells (tcs t) 62))
  have NB := Lib.hid (show w.heap.size ≠ b from fun e => by have := hV.lt; omega)
  have F := Lib.hid (hq.below B.out)
  have PB := Lib.hid (hp.below B.out)
  have V := Lib.hid (hV.below B.out)
  have T := Lib.hid (show TVar (w.alloc (.cells (tcs t) 62)) w.heap.size t from heap_alloc_new w _)
  have O := Lib.hid (Only.of_below (g := b) B.out)
  have C1 := Lib.hid fun W => pT1 i W hi
  have CA := Lib.hid fun W (h : BVar W b X) => pPutN b (4 + 2 * i) t.1 X W h (by omega) ht
  have CB := Lib.hid fun W Y (h : BVar W b Y) => pPutN b (5 + 2 * i) 1 Y W h (by omega) (by omega)
  have PT := Lib.hid (show putT X i t = if t.2 then putB32 (putB32 X (4 * (4 + 2 * i)) t.1) (4 * (5 + 2 * i)) 1 else putB32 X (4 * (4 + 2 * i)) t.1 from rfl)
  obtain ⟨n, eb⟩ := t
  generalize putT X i (n, eb) = Z at PT ⊢
  obtain ⟨a1, ha1⟩ : ∃ a1 : Nat, 4 * (4 + 2 * i) = a1 := ⟨_, rfl⟩
  obtain ⟨a2, ha2⟩ : ∃ a2 : Nat, 4 * (5 + 2 * i) = a2 := ⟨_, rfl⟩
  simp only [ha1, ha2] at C1 CA CB PT
  have HQB := Lib.hid hqb
  have HPB := Lib.hid hpb
  clear hq hp hV ha1 ha2 hi ht hqb hpb
  have CB' : Hid (∀ (W : World) (Y : Blk), BVar W b Y → Calls Try.prog 45 #[.pointer (some ⟨b, 0, none⟩), .int .i64 (a2 : Int), .int .u32 1] W fun e w' => e = .returned (.tuple #[]) ∧ BVar w' b (putB32 Y a2 1) ∧ Only b W w') := CB
  clear CB
  cases eb
  · rw [show (if (n, false).2 = true then putB32 (putB32 X a1 (n, false).1) a2 1 else putB32 X a1 (n, false).1) = putB32 X a1 n from rfl] at PT
    go_enter Try.func58, Try.ntmps58
    go_upto_region 1 with fail
    generalize w.alloc (.cells (tcs (n, false)) 62) = w1 at B F PB V T O ⊢
    have c := F.out.cell
    have cp := PB.out.cell
    have cn : w1.cell? ⟨w.heap.size, 0, none⟩ = some (.int .u32 (n : Int)) := T.out.at.blk
    have ce : w1.cell? ⟨w.heap.size, 1, none⟩ = some (.bool false) := T.out.at.esc
    go_upto_region 2 with (go_at_call 55; with_reducible refine (C1.out _).mono ?_; rintro e w2 ⟨rfl, rfl⟩)
    go_upto_region 3 with (go_at_call 45; with_reducible refine (CA.out _ V.out).mono ?_; rintro e w3 ⟨rfl, hv, ho⟩; have T3 := Lib.hid (T.out.only ho NB.out); clear c cp cn ce; have ce : w3.cell? ⟨w.heap.size, 1, none⟩ = some (.bool false) := T3.out.at.esc)
    go_wp2_with fail
    all_goals refine bodyPost_end (results_none rfl _ _ _) rfl ?_
    all_goals exact ⟨rfl, by rw [PT.out]; exact hv, O.out.trans ho⟩
  · rw [show (if (n, true).2 = true then putB32 (putB32 X a1 (n, true).1) a2 1 else putB32 X a1 (n, true).1) = putB32 (putB32 X a1 n) a2 1 from rfl] at PT
    go_enter Try.func58, Try.ntmps58
    go_upto_region 1 with fail
    generalize w.alloc (.cells (tcs (n, true)) 62) = w1 at B F PB V T O ⊢
    have c := F.out.cell
    have cp := PB.out.cell
    have cn : w1.cell? ⟨w.heap.size, 0, none⟩ = some (.int .u32 (n : Int)) := T.out.at.blk
    have ce : w1.cell? ⟨w.heap.size, 1, none⟩ = some (.bool true) := T.out.at.esc
    go_upto_region 2 with (go_at_call 55; with_reducible refine (C1.out _).mono ?_; rintro e w2 ⟨rfl, rfl⟩)
    go_upto_region 3 with (go_at_call 45; with_reducible refine (CA.out _ V.out).mono ?_; rintro e w3 ⟨rfl, hv, ho⟩; have T3 := Lib.hid (T.out.only ho NB.out); have P3 := Lib.hid (PB.out.only ho HPB.out); clear c cp cn ce; have ce : w3.cell? ⟨w.heap.size, 1, none⟩ = some (.bool true) := T3.out.at.esc; have cp := P3.out.cell)
    go_wp2_with (go_at_call 45; with_reducible refine (CB'.out _ _ hv).mono ?_; rintro e w4 ⟨rfl, hv4, ho4⟩)
    all_goals refine bodyPost_end (results_none rfl _ _ _) rfl ?_
    all_goals exact ⟨rfl, by rw [PT.out]; exact hv4, (O.out.trans ho).trans ho4⟩
set_option maxHeartbeats 1000000 in
theorem pTagsIn (b : Nat) (w : World) : Calls Try.prog 42 #[.pointer (some ⟨b, 0, none⟩)] w fun e w' => ∃ q p, e = .returned (.agg (trw q p)) ∧ w.heap.size ≤ q ∧ w.heap.size ≤ p ∧ FBox w' q ∧ PBox w' p b ∧ Below w.heap.size w w' := by
  have hz := fun W => zero_trw W
  have P := Lib.hid (show PBox ((w.alloc (.cells #[.pointer (some ⟨b, 0, none⟩)] 80)).alloc (.cells rw0 94)) w.heap.size b from PBox.below (heap_alloc_new w _) (below_new _ _))
  have R := Lib.hid (show ((w.alloc (.cells #[.pointer (some ⟨b, 0, none⟩)] 80)).alloc (.cells rw0 94)).heap[w.heap.size + 1]? = some (.cells rw0 94 (0, 0)) from heap_alloc2_new w _ _)
  have B := Lib.hid (show Below w.heap.size w ((w.alloc (.cells #[.pointer (some ⟨b, 0, none⟩)] 80)).alloc (.cells rw0 94)) from low_go (below_new w _) (below_new _ _))
  have hsf : ∀ (a : Addr) (m : Mode) (fn : Fn) (x y : Array Value) (W : World), (store a (.func fn x y) m).run Try.prog W = stored Try.prog W a (.func fn x y) m := fun a m fn x y W => run_store _ W a _ m rfl
  have hmf : ∀ (fn : Fn) (first cap : Array Value) (w : World), (Instr.makeFunc fn first cap).run Try.prog w = .ok (.func fn first cap) w := fun _ _ _ _ => rfl
  go_enter Try.func42, Try.ntmps42
  go_upto_region 1 with fail
  generalize (w.alloc (.cells #[.pointer (some ⟨b, 0, none⟩)] 80)).alloc (.cells rw0 94) = w1 at P R B ⊢
  clear hz
  go_upto_region 2 with fail
  have F2 := Lib.hid (show FBox (w1.alloc (.cells #[.func (.func 55) #[] #[]] 96)) w1.heap.size from heap_alloc_new w1 _)
  have LQ := Lib.hid B.out.size
  have NQ := Lib.hid (show w1.heap.size ≠ w.heap.size + 1 from fun e => by have := (Array.getElem?_eq_some_iff.1 R.out).1; omega)
  have L1 := below_new w1 (.cells #[.func (.func 55) #[] #[]] 96)
  have P2 := Lib.hid (P.out.below L1)
  have R2 := Lib.hid ((L1.block _ (Array.getElem?_eq_some_iff.1 R.out).1).trans R.out)
  have B2 := Lib.hid (low_go B.out L1)
  clear L1 P R B
  generalize w1.heap.size = q at F2 LQ NQ P2 R2 B2 ⊢
  generalize w1.alloc (.cells #[.func (.func 55) #[] #[]] 96) = w2 at F2 P2 R2 B2 ⊢
  go_wp2_with (first
    | (refine build_trw rfl (.tmp 4) (.tmp 5) rfl q w.heap.size rfl rfl ?_)
    | (refine store_trw rfl (.tmp 2) (.tmp 6) rfl (w.heap.size + 1) q w.heap.size rfl rfl R2.out ?_))
  exact bodyPost_ret (res_trw Try.results42 _ _ (w.heap.size + 1) q w.heap.size rfl (trow_set R2.out)) rfl ⟨q, w.heap.size, rfl, LQ.out, Nat.le_refl _, F2.out.keep (setRow_other _ _ _ _ (fun e => NQ.out e)), P2.out.keep (setRow_other _ _ _ _ (by omega)), row_low B2.out (by omega) _⟩
end Go.Proofs.Ytjiooadakklmlaa
