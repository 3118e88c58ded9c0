import Derived.Test.YtnneppkkmhjpbaaPaP1
import Derived.Laws.Tables
import Derived.Laws.CopyOwn
namespace Go.Proofs.Ytnneppkkmhjpbaa
open Go.RowKit Go.Shelf Go.BigFrame
attribute [local go_sem] Oper.semAt_some

/-! find: the pointer of a number. -/
theorem leave_mark {F : Fence} {n D : Nat} {P : Program} {fn : Func} {tmps : Array Value} {R : Ending → World → Prop} {W : World} {v : Value} (hD : W.heap[D]? = some (.deferred (some []))) (hr : (results fn tmps).run P (W.putObj D (.deferred none)) = .ok v (W.putObj D (.deferred none))) (h : R (.returned v) (W.putObj D (.deferred none))) :
    LeavesInM F n P fn tmps R [{ target := .collected D, args := #[] }] .returning W := by
  refine ⟨by simp, .inl ⟨_, _, rfl, run_takeDeferred hD, ?_⟩⟩
  exact ⟨v, hr, h⟩
theorem lay3 (w : World) (o0 o1 o2 : Obj) : (((w.alloc o0).alloc o1).alloc o2).heap[w.heap.size]? = some o0 ∧ (((w.alloc o0).alloc o1).alloc o2).heap[w.heap.size + 1]? = some o1 ∧ (((w.alloc o0).alloc o1).alloc o2).heap[w.heap.size + 2]? = some o2 ∧
    Below w.heap.size w (((w.alloc o0).alloc o1).alloc o2) ∧ (((w.alloc o0).alloc o1).alloc o2).heap.size = w.heap.size + 3 := by
  have n0 := heap_alloc_new w o0
  have n1 := heap_alloc_new (w.alloc o0) o1
  have n2 := heap_alloc_new ((w.alloc o0).alloc o1) o2
  rw [show (w.alloc o0).heap.size = w.heap.size + 1 by simp] at n1
  rw [show ((w.alloc o0).alloc o1).heap.size = w.heap.size + 2 by simp] at n2
  refine ⟨?_, ?_, n2, ((((Below.refl _ w).alloc (Nat.le_refl _) _).alloc (by simp) _).alloc (by simp; omega) _), by simp⟩
  · rw [heap_alloc_old _ _ (by simp; try omega), heap_alloc_old _ _ (by simp), n0]
  · rw [heap_alloc_old _ _ (by simp), n1]
theorem load_ptr_in {F : Fence} {n : Nat} {ops : Array Oper} {rest : List Oper} {op : Oper} {a : Act} {w : World} {Q : Exit → Act → World → Prop} (hgd : op.guard = none) (x : Operand) (ho : op.op = .load 42 x) (b : Nat) (hx : a.eval x = .pointer (some ⟨b, 0, none⟩)) (p : PtrV) (hc : w.heap[b]? = some (.cells (pcs p) 42 (0, 0)))
    (h : wpListIn F n Try.prog ops Q rest (a.put op.dst (.agg (pcs p))) w) : wpListIn F n Try.prog ops Q (op :: rest) a w := by
  refine wpListIn_plain hgd fun K hK => ?_
  have hat : w.rangeAt b 0 (pcs p).toList := fun i v hv => by
    rw [Nat.zero_add]; exact (cell_of_row w b i _ _ _ hc).trans (by simpa using hv)
  have hrun : (op.semAt F.round a.eval).run Try.prog w = .ok (.value (.agg (pcs p))) w := by
    rw [Oper.semAt_eq F.round a.eval op (fun c e => by rw [ho] at e; cases e)]
    unfold execOp
    have hl := run_loadAt_mid (P := Try.prog) w b 0 42 (pcs p).toList _ hat Try.underlying42 rfl (by rw [ptr_size p]; simp)
    simp only [ho, hx, hl, Sem.run_bind, Sem.run_pure, Result.andThen_ok]
  refine ⟨fun f hf => (by unfold Oper.about at hf; rw [ho] at hf; cases hf), ?_⟩
  rw [hrun]
  exact hK _ _ h
theorem store_ptr_in {F : Fence} {n : Nat} {ops : Array Oper} {rest : List Oper} {op : Oper} {a : Act} {w : World} {Q : Exit → Act → World → Prop} (hgd : op.guard = none) (x y : Operand) (ho : op.op = .store 42 x y) (b : Nat) (p q : PtrV) (hx : a.eval x = .pointer (some ⟨b, 0, none⟩)) (hy : a.eval y = .agg (pcs p)) (hc : w.heap[b]? = some (.cells (pcs q) 42 (0, 0)))
    (h : wpListIn F n Try.prog ops Q rest (a.put op.dst undef) (w.setRow b (pcs p))) : wpListIn F n Try.prog ops Q (op :: rest) a w := by
  refine wpListIn_plain hgd fun K hK => ?_
  have hrun : (op.semAt F.round a.eval).run Try.prog w = .ok .skip (w.setRow b (pcs p)) := by
    rw [Oper.semAt_eq F.round a.eval op (fun c e => by rw [ho] at e; cases e)]
    unfold execOp
    simp only [ho, hx, hy, Instr.storeAt, Instr.sureAddr, Sem.run_bind, Sem.run_pure, Result.andThen_ok, run_storeVar_row w b 42 42 (pcs q) (pcs p) hc (ptr_size p) rfl (pcs_one p)]
  refine ⟨fun f hf => (by unfold Oper.about at hf; rw [ho] at hf; cases hf), ?_⟩
  rw [hrun]
  exact hK _ _ h
theorem Kept.setRow {b0 s : Nat} (W : World) {b : Nat} (h1 : b ≠ b0) (h2 : b < s) (cs : Array Value) : Kept b0 s W (W.setRow b cs) :=
  ⟨by simp, fun k o hk ho => (setRow_other W b k cs (by rcases hk with rfl | hk <;> omega)).trans ho⟩
theorem below_setRowP {w0 w : World} {s g : Nat} (h : Below s w0 w) (hg : s ≤ g) (cs : Array Value) : Below s w0 (w.setRow g cs) := h.trans ⟨rfl, rfl, rfl, by simp, fun k hk => setRow_other w g k cs (by omega)⟩
/-- The cells of find's own: what is sought, and its answers. -/
structure FC (W : World) (bk bp bo : Nat) (n : Int) (p : PtrV) (b : Bool) : Prop where
  k : Boxed W bk 3 (.int .i64 n)
  p : W.heap[bp]? = some (.cells (pcs p) 42 (0, 0))
  o : Boxed W bo 4 (.bool b)
theorem FC.below {W W' : World} {s bk bp bo : Nat} {n : Int} {p : PtrV} {b : Bool} (h : FC W bk bp bo n p b) (hb : Below s W W') (h1 : bk < s) (h3 : bp < s) (h4 : bo < s) : FC W' bk bp bo n p b :=
  ⟨(hb.block _ h1).trans h.k, (hb.block _ h3).trans h.p, (hb.block _ h4).trans h.o⟩
theorem FC.put {W : World} {r bk bp bo : Nat} {n : Int} {p : PtrV} {b : Bool} (h : FC W bk bp bo n p b) (o : Obj) (h1 : bk ≠ r) (h3 : bp ≠ r) (h4 : bo ≠ r) : FC (W.putObj r o) bk bp bo n p b :=
  ⟨(World.putObj_heap_other h1).trans h.k, (World.putObj_heap_other h3).trans h.p, (World.putObj_heap_other h4).trans h.o⟩
theorem FC.done {W : World} {bk bp bo : Nat} {n : Int} {p : PtrV} {b : Bool} (h : FC W bk bp bo n p b) (q : PtrV) (b' : Bool) (h1 : bk < bp) (h3 : bp < bo) : FC ((W.setRow bp (pcs q)).setCell ⟨bo, 0, none⟩ (.bool b')) bk bp bo n q b' :=
  ⟨(Below.heap_setCell _ _ _ _ (by show bk ≠ bo; omega)).trans ((setRow_other W bp bk _ (by omega)).trans h.k), (Below.heap_setCell _ _ _ _ (by show bp ≠ bo; omega)).trans (setRow_heap W bp _ _ _ _ h.p), Boxed.set (.bool b') ((setRow_other W bp bo _ (by omega)).trans h.o)⟩
def Found (n : Int) (p : PtrV) (b : Bool) : Prop :=
  (b = true ∧ ∃ k : Nat, k < 11 ∧ (k : Int) = n ∧ ptrN k = p) ∨ (b = false ∧ p = zeroP ∧ ¬ (0 ≤ n ∧ n < 11))
theorem results_find {W : World} {D bk bp bo : Nat} {n : Int} {p : PtrV} {b : Bool} {tmps : Array Value} (h : FC W bk bp bo n p b) (h1 : bp ≠ D) (h2 : bo ≠ D) (ht1 : tmps[2]?.getD undef = .pointer (some ⟨bp, 0, none⟩) := by rfl) (ht2 : tmps[3]?.getD undef = .pointer (some ⟨bo, 0, none⟩) := by rfl) :
    (results Try.f31 tmps).run Try.prog (W.putObj D (.deferred none)) = .ok (.tuple #[.agg (pcs p), .bool b]) (W.putObj D (.deferred none)) := by
  have hp : (W.putObj D (.deferred none)).heap[bp]? = some (.cells (pcs p) 42 (0, 0)) := (World.putObj_heap_other h1).trans h.p
  have ho : Boxed (W.putObj D (.deferred none)) bo 4 (.bool b) := (World.putObj_heap_other h2).trans h.o
  have hc := ho.cell
  obtain ⟨k1, k2, k3, k4⟩ := p
  generalize W.putObj D (.deferred none) = W2 at hp hc ⊢
  have e0 : W2.cell? ⟨bp, 0, none⟩ = some (.int .i64 k1) := (cell_of_row W2 bp 0 _ _ _ hp).trans rfl
  have e1 : W2.cell? ⟨bp, 1, none⟩ = some (.int .i64 k2) := (cell_of_row W2 bp 1 _ _ _ hp).trans rfl
  have e2 : W2.cell? ⟨bp, 2, none⟩ = some (.int .i64 k3) := (cell_of_row W2 bp 2 _ _ _ hp).trans rfl
  have e3 : W2.cell? ⟨bp, 3, none⟩ = some (.int .i64 k4) := (cell_of_row W2 bp 3 _ _ _ hp).trans rfl
  simp [results, Try.f31, ht1, ht2, go_sem, e0, e1, e2, e3, hc, pcs]
set_option maxRecDepth 100000 in
set_option maxHeartbeats 2000000 in
theorem find_in (F : Fence) (m : Nat) (hW : F = Fence.wide) (hF : ∀ f, F.fn f) (hro : F.round = none) (hm : 6 ≤ m) (n : Int) (w : World) :
    CallsIn F m Try.prog 31 #[.int .i64 n] w fun e w' => ∃ p b, e = .returned (.tuple #[.agg (pcs p), .bool b]) ∧ Found n p b ∧ Below w.heap.size w w' := by
  have hm1 : 1 ≤ m := by omega
  have IT : Hid (∀ W b0 m, IterSays F m Try.prog 30 #[] 11 (fun k => #[.agg (pcs (ptrN k))]) b0 W) := Lib.hid fun W b0 m => by subst hW; exact ptr_iter W b0 m
  have HF := Lib.hid hF
  clear hW
  obtain ⟨l0, l1, l2, lb, ls⟩ := lay3 w (.cells #[.int .i64 n] 3) (.cells (pcs zeroP) 42) (.cells #[.bool false] 4)
  refine callsIn_of_wp_marks Try.func31 rfl (hF _) ?_ hro
  simp only [Try.ntmps31, List.size_toArray, List.length_cons, List.length_nil, Nat.reduceAdd, Nat.reduceSub, Array.replicate_succ, Array.replicate_zero, List.push_toArray, List.append_toArray, List.nil_append, List.cons_append]
  gi_wp2_with fail
  rw [show pcs zeroP = #[.int .i64 0, .int .i64 0, .int .i64 0, .int .i64 0] from rfl] at l0 l1 l2 lb ls
  generalize ((w.alloc (.cells #[.int .i64 n] 3)).alloc (.cells #[.int .i64 0, .int .i64 0, .int .i64 0, .int .i64 0] 42)).alloc (.cells #[.bool false] 4) = w2 at l0 l1 l2 lb ls ⊢
  obtain ⟨bk, hbk⟩ : ∃ bn, w.heap.size = bn := ⟨_, rfl⟩
  obtain ⟨bp, hbp⟩ : ∃ bn, bk + 1 = bn := ⟨_, rfl⟩
  obtain ⟨bo, hbo⟩ : ∃ bn, bp + 1 = bn := ⟨_, rfl⟩
  have C2 : Hid (FC w2 bk bp bo n zeroP false) := Lib.hid ⟨by subst hbk; exact l0, by subst hbk hbp; exact l1, by subst hbk hbp hbo; exact l2⟩
  have B2 : Hid (Below bk w w2) := Lib.hid (by rw [← hbk]; exact lb)
  have HBK := Lib.hid hbk
  have Z : Hid (bk < bp ∧ bp < bo ∧ bo < w2.heap.size) := Lib.hid ⟨by omega, by omega, by rw [ls]; omega⟩
  rw [hbk, hbp, hbo]
  clear l0 l1 l2 lb ls hbk hbp hbo
  refine wpIn_range_iterX hro hm1 (gf := 30) (lb := #[]) rfl (hF _) (enters_of Try.func30 (by kernel_rfl) rfl)
    (IT.out w2 bk _) (by have := Z.out; omega) (Below.refl _ _) (fun _ => rfl)
    (fun k W => FC W bk bp bo n zeroP false ∧ Below bk w W ∧ ∀ j : Nat, j < k → (j : Int) ≠ n)
    (fun c k W => c = .ret ∧ FC W bk bp bo n (ptrN k) true ∧ Below bk w W ∧ (k : Int) = n)
    (fun k A B h hb => ⟨h.1.below hb (by have := Z.out; omega) (by have := Z.out; omega) (by have := Z.out; omega), h.2.1.trans (hb.mono (by have := Z.out; omega)), h.2.2⟩)
    (fun c k A B h hb => ⟨h.1, h.2.1.below hb (by have := Z.out; omega) (by have := Z.out; omega) (by have := Z.out; omega), h.2.2.1.trans (hb.mono (by have := Z.out; omega)), h.2.2.2⟩)
    ⟨C2.out, B2.out, fun j hj => by omega⟩
    (fun k a W => ∃ bx, w2.heap.size + 2 ≤ bx ∧ W.heap[bx]? = some (.cells (pcs (ptrN k)) 42 (0, 0)) ∧ a = { tmps := #[.int .i64 n, .pointer (some ⟨bk, 0, none⟩), .pointer (some ⟨bp, 0, none⟩), .pointer (some ⟨bo, 0, none⟩), .pointer (some ⟨bx, 0, none⟩), .agg (pcs (ptrN k)), undef, undef, undef, undef, undef, undef], defers := [] } ∧ FC W bk bp bo n zeroP false ∧ Below bk w W ∧ ∀ j : Nat, j < k → (j : Int) ≠ n)
    (fun k a W o ⟨bx, h1, h2, h3, h4, h5, h6⟩ => ⟨bx, h1, (World.putObj_heap_other (by omega)).trans h2, h3, h4.put o (by have := Z.out; omega) (by have := Z.out; omega) (by have := Z.out; omega), h5.trans (below_putObj W (by have := Z.out; omega) o), h6⟩) ?assign ?body ?done ?stop
  case assign =>
    rintro l k W K hk hsz ⟨hn, hB, hno⟩ hK
    have hb := below_newI W (.cells (pcs (ptrN k)) 42)
    have HK := Lib.hid (hK _ _ ⟨W.heap.size, hsz, heap_alloc_new W _, rfl, hn.below hb hn.k.lt (Array.getElem?_eq_some_iff.1 hn.p).1 hn.o.lt, hB.trans (hb.mono (by have := Z.out; omega)), hno⟩ hb)
    clear hK hn hB hno hb
    generalize ptrN k = p at HK ⊢
    obtain ⟨nm, lv, fs, sp⟩ := p
    unfold pcs at HK ⊢
    gi_wp2
    exact HK.out
  case body =>
    rintro l k a W hk ⟨bx, hbx, hp, rfl, hn, hB, hno⟩
    have HN := Lib.hid hn
    have HB := Lib.hid hB
    have HP := Lib.hid hp
    have HNO := Lib.hid hno
    have c1 := hn.k.cell
    have c3 := hn.o.cell
    have f3 := hn.o.frozen
    have cx : W.cell? ⟨bx, 0, none⟩ = some (.int .i64 k) := (cell_of_row W bx 0 _ _ _ hp).trans rfl
    clear hk hn hB hp hno
    by_cases h1 : (k : Int) = n
    · have t1 : ((k : Int) == n) = true := by simp [h1]
      have HH := Lib.hid h1
      have LB := Lib.hid (Array.getElem?_eq_some_iff.1 HN.out.p).1
      have NB : bo ≠ bp := by have := Z.out; omega
      have c4 : (W.setRow bp (pcs (ptrN k))).cell? ⟨bo, 0, none⟩ = some (.bool false) := (cell_setRow_other W bp _ _ NB).trans c3
      have f4 : (W.setRow bp (pcs (ptrN k))).frozen? ⟨bo, 0, none⟩ = false := by rw [World.frozen?_of_block (w := W) (setRow_other W bp bo _ NB)]; exact f3
      clear h1
      gi_wp2_with (first | (refine load_ptr_in rfl (.tmp 4) rfl bx rfl (ptrN k) HP.out ?_) | (refine store_ptr_in rfl (.tmp 2) (.tmp 10) rfl bp (ptrN k) zeroP rfl rfl HN.out.p ?_))
      exact ⟨(Kept.setRow W (by have := Z.out; omega) (by have := Z.out; omega) _).trans (Kept.setCell _ (by have := Z.out; show bo ≠ bk; omega) (by have := Z.out; show bo < w2.heap.size; omega) _), rfl, HN.out.done _ _ (by have := Z.out; omega) (by have := Z.out; omega), (below_setRowP HB.out (by have := Z.out; omega) _).setCell (p := ⟨bo, 0, none⟩) (by have := Z.out; show bk ≤ bo; omega) _, HH.out⟩
    · have t1 : ((k : Int) == n) = false := by simp [h1]
      have HH := Lib.hid h1
      clear h1
      gi_wp2
      exact ⟨Kept.refl _ _ _, HN.out, HB.out, fun j hj => by
        rcases Nat.lt_or_ge j k with u | u
        · exact HNO.out j u
        · obtain rfl : j = k := by omega
          exact HH.out⟩
  case done =>
    rintro D W hD ⟨hn, hB, hno⟩ hK
    have HN := Lib.hid hn
    have HB := Lib.hid hB
    have HK := Lib.hid hK
    have HD := Lib.hid hD
    have HNO := Lib.hid hno
    have LB := Lib.hid (Array.getElem?_eq_some_iff.1 hn.p).1
    have NB : bo ≠ bp := by have := Z.out; omega
    have c4 : (W.setRow bp (pcs zeroP)).cell? ⟨bo, 0, none⟩ = some (.bool false) := (cell_setRow_other W bp _ _ NB).trans hn.o.cell
    have f4 : (W.setRow bp (pcs zeroP)).frozen? ⟨bo, 0, none⟩ = false := by rw [World.frozen?_of_block (w := W) (setRow_other W bp bo _ NB)]; exact hn.o.frozen
    clear hn hB hK hD hno
    gi_wp2_with (refine store_ptr_in rfl (.tmp 2) (.tmp 11) rfl bp zeroP zeroP rfl rfl HN.out.p ?_)
    have hd := HN.out.done zeroP false (by have := Z.out; omega) (by have := Z.out; omega)
    have hb := (below_setRowP HB.out (g := bp) (by have := Z.out; omega) (pcs zeroP)).setCell (p := ⟨bo, 0, none⟩) (by have := Z.out; show bk ≤ bo; omega) (.bool false)
    have hk : ((W.setRow bp (pcs zeroP)).setCell ⟨bo, 0, none⟩ (.bool false)).heap[D]? = some (.deferred (some [])) := (Below.heap_setCell _ _ _ _ (by have := Z.out; have := HD.out; show D ≠ bo; omega)).trans ((setRow_other W bp D _ (by have := Z.out; have := HD.out; omega)).trans HK.out)
    generalize (W.setRow bp (pcs zeroP)).setCell ⟨bo, 0, none⟩ (.bool false) = W3 at hd hb hk ⊢
    refine leave_mark hk ?_ ⟨zeroP, false, rfl, .inr ⟨rfl, rfl, fun z => HNO.out n.toNat (by omega) (by omega)⟩, by rw [HBK.out]; exact hb.trans (below_putObj W3 (by have := HD.out; have := Z.out; omega) _)⟩
    exact results_find hd (by have := Z.out; have := HD.out; omega) (by have := Z.out; have := HD.out; omega)
  case stop =>
    rintro D k c W hD hk ⟨rfl, hn, hB, h1⟩ hK
    have HN := Lib.hid hn
    have HB := Lib.hid hB
    have HK := Lib.hid hK
    have HD := Lib.hid hD
    have HH := Lib.hid h1
    clear hn hB hK hD h1
    gi_wp2
    refine leave_mark HK.out ?_ ⟨ptrN k, true, rfl, .inl ⟨rfl, k, hk, HH.out, rfl⟩, HB.out.trans (below_putObj W (by have := HD.out; have := Z.out; omega) _)⟩
    exact results_find HN.out (by have := Z.out; have := HD.out; omega) (by have := Z.out; have := HD.out; omega)
theorem pFind (n : Int) (w : World) : Calls Try.prog 31 #[.int .i64 n] w fun e w' => ∃ p b, e = .returned (.tuple #[.agg (pcs p), .bool b]) ∧ Found n p b ∧ Below w.heap.size w w' :=
  callsIn_wide.1 (find_in Fence.wide 6 rfl (fun _ => trivial) rfl (Nat.le_refl _) n w)
end Go.Proofs.Ytnneppkkmhjpbaa
