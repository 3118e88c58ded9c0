import Derived.Test.YtmlmpflfejbbcaaDoorGeoPa
import Derived.Laws.Tables
import Derived.Laws.CopyOwn
import Derived.Test.YtmlmpflfejbbcaaDoorBaseS
import Derived.Test.YtmlmpflfejbbcaaDoorBaseG
namespace Go.Proofs.YtmlmpflfejbbcaaDoor
open Go.RowKit Go.Shelf Go.BigFrame
attribute [local go_sem] Oper.semAt_some

/-! find: the first part of a kind and a group. -/
def zeroP : PartV := ⟨0, 0, 0, 0, 0⟩
theorem part_size4 : (Tryd.prog.info? 95).map (·.size) = some 5 := by kernel_rfl
theorem part_size (p : PartV) : (Tryd.prog.info? 95).map (·.size) = some (pcs p).size := by rw [part_size4]; rfl
theorem pcs_one (p : PartV) : (pcs p).all (·.oneCell') = true := by
  simp [pcs, Value.oneCell']
theorem lay5 (w : World) (o0 o1 o2 o3 o4 : Obj) : (((((w.alloc o0).alloc o1).alloc o2).alloc o3).alloc o4).heap[w.heap.size]? = some o0 ∧ (((((w.alloc o0).alloc o1).alloc o2).alloc o3).alloc o4).heap[w.heap.size + 1]? = some o1 ∧ (((((w.alloc o0).alloc o1).alloc o2).alloc o3).alloc o4).heap[w.heap.size + 2]? = some o2 ∧
    (((((w.alloc o0).alloc o1).alloc o2).alloc o3).alloc o4).heap[w.heap.size + 3]? = some o3 ∧ (((((w.alloc o0).alloc o1).alloc o2).alloc o3).alloc o4).heap[w.heap.size + 4]? = some o4 ∧ Below w.heap.size w (((((w.alloc o0).alloc o1).alloc o2).alloc o3).alloc o4) ∧ (((((w.alloc o0).alloc o1).alloc o2).alloc o3).alloc o4).heap.size = w.heap.size + 5 := by
  have n0 := heap_alloc_new w o0
  have n1 := heap_alloc_new (w.alloc o0) o1
  have n2 := heap_alloc_new ((w.alloc o0).alloc o1) o2
  have n3 := heap_alloc_new (((w.alloc o0).alloc o1).alloc o2) o3
  have n4 := heap_alloc_new ((((w.alloc o0).alloc o1).alloc o2).alloc o3) o4
  rw [show (w.alloc o0).heap.size = w.heap.size + 1 by simp] at n1
  rw [show ((w.alloc o0).alloc o1).heap.size = w.heap.size + 2 by simp] at n2
  rw [show (((w.alloc o0).alloc o1).alloc o2).heap.size = w.heap.size + 3 by simp] at n3
  rw [show ((((w.alloc o0).alloc o1).alloc o2).alloc o3).heap.size = w.heap.size + 4 by simp] at n4
  refine ⟨?_, ?_, ?_, ?_, n4, (((((Below.refl _ w).alloc (Nat.le_refl _) _).alloc (by simp) _).alloc (by simp; omega) _).alloc (by simp; omega) _).alloc (by simp; omega) _, by simp⟩
  · rw [heap_alloc_old _ _ (by simp; try omega), heap_alloc_old _ _ (by simp; try omega), heap_alloc_old _ _ (by simp; try omega), heap_alloc_old _ _ (by simp), n0]
  · rw [heap_alloc_old _ _ (by simp; try omega), heap_alloc_old _ _ (by simp; try omega), heap_alloc_old _ _ (by simp), n1]
  · rw [heap_alloc_old _ _ (by simp; try omega), heap_alloc_old _ _ (by simp), n2]
  · rw [heap_alloc_old _ _ (by simp), n3]
theorem load_part_in {F : Fence} {n : Nat} {ops : Array Oper} {rest : List Oper} {op : Oper} {a : Act} {w : World} {Q : Exit → Act → World → Prop} (hgd : op.guard = none) (x : Operand) (ho : op.op = .load 95 x) (b : Nat) (hx : a.eval x = .pointer (some ⟨b, 0, none⟩)) (p : PartV) (hc : w.heap[b]? = some (.cells (pcs p) 95 (0, 0)))
    (h : wpListIn F n Tryd.prog ops Q rest (a.put op.dst (.agg (pcs p))) w) : wpListIn F n Tryd.prog ops Q (op :: rest) a w := by
  refine wpListIn_plain hgd fun K hK => ?_
  have hat : w.rangeAt b 0 (pcs p).toList := fun i v hv => by
    rw [Nat.zero_add]; exact (cell_of_row w b i _ _ _ hc).trans (by simpa using hv)
  have hrun : (op.semAt F.round a.eval).run Tryd.prog w = .ok (.value (.agg (pcs p))) w := by
    rw [Oper.semAt_eq F.round a.eval op (fun c e => by rw [ho] at e; cases e)]
    unfold execOp
    have hl := run_loadAt_mid (P := Tryd.prog) w b 0 95 (pcs p).toList _ hat Tryd.underlying95 rfl (by rw [part_size p]; simp)
    simp only [ho, hx, hl, Sem.run_bind, Sem.run_pure, Result.andThen_ok]
  refine ⟨fun f hf => (by unfold Oper.about at hf; rw [ho] at hf; cases hf), ?_⟩
  rw [hrun]
  exact hK _ _ h
theorem store_part_in {F : Fence} {n : Nat} {ops : Array Oper} {rest : List Oper} {op : Oper} {a : Act} {w : World} {Q : Exit → Act → World → Prop} (hgd : op.guard = none) (x y : Operand) (ho : op.op = .store 95 x y) (b : Nat) (p q : PartV) (hx : a.eval x = .pointer (some ⟨b, 0, none⟩)) (hy : a.eval y = .agg (pcs p)) (hc : w.heap[b]? = some (.cells (pcs q) 95 (0, 0)))
    (h : wpListIn F n Tryd.prog ops Q rest (a.put op.dst undef) (w.setRow b (pcs p))) : wpListIn F n Tryd.prog ops Q (op :: rest) a w := by
  refine wpListIn_plain hgd fun K hK => ?_
  have hrun : (op.semAt F.round a.eval).run Tryd.prog w = .ok .skip (w.setRow b (pcs p)) := by
    rw [Oper.semAt_eq F.round a.eval op (fun c e => by rw [ho] at e; cases e)]
    unfold execOp
    simp only [ho, hx, hy, Instr.storeAt, Instr.sureAddr, Sem.run_bind, Sem.run_pure, Result.andThen_ok, run_storeVar_row w b 95 95 (pcs q) (pcs p) hc (part_size p) rfl (pcs_one p)]
  refine ⟨fun f hf => (by unfold Oper.about at hf; rw [ho] at hf; cases hf), ?_⟩
  rw [hrun]
  exact hK _ _ h
theorem Kept.setRow {b0 s : Nat} (W : World) {b : Nat} (h1 : b ≠ b0) (h2 : b < s) (cs : Array Value) : Kept b0 s W (W.setRow b cs) :=
  ⟨by simp, fun k o hk ho => (setRow_other W b k cs (by rcases hk with rfl | hk <;> omega)).trans ho⟩

/-- The cells of find's own: what is sought, and its answers. -/
structure FC (W : World) (bk bg bp bo : Nat) (kd gp : Int) (p : PartV) (b : Bool) : Prop where
  k : Boxed W bk 5 (.int .u8 kd)
  g : Boxed W bg 3 (.int .i64 gp)
  p : W.heap[bp]? = some (.cells (pcs p) 95 (0, 0))
  o : Boxed W bo 4 (.bool b)
theorem FC.below {W W' : World} {s bk bg bp bo : Nat} {kd gp : Int} {p : PartV} {b : Bool} (h : FC W bk bg bp bo kd gp p b) (hb : Below s W W') (h1 : bk < s) (h2 : bg < s) (h3 : bp < s) (h4 : bo < s) : FC W' bk bg bp bo kd gp p b :=
  ⟨(hb.block _ h1).trans h.k, (hb.block _ h2).trans h.g, (hb.block _ h3).trans h.p, (hb.block _ h4).trans h.o⟩
theorem FC.put {W : World} {r bk bg bp bo : Nat} {kd gp : Int} {p : PartV} {b : Bool} (h : FC W bk bg bp bo kd gp p b) (o : Obj) (h1 : bk ≠ r) (h2 : bg ≠ r) (h3 : bp ≠ r) (h4 : bo ≠ r) : FC (W.putObj r o) bk bg bp bo kd gp p b :=
  ⟨(World.putObj_heap_other h1).trans h.k, (World.putObj_heap_other h2).trans h.g, (World.putObj_heap_other h3).trans h.p, (World.putObj_heap_other h4).trans h.o⟩
theorem FC.done {W : World} {bk bg bp bo : Nat} {kd gp : Int} {p : PartV} {b : Bool} (h : FC W bk bg bp bo kd gp p b) (q : PartV) (b' : Bool) (h1 : bk < bp) (h2 : bg < bp) (h3 : bp < bo) : FC ((W.setRow bp (pcs q)).setCell ⟨bo, 0, none⟩ (.bool b')) bk bg bp bo kd gp q b' :=
  ⟨(Below.heap_setCell _ _ _ _ (by show bk ≠ bo; omega)).trans ((setRow_other W bp bk _ (by omega)).trans h.k), (Below.heap_setCell _ _ _ _ (by show bg ≠ bo; omega)).trans ((setRow_other W bp bg _ (by omega)).trans h.g), (Below.heap_setCell _ _ _ _ (by show bp ≠ bo; omega)).trans (setRow_heap W bp _ _ _ _ h.p), Boxed.set (.bool b') ((setRow_other W bp bo _ (by omega)).trans h.o)⟩
def Found (g : GeoV) (kd gp : Int) (p : PartV) (b : Bool) : Prop :=
  (b = true ∧ ∃ k, k < numG g ∧ partG g k = p ∧ p.kind = kd ∧ p.grp = gp) ∨ (b = false ∧ p = zeroP ∧ ∀ k, k < numG g → ¬ ((partG g k).kind = kd ∧ (partG g k).grp = gp))

theorem results_find {W : World} {D bk bg bp bo : Nat} {kd gp : Int} {p : PartV} {b : Bool} {tmps : Array Value} (h : FC W bk bg bp bo kd gp p b) (h1 : bp ≠ D) (h2 : bo ≠ D) (ht1 : tmps[6]?.getD undef = .pointer (some ⟨bp, 0, none⟩) := by rfl) (ht2 : tmps[7]?.getD undef = .pointer (some ⟨bo, 0, none⟩) := by rfl) :
    (results Tryd.f59 tmps).run Tryd.prog (W.putObj D (.deferred none)) = .ok (.tuple #[.agg (pcs p), .bool b]) (W.putObj D (.deferred none)) := by
  have hp : (W.putObj D (.deferred none)).heap[bp]? = some (.cells (pcs p) 95 (0, 0)) := (World.putObj_heap_other h1).trans h.p
  have ho : Boxed (W.putObj D (.deferred none)) bo 4 (.bool b) := (World.putObj_heap_other h2).trans h.o
  have hc := ho.cell
  obtain ⟨k1, k2, k3, k4, k5⟩ := p
  generalize W.putObj D (.deferred none) = W2 at hp hc ⊢
  have e0 : W2.cell? ⟨bp, 0, none⟩ = some (.int .u8 k1) := (cell_of_row W2 bp 0 _ _ _ hp).trans rfl
  have e1 : W2.cell? ⟨bp, 1, none⟩ = some (.int .i64 k2) := (cell_of_row W2 bp 1 _ _ _ hp).trans rfl
  have e2 : W2.cell? ⟨bp, 2, none⟩ = some (.int .i64 k3) := (cell_of_row W2 bp 2 _ _ _ hp).trans rfl
  have e3 : W2.cell? ⟨bp, 3, none⟩ = some (.int .i64 k4) := (cell_of_row W2 bp 3 _ _ _ hp).trans rfl
  have e4 : W2.cell? ⟨bp, 4, none⟩ = some (.int .i64 k5) := (cell_of_row W2 bp 4 _ _ _ hp).trans rfl
  simp [results, Tryd.f59, ht1, ht2, go_sem, e0, e1, e2, e3, e4, hc, pcs]
set_option maxRecDepth 100000 in
set_option maxHeartbeats 2000000 in
theorem find_in (F : Fence) (m : Nat) (hW : F = Fence.wide) (hF : ∀ f, F.fn f) (hro : F.round = none) (hm : 6 ≤ m) (g : GeoV) (kd gp : Int) (hg : g.Fits) (w : World) :
    CallsIn F m Tryd.prog 59 #[.agg (gcs g), .int .u8 kd, .int .i64 gp] w fun e w' => ∃ p b, e = .returned (.tuple #[.agg (pcs p), .bool b]) ∧ Found g kd gp p b ∧ Below w.heap.size w w' := by
  have hm1 : 1 ≤ m := by omega
  have lift : Hid (∀ n f args W R, Calls Tryd.prog f args W R → CallsIn F n Tryd.prog f args W R) := Lib.hid fun _ _ _ _ _ h => by subst hW; exact callsIn_wide.2 h
  have IT : Hid (∀ W b0 m, GVar W b0 g → IterSays F m Tryd.prog 64 #[.pointer (some ⟨b0, 0, none⟩)] (numG g) (fun k => #[.agg (pcs (partG g k))]) b0 W) := Lib.hid fun W b0 m V => by subst hW; exact parts_iter g hg W b0 m V
  have HF := Lib.hid hF
  clear hW
  obtain ⟨l0, l1, l2, l3, l4, lb, ls⟩ := lay5 w (.cells (gcs g) 23) (.cells #[.int .u8 kd] 5) (.cells #[.int .i64 gp] 3) (.cells (pcs zeroP) 95) (.cells #[.bool false] 4)
  obtain ⟨w1, hw1⟩ : ∃ w1, ((((w.alloc (.cells (gcs g) 23)).alloc (.cells #[.int .u8 kd] 5)).alloc (.cells #[.int .i64 gp] 3)).alloc (.cells (pcs zeroP) 95)).alloc (.cells #[.bool false] 4) = w1 := ⟨_, rfl⟩
  rw [hw1] at l0 l1 l2 l3 l4 lb ls
  have V1 : Hid (GVar w1 w.heap.size g) := Lib.hid l0
  have C1 : Hid (FC w1 (w.heap.size + 1) (w.heap.size + 2) (w.heap.size + 3) (w.heap.size + 4) kd gp zeroP false) := Lib.hid ⟨l1, l2, l3, l4⟩
  have B1 := Lib.hid lb
  have S1 := Lib.hid ls
  clear l0 l1 l2 l3 l4 lb ls
  refine callsIn_of_wp_marks Tryd.func59 rfl (hF _) ?_ hro
  simp only [Tryd.ntmps59, List.size_toArray, List.length_cons, List.length_nil, Nat.reduceAdd, Nat.reduceSub, Array.replicate_succ, Array.replicate_zero, List.push_toArray, List.append_toArray, List.nil_append, List.cons_append]
  gi_wp2_with (first | (refine load_geo_in rfl (.tmp 3) rfl w.heap.size 0 rfl g (by first | exact hw1 ▸ V1.out.at | fail) ?_) | (gi_at_call 56; refine (lift.out _ _ _ _ _ (parts_box g _)).mono ?_; rintro e w2 ⟨b0, rfl, hb2, hv2, hz2⟩))
  have hb3 : Below w1.heap.size w1 w2 := by rw [← hw1]; exact hb2
  have hz3 : w1.heap.size ≤ b0 := by rw [← hw1]; exact hz2
  clear hb2 hz2 hw1
  rw [S1.out] at hz3
  have V2 := Lib.hid hv2
  have B2 := Lib.hid (B1.out.trans (hb3.mono B1.out.size))
  obtain ⟨bk, hbk⟩ : ∃ bn, w.heap.size + 1 = bn := ⟨_, rfl⟩
  obtain ⟨bg, hbg⟩ : ∃ bn, bk + 1 = bn := ⟨_, rfl⟩
  obtain ⟨bp, hbp⟩ : ∃ bn, bg + 1 = bn := ⟨_, rfl⟩
  obtain ⟨bo, hbo⟩ : ∃ bn, bp + 1 = bn := ⟨_, rfl⟩
  have C2 : Hid (FC w2 bk bg bp bo kd gp zeroP false) := Lib.hid (by
    have := C1.out.below hb3 (by rw [S1.out]; omega) (by rw [S1.out]; omega) (by rw [S1.out]; omega) (by rw [S1.out]; omega)
    rwa [show w.heap.size + 4 = bo by omega, show w.heap.size + 3 = bp by omega, show w.heap.size + 2 = bg by omega, show w.heap.size + 1 = bk by omega] at this)
  have Z : Hid (w.heap.size < bk ∧ bk < bg ∧ bg < bp ∧ bp < bo ∧ bo < b0 ∧ b0 < w2.heap.size) := Lib.hid ⟨by omega, by omega, by omega, by omega, by omega, V2.out.lt⟩
  rw [hbk, hbg, hbp, hbo]
  clear hv2 hz3 hb3 hbk hbg hbp hbo V1 B1 C1 S1
  refine wpIn_range_iter hro hm1 (gf := 64) (lb := #[.pointer (some ⟨b0, 0, none⟩)]) rfl (hF _) (enters_of Tryd.func64 (by kernel_rfl) rfl)
    (IT.out w2 b0 _ V2.out) V2.out.lt (Below.refl _ _) (fun _ => rfl)
    (fun k W => FC W bk bg bp bo kd gp zeroP false ∧ Below w.heap.size w W ∧ ∀ j, j < k → ¬ ((partG g j).kind = kd ∧ (partG g j).grp = gp))
    (fun k W => FC W bk bg bp bo kd gp (partG g k) true ∧ Below w.heap.size w W ∧ (partG g k).kind = kd ∧ (partG g k).grp = gp)
    (fun k A B h hb => ⟨h.1.below hb (by have := Z.out; omega) (by have := Z.out; omega) (by have := Z.out; omega) (by have := Z.out; omega), h.2.1.trans (hb.mono (by have := Z.out; omega)), h.2.2⟩)
    (fun k A B h hb => ⟨h.1.below hb (by have := Z.out; omega) (by have := Z.out; omega) (by have := Z.out; omega) (by have := Z.out; omega), h.2.1.trans (hb.mono (by have := Z.out; omega)), h.2.2⟩)
    ⟨C2.out, B2.out, fun j hj => by omega⟩
    (fun k a W => ∃ bx, w2.heap.size + 2 ≤ bx ∧ W.heap[bx]? = some (.cells (pcs (partG g k)) 95 (0, 0)) ∧ a = { tmps := #[Value.agg (gcs g), .int .u8 kd, .int .i64 gp, Value.pointer (some ⟨w.heap.size, 0, none⟩), Value.pointer (some ⟨bk, 0, none⟩), Value.pointer (some ⟨bg, 0, none⟩), Value.pointer (some ⟨bp, 0, none⟩), Value.pointer (some ⟨bo, 0, none⟩), .pointer (some ⟨bx, 0, none⟩), Value.agg (gcs g), Value.func (.func 64) #[] #[.pointer (some ⟨b0, 0, none⟩)], .agg (pcs (partG g k)), undef, undef, undef, undef, undef, undef, undef, undef, undef, undef, undef, undef], defers := [] } ∧ FC W bk bg bp bo kd gp zeroP false ∧ Below w.heap.size w W ∧ ∀ j, j < k → ¬ ((partG g j).kind = kd ∧ (partG g j).grp = gp))
    (fun k a W o ⟨bx, h1, h2, h3, h4, h5, h6⟩ => ⟨bx, h1, (World.putObj_heap_other (by omega)).trans h2, h3, h4.put o (by have := Z.out; omega) (by have := Z.out; omega) (by have := Z.out; omega) (by have := Z.out; omega), h5.trans (below_putObj W (by have := Z.out; omega) o), h6⟩) ?assign ?body ?done ?stop
  case assign =>
    rintro l k W K hk hsz ⟨hn, hB, hno⟩ hK
    have hb := below_alloc2 W (.cells (pcs (partG g k)) 95)
    have HK := Lib.hid (hK _ _ ⟨W.heap.size, hsz, heap_alloc_new W _, rfl, hn.below hb hn.k.lt hn.g.lt (Array.getElem?_eq_some_iff.1 hn.p).1 hn.o.lt, hB.trans (hb.mono hB.size), hno⟩ hb)
    clear hK hn hB hno hb
    generalize partG g k = p at HK ⊢
    obtain ⟨kd', gp', pl, fs, ct⟩ := p
    unfold pcs at HK ⊢
    gi_wp2
    exact HK.out
  case body =>
    rintro l k a W hk ⟨bx, hbx, hp, rfl, hn, hB, hno⟩
    have HN := Lib.hid hn
    have HB := Lib.hid hB
    have HS := Lib.hid hbx
    have HP := Lib.hid hp
    have HNO := Lib.hid hno
    have c1 := hn.k.cell
    have c2 := hn.g.cell
    have c3 := hn.o.cell
    have f3 := hn.o.frozen
    have cx : W.cell? ⟨bx, 0, none⟩ = some (.int .u8 (partG g k).kind) := (cell_of_row W bx 0 _ _ _ hp).trans rfl
    have cy : W.cell? ⟨bx, 1, none⟩ = some (.int .i64 (partG g k).grp) := (cell_of_row W bx 1 _ _ _ hp).trans rfl
    clear hk hn hB hbx hp hno
    by_cases h1 : (partG g k).kind = kd
    · have t1 : ((partG g k).kind == kd) = true := by simp [h1]
      by_cases h2 : (partG g k).grp = gp
      · have t2 : ((partG g k).grp == gp) = true := by simp [h2]
        have HH := Lib.hid (show (partG g k).kind = kd ∧ (partG g k).grp = gp from ⟨h1, h2⟩)
        have LB := Lib.hid (Array.getElem?_eq_some_iff.1 HN.out.p).1
        have NB : bo ≠ bp := by have := Z.out; omega
        have hz : W.setRow bp (pcs (partG g k)) = W.setRow bp (pcs (partG g k)) := rfl
        have c4 : (W.setRow bp (pcs (partG g k))).cell? ⟨bo, 0, none⟩ = some (.bool false) := (cell_setRow_other W bp _ _ NB).trans c3
        have f4 : (W.setRow bp (pcs (partG g k))).frozen? ⟨bo, 0, none⟩ = false := by rw [World.frozen?_of_block (w := W) (setRow_other W bp bo _ NB)]; exact f3
        clear h1 h2 hz
        gi_wp2_with (first | (refine load_part_in rfl (.tmp 8) rfl bx rfl (partG g k) HP.out ?_) | (refine store_part_in rfl (.tmp 6) (.tmp 22) rfl bp (partG g k) zeroP rfl rfl HN.out.p ?_))
        exact ⟨(Kept.setRow W (by have := Z.out; omega) (by have := Z.out; omega) _).trans (Kept.setCell _ (by have := Z.out; show bo ≠ b0; omega) (by have := Z.out; show bo < w2.heap.size; omega) _), HN.out.done _ _ (by have := Z.out; omega) (by have := Z.out; omega) (by have := Z.out; omega), (below_setRow HB.out (by have := Z.out; omega) _).setCell (p := ⟨bo, 0, none⟩) (by have := Z.out; show w.heap.size ≤ bo; omega) _, HH.out⟩
      · have t2 : ((partG g k).grp == gp) = false := by simp [h2]
        have HH := Lib.hid h2
        clear h1 h2
        gi_wp2
        exact ⟨Kept.refl _ _ _, HN.out, HB.out, fun j hj => by
          rcases Nat.lt_or_ge j k with u | u
          · exact HNO.out j u
          · obtain rfl : j = k := by omega
            exact fun z => HH.out z.2⟩
    · have t1 : ((partG g k).kind == kd) = false := by simp [h1]
      have HH := Lib.hid h1
      clear h1
      gi_wp2
      exact ⟨Kept.refl _ _ _, HN.out, HB.out, fun j hj => by
        rcases Nat.lt_or_ge j k with u | u
        · exact HNO.out j u
        · obtain rfl : j = k := by omega
          exact fun z => HH.out z.1⟩
  case done =>
    rintro D W hD ⟨hn, hB, hno⟩ hK
    have HN := Lib.hid hn
    have HB := Lib.hid hB
    have HK := Lib.hid hK
    have HD := Lib.hid hD
    have HNO := Lib.hid hno
    have LB := Lib.hid (Array.getElem?_eq_some_iff.1 hn.p).1
    have NB : bo ≠ bp := by have := Z.out; omega
    have c4 : (W.setRow bp (pcs zeroP)).cell? ⟨bo, 0, none⟩ = some (.bool false) := (cell_setRow_other W bp _ _ NB).trans hn.o.cell
    have f4 : (W.setRow bp (pcs zeroP)).frozen? ⟨bo, 0, none⟩ = false := by rw [World.frozen?_of_block (w := W) (setRow_other W bp bo _ NB)]; exact hn.o.frozen
    clear hn hB hK hD hno
    gi_wp2_with (refine store_part_in rfl (.tmp 6) (.tmp 23) rfl bp zeroP zeroP rfl rfl HN.out.p ?_)
    have hd := HN.out.done zeroP false (by have := Z.out; omega) (by have := Z.out; omega) (by have := Z.out; omega)
    have hb := (below_setRow HB.out (g := bp) (by have := Z.out; omega) (pcs zeroP)).setCell (p := ⟨bo, 0, none⟩) (by have := Z.out; show w.heap.size ≤ bo; omega) (.bool false)
    have hk : ((W.setRow bp (pcs zeroP)).setCell ⟨bo, 0, none⟩ (.bool false)).heap[D]? = some (.deferred (some [])) := (Below.heap_setCell _ _ _ _ (by have := Z.out; have := HD.out; show D ≠ bo; omega)).trans ((setRow_other W bp D _ (by have := Z.out; have := HD.out; omega)).trans HK.out)
    generalize (W.setRow bp (pcs zeroP)).setCell ⟨bo, 0, none⟩ (.bool false) = W3 at hd hb hk ⊢
    refine leave_mark hk ?_ ⟨zeroP, false, rfl, .inr ⟨rfl, rfl, HNO.out⟩, hb.trans (below_putObj W3 (by have := HD.out; have := Z.out; omega) _)⟩
    exact results_find hd (by have := Z.out; have := HD.out; omega) (by have := Z.out; have := HD.out; omega)
  case stop =>
    rintro D k W hD hk ⟨hn, hB, h1, h2⟩ hK
    have HN := Lib.hid hn
    have HB := Lib.hid hB
    have HK := Lib.hid hK
    have HD := Lib.hid hD
    have HH := Lib.hid (And.intro h1 h2)
    clear hn hB hK hD h1 h2
    gi_wp2
    refine leave_mark HK.out ?_ ⟨partG g k, true, rfl, .inl ⟨rfl, k, hk, rfl, HH.out⟩, HB.out.trans (below_putObj W (by have := HD.out; have := Z.out; omega) _)⟩
    exact results_find HN.out (by have := Z.out; have := HD.out; omega) (by have := Z.out; have := HD.out; omega)
theorem pFind (g : GeoV) (kd gp : Int) (w : World) (hg : g.Fits) : Calls Tryd.prog 59 #[.agg (gcs g), .int .u8 kd, .int .i64 gp] w fun e w' => ∃ p b, e = .returned (.tuple #[.agg (pcs p), .bool b]) ∧ Found g kd gp p b ∧ Below w.heap.size w w' :=
  callsIn_wide.1 (find_in Fence.wide 6 rfl (fun _ => trivial) rfl (Nat.le_refl _) g kd gp hg w)
end Go.Proofs.YtmlmpflfejbbcaaDoor
namespace Go.Proofs.YtmlmpflfejbbcaaDoor
open Go.RowKit Go.Shelf Go.BigFrame
attribute [local go_sem] Oper.semAt_some

/-! What. -/
theorem what_part {g : GeoV} {k : Nat} {b : Int} (hk : k < numG g) (h1 : (partG g k).first ≤ b) (h2 : b < (partG g k).first + (partG g k).cnt) : whatG g b = ((partG g k).kind, (partG g k).grp, (partG g k).plc + b - (partG g k).first) := by
  have hm : May g := by
    by_cases h : May g
    · exact h
    · unfold numG at hk; rw [if_neg h] at hk; omega
  unfold numG at hk
  rw [if_pos hm] at hk
  have hm' := hm
  obtain ⟨m1, m2, m3, m4, m5, m6, m7, m8, m9, m10, m11⟩ := hm'
  have hp : 0 ≤ g.gr * g.sz := Int.mul_nonneg (by omega) (by omega)
  match k with
  | 0 =>
    obtain rfl : b = 0 := by simp [partG] at h1 h2; omega
    unfold whatG blocksG
    rw [if_pos hm, if_neg (by simp only [hm, not_true_eq_false, false_or]; omega)]
    rfl
  | 1 =>
    obtain rfl : b = 1 := by simp [partG] at h1 h2; omega
    unfold whatG blocksG
    rw [if_pos hm, if_neg (by simp only [hm, not_true_eq_false, false_or]; omega)]
    rfl
  | 2 =>
    simp [partG] at h1 h2 ⊢
    unfold whatG blocksG
    rw [if_pos hm, if_neg (by simp only [hm, not_true_eq_false, false_or]; omega), if_neg (by omega), if_neg (by omega), if_pos (by omega)]
  | k + 3 =>
    have hq : ((k / 4 : Nat) : Int) < g.gr := by omega
    have hif := inG_first hm (Int.le_of_lt hq)
    have key : ∀ a : Int, 0 ≤ a → a < g.sz → whatG g (baseG g (k / 4) + a) = (kindG g a, ((k / 4 : Nat) : Int), a) := fun a g1 g2 => by
      have := what_at hm (k := ((k / 4 : Nat) : Int)) (a := a) (by omega) hq g1 g2
      unfold baseG
      exact this
    change (inG g (k / 4) (k % 4)).first ≤ b at h1
    change b < (inG g (k / 4) (k % 4)).first + (inG g (k / 4) (k % 4)).cnt at h2
    show whatG g b = ((inG g (k / 4) (k % 4)).kind, (inG g (k / 4) (k % 4)).grp, (inG g (k / 4) (k % 4)).plc + b - (inG g (k / 4) (k % 4)).first)
    have h : k % 4 = 0 ∨ k % 4 = 1 ∨ k % 4 = 2 ∨ k % 4 = 3 := by omega
    have ho : ownG g = 2 + g.ino / 4 := rfl
    rcases h with h | h | h | h <;> rw [h] at h1 h2 ⊢ <;> simp only [inG] at h1 h2 ⊢ <;> generalize baseG g (k / 4) = B at h1 h2 key hif ⊢
    · obtain rfl : b = B := by omega
      have := key 0 (by omega) (by omega)
      rw [Int.add_zero] at this
      rw [this]
      simp [kindG]
    · obtain rfl : b = B + 1 := by omega
      rw [key 1 (by omega) (by omega)]
      simp [kindG] <;> omega
    · have := key (b - B) (by omega) (by omega)
      rw [show B + (b - B) = b by omega] at this
      rw [this, show kindG g (b - B) = 6 by unfold kindG; rw [if_neg (by omega), if_neg (by omega), if_pos (by omega)]]
      simp; omega
    · have := key (b - B) (by omega) (by omega)
      rw [show B + (b - B) = b by omega] at this
      rw [this, show kindG g (b - B) = 7 by unfold kindG; rw [if_neg (by omega), if_neg (by omega), if_neg (by omega)]]
      simp; omega
theorem partG_plc {g : GeoV} (hm : May g) {k : Nat} (hk : k ≤ numG g) : 0 ≤ (partG g k).plc ∧ (partG g k).plc ≤ 4096 := by
  match k with
  | 0 => simp [partG]
  | 1 => simp [partG]
  | 2 => simp [partG]
  | k + 3 =>
    have hm' := hm
    obtain ⟨m1, m2, m3, m4, m5, m6, m7, m8, m9, m10, m11⟩ := hm'
    show 0 ≤ (inG g (k / 4) (k % 4)).plc ∧ (inG g (k / 4) (k % 4)).plc ≤ 4096
    have h : k % 4 = 0 ∨ k % 4 = 1 ∨ k % 4 = 2 ∨ k % 4 = 3 := by omega
    rcases h with h | h | h | h <;> rw [h] <;> simp [inG, ownG] <;> omega
theorem part_covers {g : GeoV} {b : Int} (h0 : 0 ≤ b) : ∀ n : Nat, b < (partG g n).first → ∃ k, k < n ∧ (partG g k).first ≤ b ∧ b < (partG g k).first + (partG g k).cnt
  | 0, h => by simp [partG] at h; omega
  | n + 1, h => by
    rw [← partG_next] at h
    by_cases h1 : (partG g n).first ≤ b
    · exact ⟨n, by omega, h1, h⟩
    · obtain ⟨k, h2, h3⟩ := part_covers (g := g) h0 n (by omega)
      exact ⟨k, by omega, h3⟩
theorem what_none {g : GeoV} {b : Int} (h : ∀ k, k < numG g → ¬ ((partG g k).first ≤ b ∧ b < (partG g k).first + (partG g k).cnt)) : whatG g b = (0, 0, 0) := by
  unfold whatG
  by_cases hm : May g
  · rw [if_pos]
    by_cases h0 : b < 0
    · exact .inr (.inl h0)
    · refine .inr (.inr (Int.not_lt.1 fun hb => ?_))
      rw [← first_num] at hb
      obtain ⟨k, h1, h2⟩ := part_covers (by omega) _ hb
      exact h k h1 h2
  · rw [if_pos (.inl hm)]

def Past (g : GeoV) (b : Int) (k : Nat) : Prop := ∀ j, j < k → ¬ ((partG g j).first ≤ b ∧ b < (partG g j).first + (partG g j).cnt)
theorem cell_below' {w w' : World} {p : Addr} {v : Value} (h : w.cell? p = some v) (hb : Below w.heap.size w w') : w'.cell? p = some v := by
  have hl : p.block < w.heap.size := by
    unfold World.cell? at h
    cases ho : w.heap[p.block]? with
    | none => simp [ho] at h
    | some o => exact (Array.getElem?_eq_some_iff.1 ho).1
  exact (hb.cell hl).trans h
theorem quiet_u8 {o : Oper} {a : Act} {C : World → Prop} {K : Act → Prop} (x : Operand) (ho : o.op = .load 5 x) (p : Addr) (hx : a.eval x = .pointer (some p)) (k : Int) (hc : ∀ w, C w → w.cell? p = some (.int .u8 k))
    (hk : K (a.put o.dst (.int .u8 k))) : o.quiet Tryd.prog a C K := by
  refine ⟨_, fun w hw => ?_, hk⟩
  have h := hc w hw
  unfold Oper.quietAt execOp
  simp only [ho, hx]
  go_simp
  first | done | exact ⟨rfl, hw⟩ | exact hw
/-- The cells of What's own: the block, and its answers. -/
structure WC (W : World) (bb bk bg ba : Nat) (b k g a : Int) : Prop where
  b : Boxed W bb 3 (.int .i64 b)
  k : Boxed W bk 5 (.int .u8 k)
  g : Boxed W bg 3 (.int .i64 g)
  a : Boxed W ba 3 (.int .i64 a)
theorem WC.below {W W' : World} {s bb bk bg ba : Nat} {b k g a : Int} (h : WC W bb bk bg ba b k g a) (hb : Below s W W') (h1 : bb < s) (h2 : bk < s) (h3 : bg < s) (h4 : ba < s) : WC W' bb bk bg ba b k g a :=
  ⟨(hb.block _ h1).trans h.b, (hb.block _ h2).trans h.k, (hb.block _ h3).trans h.g, (hb.block _ h4).trans h.a⟩
theorem WC.put {W : World} {r bb bk bg ba : Nat} {b k g a : Int} (h : WC W bb bk bg ba b k g a) (o : Obj) (h1 : bb ≠ r) (h2 : bk ≠ r) (h3 : bg ≠ r) (h4 : ba ≠ r) : WC (W.putObj r o) bb bk bg ba b k g a :=
  ⟨(World.putObj_heap_other h1).trans h.b, (World.putObj_heap_other h2).trans h.k, (World.putObj_heap_other h3).trans h.g, (World.putObj_heap_other h4).trans h.a⟩
theorem boxPast {W : World} {B : Nat} {t : TypeId} {v : Value} (h : Boxed W B t v) (p : Addr) (hp : B ≠ p.block) (u : Value) : Boxed (W.setCell p u) B t v := (Below.heap_setCell _ _ _ _ hp).trans h
theorem WC.done {W : World} {bb bk bg ba : Nat} {b k g a : Int} (h : WC W bb bk bg ba b k g a) (k' g' a' : Int) (h1 : bb < bk) (h2 : bk < bg) (h3 : bg < ba) : WC (((W.setCell ⟨bk, 0, none⟩ (.int .u8 k')).setCell ⟨bg, 0, none⟩ (.int .i64 g')).setCell ⟨ba, 0, none⟩ (.int .i64 a')) bb bk bg ba b k' g' a' :=
  ⟨boxPast (boxPast (boxPast h.b ⟨bk, 0, none⟩ (by show bb ≠ bk; omega) _) ⟨bg, 0, none⟩ (by show bb ≠ bg; omega) _) ⟨ba, 0, none⟩ (by show bb ≠ ba; omega) _,
   boxPast (boxPast (h.k.set _) ⟨bg, 0, none⟩ (by show bk ≠ bg; omega) _) ⟨ba, 0, none⟩ (by show bk ≠ ba; omega) _,
   boxPast (Boxed.set _ (boxPast h.g ⟨bk, 0, none⟩ (by show bg ≠ bk; omega) _)) ⟨ba, 0, none⟩ (by show bg ≠ ba; omega) _,
   Boxed.set _ (boxPast (boxPast h.a ⟨bk, 0, none⟩ (by show ba ≠ bk; omega) _) ⟨bg, 0, none⟩ (by show ba ≠ bg; omega) _)⟩
/-- While the answer is written, in whatever order. -/
structure SC0 (b0 bx bb bk bg ba : Nat) (b kd gp pa : Int) (p : Array Value) (s t : Nat) (W0 w0 : World) (k g a : Int) (seen : Array Bool) (w : World) : Prop where
  wc : WC w bb bk bg ba b k g a
  hk : seen.getD 11 false = true → k = kd
  hg : seen.getD 12 false = true → g = gp
  ha : seen.getD 13 false = true → a = pa
  hx : w.heap[bx]? = some (.cells p 95 (0, 0))
  kp : Kept b0 s W0 w
  bl : Below t w0 w
def SC (b0 bx bb bk bg ba : Nat) (b kd gp pa : Int) (p : Array Value) (s t : Nat) (W0 w0 : World) (seen : Array Bool) (w : World) : Prop := seen.size = 14 ∧ ∃ k g a, SC0 b0 bx bb bk bg ba b kd gp pa p s t W0 w0 k g a seen w
section
variable {b0 bx bb bk bg ba : Nat} {b kd gp pa : Int} {p : Array Value} {s t : Nat} {W0 w0 w : World} {seen : Array Bool}
theorem SC.start (h1 : WC w bb bk bg ba b 0 0 0) (h2 : w.heap[bx]? = some (.cells p 95 (0, 0))) (h3 : Kept b0 s W0 w) (h4 : Below t w0 w) : SC b0 bx bb bk bg ba b kd gp pa p s t W0 w0 (Array.replicate 14 false) w.drew :=
  ⟨rfl, 0, 0, 0, ⟨h1.b, h1.k, h1.g, h1.a⟩, fun h => by simp at h, fun h => by simp at h, fun h => by simp at h, h2, ⟨h3.size, h3.same⟩, h4.drew⟩
theorem SC.pass {k : Nat} (hk : k < 11) : sPass (SC b0 bx bb bk bg ba b kd gp pa p s t W0 w0) k := fun seen w _ h => by
  obtain ⟨h1, x, y, z, h2⟩ := h
  exact ⟨by simp [h1], x, y, z, h2.wc, fun q => h2.hk (by rwa [getD_set_ne false (by omega)] at q), fun q => h2.hg (by rwa [getD_set_ne false (by omega)] at q), fun q => h2.ha (by rwa [getD_set_ne false (by omega)] at q), h2.hx, h2.kp, h2.bl⟩
theorem SC.cx (h : SC b0 bx bb bk bg ba b kd gp pa p s t W0 w0 seen w) (i : Nat) {v : Value} (hv : p[i]? = some v) : w.cell? ⟨bx, i, none⟩ = some v := by
  obtain ⟨_, _, _, _, h⟩ := h
  exact (cell_of_row w bx i _ _ _ h.hx).trans hv
theorem SC.cb (h : SC b0 bx bb bk bg ba b kd gp pa p s t W0 w0 seen w) : w.cell? ⟨bb, 0, none⟩ = some (.int .i64 b) := by
  obtain ⟨_, _, _, _, h⟩ := h
  exact h.wc.b.cell
theorem SC.ck (h : SC b0 bx bb bk bg ba b kd gp pa p s t W0 w0 seen w) : (∃ k, w.cell? ⟨bk, 0, none⟩ = some (.int .u8 k)) ∧ w.frozen? ⟨bk, 0, none⟩ = false := by
  obtain ⟨_, _, _, _, h⟩ := h
  exact ⟨⟨_, h.wc.k.cell⟩, h.wc.k.frozen⟩
theorem SC.cg (h : SC b0 bx bb bk bg ba b kd gp pa p s t W0 w0 seen w) : (∃ k, w.cell? ⟨bg, 0, none⟩ = some (.int .i64 k)) ∧ w.frozen? ⟨bg, 0, none⟩ = false := by
  obtain ⟨_, _, _, _, h⟩ := h
  exact ⟨⟨_, h.wc.g.cell⟩, h.wc.g.frozen⟩
theorem SC.ca (h : SC b0 bx bb bk bg ba b kd gp pa p s t W0 w0 seen w) : (∃ k, w.cell? ⟨ba, 0, none⟩ = some (.int .i64 k)) ∧ w.frozen? ⟨ba, 0, none⟩ = false := by
  obtain ⟨_, _, _, _, h⟩ := h
  exact ⟨⟨_, h.wc.a.cell⟩, h.wc.a.frozen⟩
theorem SC.putk (h : SC b0 bx bb bk bg ba b kd gp pa p s t W0 w0 seen w) (hz : bb < bk ∧ bk < bg ∧ bg < ba ∧ ba < b0 ∧ b0 < s ∧ s ≤ bx ∧ t < bb) : SC b0 bx bb bk bg ba b kd gp pa p s t W0 w0 (seen.setIfInBounds 11 true) (w.setCell ⟨bk, 0, none⟩ (.int .u8 kd)) := by
  obtain ⟨h1, x, y, z, h2⟩ := h
  exact ⟨by simp [h1], kd, y, z, ⟨boxPast h2.wc.b _ (by show bb ≠ bk; omega) _, h2.wc.k.set _, boxPast h2.wc.g _ (by show bg ≠ bk; omega) _, boxPast h2.wc.a _ (by show ba ≠ bk; omega) _⟩, fun _ => rfl, fun q => h2.hg (by rwa [getD_set_ne false (by omega)] at q), fun q => h2.ha (by rwa [getD_set_ne false (by omega)] at q), (Below.heap_setCell _ _ _ _ (by show bx ≠ bk; omega)).trans h2.hx, h2.kp.trans (Kept.setCell _ (by show bk ≠ b0; omega) (by show bk < s; omega) _), h2.bl.setCell (by show t ≤ bk; omega) _⟩
theorem SC.putg (h : SC b0 bx bb bk bg ba b kd gp pa p s t W0 w0 seen w) (hz : bb < bk ∧ bk < bg ∧ bg < ba ∧ ba < b0 ∧ b0 < s ∧ s ≤ bx ∧ t < bb) : SC b0 bx bb bk bg ba b kd gp pa p s t W0 w0 (seen.setIfInBounds 12 true) (w.setCell ⟨bg, 0, none⟩ (.int .i64 gp)) := by
  obtain ⟨h1, x, y, z, h2⟩ := h
  exact ⟨by simp [h1], x, gp, z, ⟨boxPast h2.wc.b _ (by show bb ≠ bg; omega) _, boxPast h2.wc.k _ (by show bk ≠ bg; omega) _, h2.wc.g.set _, boxPast h2.wc.a _ (by show ba ≠ bg; omega) _⟩, fun q => h2.hk (by rwa [getD_set_ne false (by omega)] at q), fun _ => rfl, fun q => h2.ha (by rwa [getD_set_ne false (by omega)] at q), (Below.heap_setCell _ _ _ _ (by show bx ≠ bg; omega)).trans h2.hx, h2.kp.trans (Kept.setCell _ (by show bg ≠ b0; omega) (by show bg < s; omega) _), h2.bl.setCell (by show t ≤ bg; omega) _⟩
theorem SC.puta (h : SC b0 bx bb bk bg ba b kd gp pa p s t W0 w0 seen w) (hz : bb < bk ∧ bk < bg ∧ bg < ba ∧ ba < b0 ∧ b0 < s ∧ s ≤ bx ∧ t < bb) : SC b0 bx bb bk bg ba b kd gp pa p s t W0 w0 (seen.setIfInBounds 13 true) (w.setCell ⟨ba, 0, none⟩ (.int .i64 pa)) := by
  obtain ⟨h1, x, y, z, h2⟩ := h
  exact ⟨by simp [h1], x, y, pa, ⟨boxPast h2.wc.b _ (by show bb ≠ ba; omega) _, boxPast h2.wc.k _ (by show bk ≠ ba; omega) _, boxPast h2.wc.g _ (by show bg ≠ ba; omega) _, h2.wc.a.set _⟩, fun q => h2.hk (by rwa [getD_set_ne false (by omega)] at q), fun q => h2.hg (by rwa [getD_set_ne false (by omega)] at q), fun _ => rfl, (Below.heap_setCell _ _ _ _ (by show bx ≠ ba; omega)).trans h2.hx, h2.kp.trans (Kept.setCell _ (by show ba ≠ b0; omega) (by show ba < s; omega) _), h2.bl.setCell (by show t ≤ ba; omega) _⟩
theorem SC.fin (h : SC b0 bx bb bk bg ba b kd gp pa p s t W0 w0 seen w) (h1 : seen.getD 11 false = true) (h2 : seen.getD 12 false = true) (h3 : seen.getD 13 false = true) : WC w bb bk bg ba b kd gp pa ∧ Kept b0 s W0 w ∧ Below t w0 w := by
  obtain ⟨_, x, y, z, h⟩ := h
  obtain rfl := h.hk h1
  obtain rfl := h.hg h2
  obtain rfl := h.ha h3
  exact ⟨h.wc, h.kp, h.bl⟩
end

end Go.Proofs.YtmlmpflfejbbcaaDoor
namespace Go.Proofs.YtmlmpflfejbbcaaDoor
open Go.RowKit Go.Shelf Go.BigFrame

/-! What find finds; Data, Start. -/
theorem part_of_kind {g : GeoV} {k : Nat} (hk : k < numG g) (h : 4 ≤ (partG g k).kind) : May g ∧ ∃ q r : Nat, (q : Int) < g.gr ∧ r < 4 ∧ partG g k = inG g q r := by
  have hm : May g := by
    by_cases h : May g
    · exact h
    · unfold numG at hk; rw [if_neg h] at hk; omega
  unfold numG at hk
  rw [if_pos hm] at hk
  have := hm.1
  match k with
  | 0 => simp [partG] at h
  | 1 => simp [partG] at h
  | 2 => simp [partG] at h
  | k + 3 => exact ⟨hm, k / 4, k % 4, by omega, Nat.mod_lt _ (by omega), rfl⟩
theorem num_in {g : GeoV} (hm : May g) {q r : Nat} (hq : (q : Int) < g.gr) (hr : r < 4) : 3 + 4 * q + r < numG g := by
  unfold numG
  rw [if_pos hm]
  have := hm.1
  omega
theorem start_in {g : GeoV} (hm : May g) {q : Nat} (hq : (q : Int) < g.gr) : inGroup g q = true ∧ startG g q = baseG g q := by
  have h : inGroup g q = true := by unfold inGroup; exact decide_eq_true ⟨hm, by omega, hq⟩
  exact ⟨h, by unfold startG; rw [h]; rfl⟩
theorem found_data {g : GeoV} {p : PartV} {b : Bool} (h : Found g 7 0 p b) : p.cnt = dataG g := by
  rcases h with ⟨rfl, k, hk, rfl, h1, h2⟩ | ⟨rfl, rfl, h⟩
  · obtain ⟨hm, q, r, hq, hr, e⟩ := part_of_kind hk (by omega)
    rw [e] at h1 ⊢
    have h3 : r = 0 ∨ r = 1 ∨ r = 2 ∨ r = 3 := by omega
    rcases h3 with rfl | rfl | rfl | rfl <;> simp [inG] at h1
    unfold dataG
    rw [if_pos hm]
    show g.sz - ownG g = _
    unfold ownG
    omega
  · unfold dataG
    rw [if_neg]
    · rfl
    · intro hm
      have := hm.1
      refine h (3 + 4 * 0 + 3) (num_in hm (by omega) (by omega)) ?_
      rw [partG_in g 0 (by omega)]
      exact ⟨rfl, rfl⟩
theorem found_start {g : GeoV} {q : Int} {p : PartV} {b : Bool} (h : Found g 4 q p b) : p.first = startG g q ∧ b = inGroup g q := by
  rcases h with ⟨rfl, k, hk, rfl, h1, h2⟩ | ⟨rfl, rfl, h⟩
  · obtain ⟨hm, q', r, hq, hr, e⟩ := part_of_kind hk (by omega)
    rw [e] at h1 h2 ⊢
    have h3 : r = 0 ∨ r = 1 ∨ r = 2 ∨ r = 3 := by omega
    rcases h3 with rfl | rfl | rfl | rfl <;> simp [inG] at h1
    simp only [inG] at h2 ⊢
    subst h2
    obtain ⟨e1, e2⟩ := start_in hm hq
    exact ⟨e2.symm, e1.symm⟩
  · have hn : inGroup g q = false := by
      unfold inGroup
      refine decide_eq_false fun ⟨hm, h1, h2⟩ => ?_
      obtain ⟨n, rfl⟩ := Int.eq_ofNat_of_zero_le h1
      refine h (3 + 4 * n + 0) (num_in hm h2 (by omega)) ?_
      rw [partG_in g n (by omega)]
      exact ⟨rfl, rfl⟩
    refine ⟨?_, hn.symm⟩
    unfold startG
    rw [hn]
    rfl
theorem found_table {g : GeoV} {q : Int} {p : PartV} {b : Bool} (h : Found g 6 q p b) (hq : inGroup g q = true) : p.first = startG g q + 2 ∧ b = true := by
  have hq' := of_decide_eq_true hq
  rcases h with ⟨rfl, k, hk, rfl, h1, h2⟩ | ⟨rfl, rfl, h⟩
  · obtain ⟨hm, q', r, hq3, hr, e⟩ := part_of_kind hk (by omega)
    rw [e] at h1 h2 ⊢
    have h3 : r = 0 ∨ r = 1 ∨ r = 2 ∨ r = 3 := by omega
    rcases h3 with rfl | rfl | rfl | rfl <;> simp [inG] at h1
    simp only [inG] at h2 ⊢
    subst h2
    obtain ⟨e1, e2⟩ := start_in hm hq3
    exact ⟨by rw [e2], trivial⟩
  · exfalso
    obtain ⟨n, rfl⟩ := Int.eq_ofNat_of_zero_le hq'.2.1
    refine h (3 + 4 * n + 2) (num_in hq'.1 hq'.2.2 (by omega)) ?_
    rw [partG_in g n (by omega)]
    exact ⟨rfl, rfl⟩

set_option maxRecDepth 100000 in
set_option maxHeartbeats 1000000 in
theorem pData (g : GeoV) (w : World) (hg : g.Fits) : Calls Tryd.prog 49 #[.agg (gcs g)] w fun e w' => e = .returned (.int .i64 (dataG g)) ∧ Below w.heap.size w w' := by
  have V1 : Hid (GVar (w.alloc (.cells (gcs g) 23)) w.heap.size g) := Lib.hid (heap_alloc_new w _)
  have B1 := Lib.hid (below_alloc2 w (.cells (gcs g) 23))
  have HG := Lib.hid hg
  clear hg
  go_enter Tryd.func49, Tryd.ntmps49
  go_wp2_with (first | (refine load_geo rfl (.tmp 1) rfl w.heap.size 0 rfl g V1.out.at ?_) | (go_at_call 59; refine (pFind g 7 0 _ HG.out).mono ?_; rintro e w2 ⟨p, b, rfl, hf, hb⟩; have hd := found_data hf; obtain ⟨k1, k2, k3, k4, k5⟩ := p; have HD := Lib.hid hd; clear hd hf; unfold pcs))
  go_ret
  exact ⟨by rw [← HD.out]; rfl, (B1.out.trans (hb.mono B1.out.size)).alloc (Nat.le_trans B1.out.size hb.size) _⟩
theorem start_fits {g : GeoV} {k : Int} (h : inGroup g k = true) : 0 ≤ startG g k ∧ startG g k ≤ 2048 := by
  obtain ⟨hm, h1, h2⟩ := of_decide_eq_true h
  obtain ⟨n, rfl⟩ := Int.eq_ofNat_of_zero_le h1
  have := inG_first hm (Int.le_of_lt h2)
  rw [(start_in hm h2).2]
  omega
theorem num_no {g : GeoV} {k i : Int} (h : ¬ (inGroup g k = true ∧ 0 ≤ i ∧ i < g.ino)) : numberG g k i = 0 := by unfold numberG; rw [if_neg h]
end Go.Proofs.YtmlmpflfejbbcaaDoor
namespace Go.Proofs.YtmlmpflfejbbcaaDoor
open Go.RowKit

/-! How many blocks of each kind stand ahead of a block. -/
def cntW (g : GeoV) (i : Int) : Nat → Int
  | 0 => 0
  | b + 1 => cntW g i b + if (whatG g (b : Int)).1 = i then 1 else 0
theorem cnt_run {g : GeoV} {k : Nat} (hk : k < numG g) (hm : May g) (i : Int) : ∀ m : Nat, (m : Int) ≤ (partG g k).cnt → cntW g i ((partG g k).first.toNat + m) = cntW g i (partG g k).first.toNat + if (partG g k).kind = i then (m : Int) else 0
  | 0, _ => by simp
  | m + 1, h => by
    obtain ⟨q1, q2, q3, q4, q5, q6⟩ := partG_fits hm (Nat.le_of_lt hk)
    rw [← Nat.add_assoc, cntW, cnt_run hk hm i m (by omega), what_part hk (b := ((partG g k).first.toNat + m : Nat)) (by omega) (by omega)]
    by_cases e : (partG g k).kind = i
    · simp only [e, if_true]; omega
    · simp only [e, if_false]; omega
theorem cnt_part {g : GeoV} {k : Nat} (hk : k < numG g) (hm : May g) (i : Int) : cntW g i (partG g (k + 1)).first.toNat = cntW g i (partG g k).first.toNat + if (partG g k).kind = i then (partG g k).cnt else 0 := by
  obtain ⟨q1, q2, q3, q4, q5, q6⟩ := partG_fits hm (Nat.le_of_lt hk)
  have h := cnt_run hk hm i (partG g k).cnt.toNat (by omega)
  rw [← partG_next, show ((partG g k).first + (partG g k).cnt).toNat = (partG g k).first.toNat + (partG g k).cnt.toNat by omega, h, Int.toNat_of_nonneg q5]
def perW (g : GeoV) (i : Int) : Int := (if i = 4 then 1 else 0) + (if i = 5 then 1 else 0) + (if i = 6 then ownG g - 2 else 0) + (if i = 7 then g.sz - ownG g else 0)
def baseW (g : GeoV) (i : Int) : Int := (if i = 1 then 1 else 0) + (if i = 2 then 1 else 0) + (if i = 3 then g.jr else 0)
theorem flip_if {a b : Int} {x : Int} : (if a = b then x else 0) = (if b = a then x else 0) := by
  by_cases h : a = b
  · rw [if_pos h, if_pos h.symm]
  · rw [if_neg h, if_neg fun q => h q.symm]
theorem cnt_group {g : GeoV} (hm : May g) (i : Int) : ∀ q : Nat, (q : Int) ≤ g.gr → cntW g i (partG g (3 + 4 * q)).first.toNat = baseW g i + q * perW g i
  | 0, _ => by
    have hN : 3 ≤ numG g := by unfold numG; rw [if_pos hm]; omega
    have h0 := cnt_part (k := 0) (by omega) hm i
    have h1 := cnt_part (k := 1) (by omega) hm i
    have h2 := cnt_part (k := 2) (by omega) hm i
    rw [show 3 + 4 * 0 = 2 + 1 from rfl, h2, h1, h0]
    show 0 + (if (1 : Int) = i then (1 : Int) else 0) + (if (2 : Int) = i then (1 : Int) else 0) + (if (3 : Int) = i then g.jr else 0) = _
    unfold baseW
    rw [flip_if, flip_if (a := 2), flip_if (a := 3)]
    simp
  | q + 1, h => by
    have hN : 3 + 4 * q + 4 ≤ numG g := by unfold numG; rw [if_pos hm]; omega
    have h0 := cnt_part (k := 3 + 4 * q + 0) (by omega) hm i
    have h1 := cnt_part (k := 3 + 4 * q + 1) (by omega) hm i
    have h2 := cnt_part (k := 3 + 4 * q + 2) (by omega) hm i
    have h3 := cnt_part (k := 3 + 4 * q + 3) (by omega) hm i
    rw [partG_in g q (by omega)] at h0 h1 h2 h3
    have e0 := partG_in g q (i := 0) (by omega)
    have e1 := partG_in g q (i := 1) (by omega)
    have e2 := partG_in g q (i := 2) (by omega)
    have e3 := partG_in g q (i := 3) (by omega)
    rw [show 3 + 4 * (q + 1) = 3 + 4 * q + 3 + 1 by omega, h3, ← e3, show 3 + 4 * q + 3 = 3 + 4 * q + 2 + 1 from rfl, h2, ← e2, show 3 + 4 * q + 2 = 3 + 4 * q + 1 + 1 from rfl, h1, ← e1, show 3 + 4 * q + 1 = 3 + 4 * q + 0 + 1 from rfl, h0, ← e0, Nat.add_zero, cnt_group hm i q (by omega)]
    rw [show partG g (3 + 4 * q) = inG g q 0 from e0, show 3 + 4 * q + 1 + 1 + 1 = 3 + 4 * q + 3 from rfl, show 3 + 4 * q + 1 + 1 = 3 + 4 * q + 2 from rfl, e1, e2, e3]
    show baseW g i + q * perW g i + (if (4 : Int) = i then (1 : Int) else 0) + (if (5 : Int) = i then (1 : Int) else 0) + (if (6 : Int) = i then ownG g - 2 else 0) + (if (7 : Int) = i then g.sz - ownG g else 0) = _
    rw [flip_if (a := 4), flip_if (a := 5), flip_if (a := 6), flip_if (a := 7), Int.natCast_add, Int.add_mul]
    unfold perW
    generalize (q : Int) * _ = z
    omega
theorem cnt_all {g : GeoV} (hm : May g) (i : Int) : cntW g i (blocksG g).toNat = baseW g i + g.gr * perW g i := by
  have h := cnt_group hm i g.gr.toNat (by have := hm.1; omega)
  rw [Int.toNat_of_nonneg (by have := hm.1; omega)] at h
  rw [← h, ← first_num]
  unfold numG
  rw [if_pos hm]
theorem cnt_bounds (g : GeoV) (i : Int) : ∀ b : Nat, 0 ≤ cntW g i b ∧ cntW g i b ≤ b
  | 0 => by simp [cntW]
  | b + 1 => by
    have := cnt_bounds g i b
    rw [cntW]
    split <;> omega
theorem part_of_kind' {g : GeoV} {k : Nat} (hk : k + 3 < numG g) : May g ∧ ∃ q r : Nat, (q : Int) < g.gr ∧ r < 4 ∧ partG g (k + 3) = inG g q r := by
  have hm : May g := by
    by_cases h : May g
    · exact h
    · unfold numG at hk; rw [if_neg h] at hk; omega
  unfold numG at hk
  rw [if_pos hm] at hk
  have := hm.1
  exact ⟨hm, k / 4, k % 4, by omega, Nat.mod_lt _ (by omega), rfl⟩
theorem start_in' {g : GeoV} (hm : May g) {q : Nat} (hq : (q : Int) < g.gr) : inGroup g q = true ∧ startG g q = baseG g q := by
  have h : inGroup g q = true := by unfold inGroup; exact decide_eq_true ⟨hm, by omega, hq⟩
  exact ⟨h, by unfold startG; rw [h]; rfl⟩
theorem start_fits' {g : GeoV} {k : Int} (h : inGroup g k = true) : 0 ≤ startG g k ∧ startG g k ≤ 4096 := by
  obtain ⟨hm, h1, h2⟩ := of_decide_eq_true h
  obtain ⟨n, rfl⟩ := Int.eq_ofNat_of_zero_le h1
  have := inG_first hm (Int.le_of_lt h2)
  rw [(start_in' hm h2).2]
  omega
/-- What a block that there is is. -/
theorem what_facts {g : GeoV} {b : Int} (hm : May g) (h0 : 0 ≤ b) (h1 : b < blocksG g) : ∃ k q a : Int, whatG g b = (k, q, a) ∧ 1 ≤ k ∧ k ≤ 7 ∧ inGroup g q = true ∧ 0 ≤ a ∧ a ≤ 4096 ∧ (4 ≤ k → startG g q + a = b) ∧ (k = 3 → a + 2 = b) ∧ (k ≤ 2 → b = k - 1) := by
  rw [← first_num] at h1
  obtain ⟨k, hk, p1, p2⟩ := part_covers h0 _ h1
  have hw := what_part hk p1 p2
  have g0 : inGroup g 0 = true := decide_eq_true ⟨hm, by omega, by have := hm.1; omega⟩
  match k with
  | 0 =>
    simp [partG] at p1 p2
    refine ⟨_, _, _, hw, ?_⟩
    simp [partG, g0]; omega
  | 1 =>
    simp [partG] at p1 p2
    refine ⟨_, _, _, hw, ?_⟩
    simp [partG, g0]; omega
  | 2 =>
    have := hm.2.2.2.2.2.2.2.2.1
    simp [partG] at p1 p2
    refine ⟨_, _, _, hw, ?_⟩
    simp [partG, g0]; omega
  | k + 3 =>
    obtain ⟨hm', q, r, hq, hr, e⟩ := part_of_kind' hk
    rw [e] at hw p1 p2
    obtain ⟨s1, s2⟩ := start_in' hm hq
    have hif := inG_first hm (Int.le_of_lt hq)
    refine ⟨_, _, _, hw, ?_⟩
    have h : r = 0 ∨ r = 1 ∨ r = 2 ∨ r = 3 := by omega
    rcases h with rfl | rfl | rfl | rfl <;> simp only [inG] at p1 p2 ⊢ <;> rw [s1, s2] <;> refine ⟨by omega, by omega, rfl, by omega, by omega, fun _ => by omega, fun h => by omega, fun h => by omega⟩
end Go.Proofs.YtmlmpflfejbbcaaDoor
