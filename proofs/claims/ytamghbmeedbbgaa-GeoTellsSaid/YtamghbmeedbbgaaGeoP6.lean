import Derived.Test.YtamghbmeedbbgaaGeoP5
import Derived.Laws.Tables
import Derived.Laws.CopyOwn
namespace Go.Proofs.Ytamghbmeedbbgaa
open Go.RowKit Go.Shelf Go.BigFrame
attribute [local go_sem] Oper.semAt_some

/-! find: the first part of a kind and a group. -/
def zeroP : PartV := ⟨0, 0, 0, 0, 0⟩
theorem part_size4 : (Try.prog.info? 39).map (·.size) = some 5 := by kernel_rfl
theorem part_size (p : PartV) : (Try.prog.info? 39).map (·.size) = some (pcs p).size := by rw [part_size4]; rfl
theorem pcs_one (p : PartV) : (pcs p).all (·.oneCell') = true := by
  simp [pcs, Value.oneCell']
theorem lay5 (w : World) (o0 o1 o2 o3 o4 : Obj) : (((((w.alloc o0).alloc o1).alloc o2).alloc o3).alloc o4).heap[w.heap.size]? = some o0 ∧ (((((w.alloc o0).alloc o1).alloc o2).alloc o3).alloc o4).heap[w.heap.size + 1]? = some o1 ∧ (((((w.alloc o0).alloc o1).alloc o2).alloc o3).alloc o4).heap[w.heap.size + 2]? = some o2 ∧
    (((((w.alloc o0).alloc o1).alloc o2).alloc o3).alloc o4).heap[w.heap.size + 3]? = some o3 ∧ (((((w.alloc o0).alloc o1).alloc o2).alloc o3).alloc o4).heap[w.heap.size + 4]? = some o4 ∧ Below w.heap.size w (((((w.alloc o0).alloc o1).alloc o2).alloc o3).alloc o4) ∧ (((((w.alloc o0).alloc o1).alloc o2).alloc o3).alloc o4).heap.size = w.heap.size + 5 := by
  have n0 := heap_alloc_new w o0
  have n1 := heap_alloc_new (w.alloc o0) o1
  have n2 := heap_alloc_new ((w.alloc o0).alloc o1) o2
  have n3 := heap_alloc_new (((w.alloc o0).alloc o1).alloc o2) o3
  have n4 := heap_alloc_new ((((w.alloc o0).alloc o1).alloc o2).alloc o3) o4
  rw [show (w.alloc o0).heap.size = w.heap.size + 1 by simp] at n1
  rw [show ((w.alloc o0).alloc o1).heap.size = w.heap.size + 2 by simp] at n2
  rw [show (((w.alloc o0).alloc o1).alloc o2).heap.size = w.heap.size + 3 by simp] at n3
  rw [show ((((w.alloc o0).alloc o1).alloc o2).alloc o3).heap.size = w.heap.size + 4 by simp] at n4
  refine ⟨?_, ?_, ?_, ?_, n4, (((((Below.refl _ w).alloc (Nat.le_refl _) _).alloc (by simp) _).alloc (by simp; omega) _).alloc (by simp; omega) _).alloc (by simp; omega) _, by simp⟩
  · rw [heap_alloc_old _ _ (by simp; try omega), heap_alloc_old _ _ (by simp; try omega), heap_alloc_old _ _ (by simp; try omega), heap_alloc_old _ _ (by simp), n0]
  · rw [heap_alloc_old _ _ (by simp; try omega), heap_alloc_old _ _ (by simp; try omega), heap_alloc_old _ _ (by simp), n1]
  · rw [heap_alloc_old _ _ (by simp; try omega), heap_alloc_old _ _ (by simp), n2]
  · rw [heap_alloc_old _ _ (by simp), n3]
theorem load_part_in {F : Fence} {n : Nat} {ops : Array Oper} {rest : List Oper} {op : Oper} {a : Act} {w : World} {Q : Exit → Act → World → Prop} (hgd : op.guard = none) (x : Operand) (ho : op.op = .load 39 x) (b : Nat) (hx : a.eval x = .pointer (some ⟨b, 0, none⟩)) (p : PartV) (hc : w.heap[b]? = some (.cells (pcs p) 39 (0, 0)))
    (h : wpListIn F n Try.prog ops Q rest (a.put op.dst (.agg (pcs p))) w) : wpListIn F n Try.prog ops Q (op :: rest) a w := by
  refine wpListIn_plain hgd fun K hK => ?_
  have hat : w.rangeAt b 0 (pcs p).toList := fun i v hv => by
    rw [Nat.zero_add]; exact (cell_of_row w b i _ _ _ hc).trans (by simpa using hv)
  have hrun : (op.semAt F.round a.eval).run Try.prog w = .ok (.value (.agg (pcs p))) w := by
    rw [Oper.semAt_eq F.round a.eval op (fun c e => by rw [ho] at e; cases e)]
    unfold execOp
    have hl := run_loadAt_mid (P := Try.prog) w b 0 39 (pcs p).toList _ hat Try.underlying39 rfl (by rw [part_size p]; simp)
    simp only [ho, hx, hl, Sem.run_bind, Sem.run_pure, Result.andThen_ok]
  refine ⟨fun f hf => (by unfold Oper.about at hf; rw [ho] at hf; cases hf), ?_⟩
  rw [hrun]
  exact hK _ _ h
theorem store_part_in {F : Fence} {n : Nat} {ops : Array Oper} {rest : List Oper} {op : Oper} {a : Act} {w : World} {Q : Exit → Act → World → Prop} (hgd : op.guard = none) (x y : Operand) (ho : op.op = .store 39 x y) (b : Nat) (p q : PartV) (hx : a.eval x = .pointer (some ⟨b, 0, none⟩)) (hy : a.eval y = .agg (pcs p)) (hc : w.heap[b]? = some (.cells (pcs q) 39 (0, 0)))
    (h : wpListIn F n Try.prog ops Q rest (a.put op.dst undef) (w.setRow b (pcs p))) : wpListIn F n Try.prog ops Q (op :: rest) a w := by
  refine wpListIn_plain hgd fun K hK => ?_
  have hrun : (op.semAt F.round a.eval).run Try.prog w = .ok .skip (w.setRow b (pcs p)) := by
    rw [Oper.semAt_eq F.round a.eval op (fun c e => by rw [ho] at e; cases e)]
    unfold execOp
    simp only [ho, hx, hy, Instr.storeAt, Instr.sureAddr, Sem.run_bind, Sem.run_pure, Result.andThen_ok, run_storeVar_row w b 39 39 (pcs q) (pcs p) hc (part_size p) rfl (pcs_one p)]
  refine ⟨fun f hf => (by unfold Oper.about at hf; rw [ho] at hf; cases hf), ?_⟩
  rw [hrun]
  exact hK _ _ h
theorem Kept.setRow {b0 s : Nat} (W : World) {b : Nat} (h1 : b ≠ b0) (h2 : b < s) (cs : Array Value) : Kept b0 s W (W.setRow b cs) :=
  ⟨by simp, fun k o hk ho => (setRow_other W b k cs (by rcases hk with rfl | hk <;> omega)).trans ho⟩

/-- The cells of find's own: what is sought, and its answers. -/
structure FC (W : World) (bk bg bp bo : Nat) (kd gp : Int) (p : PartV) (b : Bool) : Prop where
  k : Boxed W bk 5 (.int .u8 kd)
  g : Boxed W bg 3 (.int .i64 gp)
  p : W.heap[bp]? = some (.cells (pcs p) 39 (0, 0))
  o : Boxed W bo 4 (.bool b)
theorem FC.below {W W' : World} {s bk bg bp bo : Nat} {kd gp : Int} {p : PartV} {b : Bool} (h : FC W bk bg bp bo kd gp p b) (hb : Below s W W') (h1 : bk < s) (h2 : bg < s) (h3 : bp < s) (h4 : bo < s) : FC W' bk bg bp bo kd gp p b :=
  ⟨(hb.block _ h1).trans h.k, (hb.block _ h2).trans h.g, (hb.block _ h3).trans h.p, (hb.block _ h4).trans h.o⟩
theorem FC.put {W : World} {r bk bg bp bo : Nat} {kd gp : Int} {p : PartV} {b : Bool} (h : FC W bk bg bp bo kd gp p b) (o : Obj) (h1 : bk ≠ r) (h2 : bg ≠ r) (h3 : bp ≠ r) (h4 : bo ≠ r) : FC (W.putObj r o) bk bg bp bo kd gp p b :=
  ⟨(World.putObj_heap_other h1).trans h.k, (World.putObj_heap_other h2).trans h.g, (World.putObj_heap_other h3).trans h.p, (World.putObj_heap_other h4).trans h.o⟩
theorem FC.done {W : World} {bk bg bp bo : Nat} {kd gp : Int} {p : PartV} {b : Bool} (h : FC W bk bg bp bo kd gp p b) (q : PartV) (b' : Bool) (h1 : bk < bp) (h2 : bg < bp) (h3 : bp < bo) : FC ((W.setRow bp (pcs q)).setCell ⟨bo, 0, none⟩ (.bool b')) bk bg bp bo kd gp q b' :=
  ⟨(Below.heap_setCell _ _ _ _ (by show bk ≠ bo; omega)).trans ((setRow_other W bp bk _ (by omega)).trans h.k), (Below.heap_setCell _ _ _ _ (by show bg ≠ bo; omega)).trans ((setRow_other W bp bg _ (by omega)).trans h.g), (Below.heap_setCell _ _ _ _ (by show bp ≠ bo; omega)).trans (setRow_heap W bp _ _ _ _ h.p), Boxed.set (.bool b') ((setRow_other W bp bo _ (by omega)).trans h.o)⟩
def Found (g : GeoV) (kd gp : Int) (p : PartV) (b : Bool) : Prop :=
  (b = true ∧ ∃ k, k < numG g ∧ partG g k = p ∧ p.kind = kd ∧ p.grp = gp) ∨ (b = false ∧ p = zeroP ∧ ∀ k, k < numG g → ¬ ((partG g k).kind = kd ∧ (partG g k).grp = gp))

theorem results_find {W : World} {D bk bg bp bo : Nat} {kd gp : Int} {p : PartV} {b : Bool} {tmps : Array Value} (h : FC W bk bg bp bo kd gp p b) (h1 : bp ≠ D) (h2 : bo ≠ D) (ht1 : tmps[6]?.getD undef = .pointer (some ⟨bp, 0, none⟩) := by rfl) (ht2 : tmps[7]?.getD undef = .pointer (some ⟨bo, 0, none⟩) := by rfl) :
    (results Try.f29 tmps).run Try.prog (W.putObj D (.deferred none)) = .ok (.tuple #[.agg (pcs p), .bool b]) (W.putObj D (.deferred none)) := by
  have hp : (W.putObj D (.deferred none)).heap[bp]? = some (.cells (pcs p) 39 (0, 0)) := (World.putObj_heap_other h1).trans h.p
  have ho : Boxed (W.putObj D (.deferred none)) bo 4 (.bool b) := (World.putObj_heap_other h2).trans h.o
  have hc := ho.cell
  obtain ⟨k1, k2, k3, k4, k5⟩ := p
  generalize W.putObj D (.deferred none) = W2 at hp hc ⊢
  have e0 : W2.cell? ⟨bp, 0, none⟩ = some (.int .u8 k1) := (cell_of_row W2 bp 0 _ _ _ hp).trans rfl
  have e1 : W2.cell? ⟨bp, 1, none⟩ = some (.int .i64 k2) := (cell_of_row W2 bp 1 _ _ _ hp).trans rfl
  have e2 : W2.cell? ⟨bp, 2, none⟩ = some (.int .i64 k3) := (cell_of_row W2 bp 2 _ _ _ hp).trans rfl
  have e3 : W2.cell? ⟨bp, 3, none⟩ = some (.int .i64 k4) := (cell_of_row W2 bp 3 _ _ _ hp).trans rfl
  have e4 : W2.cell? ⟨bp, 4, none⟩ = some (.int .i64 k5) := (cell_of_row W2 bp 4 _ _ _ hp).trans rfl
  simp [results, Try.f29, ht1, ht2, go_sem, e0, e1, e2, e3, e4, hc, pcs]
set_option maxRecDepth 100000 in
set_option maxHeartbeats 2000000 in
theorem find_in (F : Fence) (m : Nat) (hW : F = Fence.wide) (hF : ∀ f, F.fn f) (hro : F.round = none) (hm : 6 ≤ m) (g : GeoV) (kd gp : Int) (hg : g.Fits) (w : World) :
    CallsIn F m Try.prog 29 #[.agg (gcs g), .int .u8 kd, .int .i64 gp] w fun e w' => ∃ p b, e = .returned (.tuple #[.agg (pcs p), .bool b]) ∧ Found g kd gp p b ∧ Below w.heap.size w w' := by
  have hm1 : 1 ≤ m := by omega
  have lift : Hid (∀ n f args W R, Calls Try.prog f args W R → CallsIn F n Try.prog f args W R) := Lib.hid fun _ _ _ _ _ h => by subst hW; exact callsIn_wide.2 h
  have IT : Hid (∀ W b0 m, GVar W b0 g → IterSays F m Try.prog 34 #[.pointer (some ⟨b0, 0, none⟩)] (numG g) (fun k => #[.agg (pcs (partG g k))]) b0 W) := Lib.hid fun W b0 m V => by subst hW; exact parts_iter g hg W b0 m V
  have HF := Lib.hid hF
  clear hW
  obtain ⟨l0, l1, l2, l3, l4, lb, ls⟩ := lay5 w (.cells (gcs g) 23) (.cells #[.int .u8 kd] 5) (.cells #[.int .i64 gp] 3) (.cells (pcs zeroP) 39) (.cells #[.bool false] 4)
  obtain ⟨w1, hw1⟩ : ∃ w1, ((((w.alloc (.cells (gcs g) 23)).alloc (.cells #[.int .u8 kd] 5)).alloc (.cells #[.int .i64 gp] 3)).alloc (.cells (pcs zeroP) 39)).alloc (.cells #[.bool false] 4) = w1 := ⟨_, rfl⟩
  rw [hw1] at l0 l1 l2 l3 l4 lb ls
  have V1 : Hid (GVar w1 w.heap.size g) := Lib.hid l0
  have C1 : Hid (FC w1 (w.heap.size + 1) (w.heap.size + 2) (w.heap.size + 3) (w.heap.size + 4) kd gp zeroP false) := Lib.hid ⟨l1, l2, l3, l4⟩
  have B1 := Lib.hid lb
  have S1 := Lib.hid ls
  clear l0 l1 l2 l3 l4 lb ls
  refine callsIn_of_wp_marks Try.func29 rfl (hF _) ?_ hro
  simp only [Try.ntmps29, List.size_toArray, List.length_cons, List.length_nil, Nat.reduceAdd, Nat.reduceSub, Array.replicate_succ, Array.replicate_zero, List.push_toArray, List.append_toArray, List.nil_append, List.cons_append]
  gi_wp2_with (first | (refine load_geo_in rfl (.tmp 3) rfl w.heap.size 0 rfl g (by first | exact hw1 ▸ V1.out.at | fail) ?_) | (gi_at_call 31; refine (lift.out _ _ _ _ _ (parts_box g _)).mono ?_; rintro e w2 ⟨b0, rfl, hb2, hv2, hz2⟩))
  have hb3 : Below w1.heap.size w1 w2 := by rw [← hw1]; exact hb2
  have hz3 : w1.heap.size ≤ b0 := by rw [← hw1]; exact hz2
  clear hb2 hz2 hw1
  rw [S1.out] at hz3
  have V2 := Lib.hid hv2
  have B2 := Lib.hid (B1.out.trans (hb3.mono B1.out.size))
  obtain ⟨bk, hbk⟩ : ∃ bn, w.heap.size + 1 = bn := ⟨_, rfl⟩
  obtain ⟨bg, hbg⟩ : ∃ bn, bk + 1 = bn := ⟨_, rfl⟩
  obtain ⟨bp, hbp⟩ : ∃ bn, bg + 1 = bn := ⟨_, rfl⟩
  obtain ⟨bo, hbo⟩ : ∃ bn, bp + 1 = bn := ⟨_, rfl⟩
  have C2 : Hid (FC w2 bk bg bp bo kd gp zeroP false) := Lib.hid (by
    have := C1.out.below hb3 (by rw [S1.out]; omega) (by rw [S1.out]; omega) (by rw [S1.out]; omega) (by rw [S1.out]; omega)
    rwa [show w.heap.size + 4 = bo by omega, show w.heap.size + 3 = bp by omega, show w.heap.size + 2 = bg by omega, show w.heap.size + 1 = bk by omega] at this)
  have Z : Hid (w.heap.size < bk ∧ bk < bg ∧ bg < bp ∧ bp < bo ∧ bo < b0 ∧ b0 < w2.heap.size) := Lib.hid ⟨by omega, by omega, by omega, by omega, by omega, V2.out.lt⟩
  rw [hbk, hbg, hbp, hbo]
  clear hv2 hz3 hb3 hbk hbg hbp hbo V1 B1 C1 S1
  refine wpIn_range_iter hro hm1 (gf := 34) (lb := #[.pointer (some ⟨b0, 0, none⟩)]) rfl (hF _) (enters_of Try.func34 (by kernel_rfl) rfl)
    (IT.out w2 b0 _ V2.out) V2.out.lt (Below.refl _ _) (fun _ => rfl)
    (fun k W => FC W bk bg bp bo kd gp zeroP false ∧ Below w.heap.size w W ∧ ∀ j, j < k → ¬ ((partG g j).kind = kd ∧ (partG g j).grp = gp))
    (fun k W => FC W bk bg bp bo kd gp (partG g k) true ∧ Below w.heap.size w W ∧ (partG g k).kind = kd ∧ (partG g k).grp = gp)
    (fun k A B h hb => ⟨h.1.below hb (by have := Z.out; omega) (by have := Z.out; omega) (by have := Z.out; omega) (by have := Z.out; omega), h.2.1.trans (hb.mono (by have := Z.out; omega)), h.2.2⟩)
    (fun k A B h hb => ⟨h.1.below hb (by have := Z.out; omega) (by have := Z.out; omega) (by have := Z.out; omega) (by have := Z.out; omega), h.2.1.trans (hb.mono (by have := Z.out; omega)), h.2.2⟩)
    ⟨C2.out, B2.out, fun j hj => by omega⟩
    (fun k a W => ∃ bx, w2.heap.size + 2 ≤ bx ∧ W.heap[bx]? = some (.cells (pcs (partG g k)) 39 (0, 0)) ∧ a = { tmps := #[Value.agg (gcs g), .int .u8 kd, .int .i64 gp, Value.pointer (some ⟨w.heap.size, 0, none⟩), Value.pointer (some ⟨bk, 0, none⟩), Value.pointer (some ⟨bg, 0, none⟩), Value.pointer (some ⟨bp, 0, none⟩), Value.pointer (some ⟨bo, 0, none⟩), .pointer (some ⟨bx, 0, none⟩), Value.agg (gcs g), Value.func (.func 34) #[] #[.pointer (some ⟨b0, 0, none⟩)], .agg (pcs (partG g k)), undef, undef, undef, undef, undef, undef, undef, undef, undef, undef, undef, undef], defers := [] } ∧ FC W bk bg bp bo kd gp zeroP false ∧ Below w.heap.size w W ∧ ∀ j, j < k → ¬ ((partG g j).kind = kd ∧ (partG g j).grp = gp))
    (fun k a W o ⟨bx, h1, h2, h3, h4, h5, h6⟩ => ⟨bx, h1, (World.putObj_heap_other (by omega)).trans h2, h3, h4.put o (by have := Z.out; omega) (by have := Z.out; omega) (by have := Z.out; omega) (by have := Z.out; omega), h5.trans (below_putObj W (by have := Z.out; omega) o), h6⟩) ?assign ?body ?done ?stop
  case assign =>
    rintro l k W K hk hsz ⟨hn, hB, hno⟩ hK
    have hb := below_alloc2 W (.cells (pcs (partG g k)) 39)
    have HK := Lib.hid (hK _ _ ⟨W.heap.size, hsz, heap_alloc_new W _, rfl, hn.below hb hn.k.lt hn.g.lt (Array.getElem?_eq_some_iff.1 hn.p).1 hn.o.lt, hB.trans (hb.mono hB.size), hno⟩ hb)
    clear hK hn hB hno hb
    generalize partG g k = p at HK ⊢
    obtain ⟨kd', gp', pl, fs, ct⟩ := p
    unfold pcs at HK ⊢
    gi_wp2
    exact HK.out
  case body =>
    rintro l k a W hk ⟨bx, hbx, hp, rfl, hn, hB, hno⟩
    have HN := Lib.hid hn
    have HB := Lib.hid hB
    have HS := Lib.hid hbx
    have HP := Lib.hid hp
    have HNO := Lib.hid hno
    have c1 := hn.k.cell
    have c2 := hn.g.cell
    have c3 := hn.o.cell
    have f3 := hn.o.frozen
    have cx : W.cell? ⟨bx, 0, none⟩ = some (.int .u8 (partG g k).kind) := (cell_of_row W bx 0 _ _ _ hp).trans rfl
    have cy : W.cell? ⟨bx, 1, none⟩ = some (.int .i64 (partG g k).grp) := (cell_of_row W bx 1 _ _ _ hp).trans rfl
    clear hk hn hB hbx hp hno
    by_cases h1 : (partG g k).kind = kd
    · have t1 : ((partG g k).kind == kd) = true := by simp [h1]
      by_cases h2 : (partG g k).grp = gp
      · have t2 : ((partG g k).grp == gp) = true := by simp [h2]
        have HH := Lib.hid (show (partG g k).kind = kd ∧ (partG g k).grp = gp from ⟨h1, h2⟩)
        have LB := Lib.hid (Array.getElem?_eq_some_iff.1 HN.out.p).1
        have NB : bo ≠ bp := by have := Z.out; omega
        have hz : W.setRow bp (pcs (partG g k)) = W.setRow bp (pcs (partG g k)) := rfl
        have c4 : (W.setRow bp (pcs (partG g k))).cell? ⟨bo, 0, none⟩ = some (.bool false) := (cell_setRow_other W bp _ _ NB).trans c3
        have f4 : (W.setRow bp (pcs (partG g k))).frozen? ⟨bo, 0, none⟩ = false := by rw [World.frozen?_of_block (w := W) (setRow_other W bp bo _ NB)]; exact f3
        clear h1 h2 hz
        gi_wp2_with (first | (refine load_part_in rfl (.tmp 8) rfl bx rfl (partG g k) HP.out ?_) | (refine store_part_in rfl (.tmp 6) (.tmp 22) rfl bp (partG g k) zeroP rfl rfl HN.out.p ?_))
        exact ⟨(Kept.setRow W (by have := Z.out; omega) (by have := Z.out; omega) _).trans (Kept.setCell _ (by have := Z.out; show bo ≠ b0; omega) (by have := Z.out; show bo < w2.heap.size; omega) _), HN.out.done _ _ (by have := Z.out; omega) (by have := Z.out; omega) (by have := Z.out; omega), (below_setRow HB.out (by have := Z.out; omega) _).setCell (p := ⟨bo, 0, none⟩) (by have := Z.out; show w.heap.size ≤ bo; omega) _, HH.out⟩
      · have t2 : ((partG g k).grp == gp) = false := by simp [h2]
        have HH := Lib.hid h2
        clear h1 h2
        gi_wp2
        exact ⟨Kept.refl _ _ _, HN.out, HB.out, fun j hj => by
          rcases Nat.lt_or_ge j k with u | u
          · exact HNO.out j u
          · obtain rfl : j = k := by omega
            exact fun z => HH.out z.2⟩
    · have t1 : ((partG g k).kind == kd) = false := by simp [h1]
      have HH := Lib.hid h1
      clear h1
      gi_wp2
      exact ⟨Kept.refl _ _ _, HN.out, HB.out, fun j hj => by
        rcases Nat.lt_or_ge j k with u | u
        · exact HNO.out j u
        · obtain rfl : j = k := by omega
          exact fun z => HH.out z.1⟩
  case done =>
    rintro D W hD ⟨hn, hB, hno⟩ hK
    have HN := Lib.hid hn
    have HB := Lib.hid hB
    have HK := Lib.hid hK
    have HD := Lib.hid hD
    have HNO := Lib.hid hno
    have LB := Lib.hid (Array.getElem?_eq_some_iff.1 hn.p).1
    have NB : bo ≠ bp := by have := Z.out; omega
    have c4 : (W.setRow bp (pcs zeroP)).cell? ⟨bo, 0, none⟩ = some (.bool false) := (cell_setRow_other W bp _ _ NB).trans hn.o.cell
    have f4 : (W.setRow bp (pcs zeroP)).frozen? ⟨bo, 0, none⟩ = false := by rw [World.frozen?_of_block (w := W) (setRow_other W bp bo _ NB)]; exact hn.o.frozen
    clear hn hB hK hD hno
    gi_wp2_with (refine store_part_in rfl (.tmp 6) (.tmp 23) rfl bp zeroP zeroP rfl rfl HN.out.p ?_)
    have hd := HN.out.done zeroP false (by have := Z.out; omega) (by have := Z.out; omega) (by have := Z.out; omega)
    have hb := (below_setRow HB.out (g := bp) (by have := Z.out; omega) (pcs zeroP)).setCell (p := ⟨bo, 0, none⟩) (by have := Z.out; show w.heap.size ≤ bo; omega) (.bool false)
    have hk : ((W.setRow bp (pcs zeroP)).setCell ⟨bo, 0, none⟩ (.bool false)).heap[D]? = some (.deferred (some [])) := (Below.heap_setCell _ _ _ _ (by have := Z.out; have := HD.out; show D ≠ bo; omega)).trans ((setRow_other W bp D _ (by have := Z.out; have := HD.out; omega)).trans HK.out)
    generalize (W.setRow bp (pcs zeroP)).setCell ⟨bo, 0, none⟩ (.bool false) = W3 at hd hb hk ⊢
    refine leave_mark hk ?_ ⟨zeroP, false, rfl, .inr ⟨rfl, rfl, HNO.out⟩, hb.trans (below_putObj W3 (by have := HD.out; have := Z.out; omega) _)⟩
    exact results_find hd (by have := Z.out; have := HD.out; omega) (by have := Z.out; have := HD.out; omega)
  case stop =>
    rintro D k W hD hk ⟨hn, hB, h1, h2⟩ hK
    have HN := Lib.hid hn
    have HB := Lib.hid hB
    have HK := Lib.hid hK
    have HD := Lib.hid hD
    have HH := Lib.hid (And.intro h1 h2)
    clear hn hB hK hD h1 h2
    gi_wp2
    refine leave_mark HK.out ?_ ⟨partG g k, true, rfl, .inl ⟨rfl, k, hk, rfl, HH.out⟩, HB.out.trans (below_putObj W (by have := HD.out; have := Z.out; omega) _)⟩
    exact results_find HN.out (by have := Z.out; have := HD.out; omega) (by have := Z.out; have := HD.out; omega)
theorem pFind (g : GeoV) (kd gp : Int) (w : World) (hg : g.Fits) : Calls Try.prog 29 #[.agg (gcs g), .int .u8 kd, .int .i64 gp] w fun e w' => ∃ p b, e = .returned (.tuple #[.agg (pcs p), .bool b]) ∧ Found g kd gp p b ∧ Below w.heap.size w w' :=
  callsIn_wide.1 (find_in Fence.wide 6 rfl (fun _ => trivial) rfl (Nat.le_refl _) g kd gp hg w)
end Go.Proofs.Ytamghbmeedbbgaa
