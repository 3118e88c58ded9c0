import Derived.Test.YtamghbmeedbbgaaGeoP3
import Derived.Shelf.Abstract
namespace Go.Proofs.Ytamghbmeedbbgaa
open Go.RowKit Go.Shelf Go.BigFrame
attribute [local go_sem] Oper.semAt_some
/-! Whoever goes through the parts: Blocks, Inodes. -/
theorem parts_any (g : GeoV) (w : World) : Calls Try.prog 31 #[.agg (gcs g)] w fun e w' => e = .returned (.func (.func 34) #[] #[.pointer (some ⟨w.heap.size, 0, none⟩)]) ∧ w' = w.alloc (.cells (gcs g) 23) := by
  go_enter Try.func31, Try.ntmps31
  go_wp2
  go_ret
  exact ⟨rfl, rfl⟩
theorem parts_box (g : GeoV) (w : World) : Calls Try.prog 31 #[.agg (gcs g)] w fun e w' => ∃ b0, e = .returned (.func (.func 34) #[] #[.pointer (some ⟨b0, 0, none⟩)]) ∧ Below w.heap.size w w' ∧ GVar w' b0 g ∧ w.heap.size ≤ b0 :=
  (parts_any g w).mono fun e w' q => ⟨w.heap.size, q.1, by rw [q.2]; exact (Below.refl _ _).alloc (Nat.le_refl _) _, by rw [q.2]; exact heap_alloc_new _ _, Nat.le_refl _⟩
theorem parts_iter (g : GeoV) (hg : g.Fits) (w : World) (b0 m : Nat) (V : GVar w b0 g) : IterSays Fence.wide m Try.prog 34 #[.pointer (some ⟨b0, 0, none⟩)] (numG g) (fun k => #[.agg (pcs (partG g k))]) b0 w := by
  intro l J Jx W hW hJ hJx hy h0
  refine callsIn_wide.2 ?_
  by_cases hm : May g
  · exact iter_may g hg hm l b0 (m - 1) J Jx W (V.below hW) hJ hJx hy h0
  · refine (iter_none g hg hm l b0 W (V.below hW)).mono fun e W' q => ⟨q.1, .inl ?_⟩
    rw [show numG g = 0 from if_neg hm]
    exact hJ _ _ _ h0 q.2
theorem load_geo_in {F : Fence} {n : Nat} {ops : Array Oper} {rest : List Oper} {op : Oper} {a : Act} {w : World} {Q : Exit → Act → World → Prop} (hgd : op.guard = none) (x : Operand) (ho : op.op = .load 23 x) (b o : Nat) (hx : a.eval x = .pointer (some ⟨b, o, none⟩)) (g : GeoV) (hc : GAt w b o g)
    (h : wpListIn F n Try.prog ops Q rest (a.put op.dst (.agg (gcs g))) w) : wpListIn F n Try.prog ops Q (op :: rest) a w := by
  refine wpListIn_plain hgd fun K hK => ?_
  have hrun : (op.semAt F.round a.eval).run Try.prog w = .ok (.value (.agg (gcs g))) w := by
    rw [Oper.semAt_eq F.round a.eval op (fun c e => by rw [ho] at e; cases e)]
    unfold execOp
    have hl := run_loadAt_mid (P := Try.prog) w b o 23 (gcs g).toList _ hc Try.underlying23 rfl (geo_size g)
    simp only [ho, hx, hl, Sem.run_bind, Sem.run_pure, Result.andThen_ok]
  refine ⟨fun f hf => (by unfold Oper.about at hf; rw [ho] at hf; cases hf), ?_⟩
  rw [hrun]
  exact hK _ _ h
theorem leave_mark {F : Fence} {n D : Nat} {P : Program} {fn : Func} {tmps : Array Value} {R : Ending → World → Prop} {W : World} {v : Value} (hD : W.heap[D]? = some (.deferred (some []))) (hr : (results fn tmps).run P (W.putObj D (.deferred none)) = .ok v (W.putObj D (.deferred none))) (h : R (.returned v) (W.putObj D (.deferred none))) :
    LeavesInM F n P fn tmps R [{ target := .collected D, args := #[] }] .returning W := by
  refine ⟨by simp, .inl ⟨_, _, rfl, run_takeDeferred hD, ?_⟩⟩
  exact ⟨v, hr, h⟩
theorem below_alloc2 (w : World) (o : Obj) : Below w.heap.size w (w.alloc o) := (Below.refl _ w).alloc (Nat.le_refl _) o
theorem first_num {g : GeoV} : (partG g (numG g)).first = blocksG g := by
  unfold numG blocksG
  by_cases h : May g
  · rw [if_pos h, if_pos h]
    have := partG_in g g.gr.toNat (i := 0) (by omega)
    rw [Nat.add_zero] at this
    rw [this]
    show baseG g g.gr.toNat = _
    unfold baseG
    rw [Int.toNat_of_nonneg (by have := h.1; omega)]
  · rw [if_neg h, if_neg h]; rfl

set_option maxRecDepth 100000 in
set_option maxHeartbeats 2000000 in
theorem blocks_in (F : Fence) (m : Nat) (hW : F = Fence.wide) (hF : ∀ f, F.fn f) (hro : F.round = none) (hm : 6 ≤ m) (g : GeoV) (hg : g.Fits) (w : World) :
    CallsIn F m Try.prog 16 #[.agg (gcs g)] w fun e w' => e = .returned (.int .i64 (blocksG g)) ∧ Below w.heap.size w w' := by
  have hm1 : 1 ≤ m := by omega
  have lift : Hid (∀ n f args W R, Calls Try.prog f args W R → CallsIn F n Try.prog f args W R) := Lib.hid fun _ _ _ _ _ h => by subst hW; exact callsIn_wide.2 h
  have IT : Hid (∀ W b0 m, GVar W b0 g → IterSays F m Try.prog 34 #[.pointer (some ⟨b0, 0, none⟩)] (numG g) (fun k => #[.agg (pcs (partG g k))]) b0 W) := Lib.hid fun W b0 m V => by subst hW; exact parts_iter g hg W b0 m V
  have HF := Lib.hid hF
  clear hW
  have h1 := below_alloc2 w (.cells (gcs g) 23)
  have V1 : Hid (GVar ((w.alloc (.cells (gcs g) 23)).alloc (.cells #[.int .i64 0] 3)) w.heap.size g) := Lib.hid (GVar.below (heap_alloc_new w _) (below_alloc2 _ _))
  have N1 : Hid (Boxed ((w.alloc (.cells (gcs g) 23)).alloc (.cells #[.int .i64 0] 3)) (w.heap.size + 1) 3 (.int .i64 0)) := Lib.hid (by have := Boxed.new (w.alloc (.cells (gcs g) 23)) 3 (.int .i64 0); rwa [World.size_alloc] at this)
  have B1 : Hid (Below w.heap.size w ((w.alloc (.cells (gcs g) 23)).alloc (.cells #[.int .i64 0] 3))) := Lib.hid (h1.alloc (by simp) _)
  have S1 : Hid (((w.alloc (.cells (gcs g) 23)).alloc (.cells #[.int .i64 0] 3)).heap.size = w.heap.size + 2) := Lib.hid (by simp)
  clear h1
  refine callsIn_of_wp_marks Try.func16 rfl (hF _) ?_ hro
  simp only [Try.ntmps16, List.size_toArray, List.length_cons, List.length_nil, Nat.reduceAdd, Nat.reduceSub, Array.replicate_succ, Array.replicate_zero, List.push_toArray, List.append_toArray, List.nil_append, List.cons_append]
  gi_wp2_with (first | (refine load_geo_in rfl (.tmp 1) rfl w.heap.size 0 rfl g V1.out.at ?_) | (gi_at_call 31; refine (lift.out _ _ _ _ _ (parts_box g _)).mono ?_; rintro e w2 ⟨b0, rfl, hb2, hv2, hz2⟩))
  have V2 := Lib.hid hv2
  have N2 : Hid (Boxed w2 (w.heap.size + 1) 3 (.int .i64 0)) := Lib.hid ((hb2.block _ N1.out.lt).trans N1.out)
  have B2 := Lib.hid (B1.out.trans (hb2.mono B1.out.size))
  have Z2 : Hid (w.heap.size + 2 ≤ b0) := Lib.hid (by rw [← S1.out]; exact hz2)
  clear V1 N1 B1 S1 hb2 hv2 hz2
  obtain ⟨bn, hbn⟩ : ∃ bn, w.heap.size + 1 = bn := ⟨_, rfl⟩
  have Z : Hid (w.heap.size + 1 = bn ∧ bn < b0 ∧ b0 < w2.heap.size) := Lib.hid ⟨hbn, by have := Z2.out; omega, V2.out.lt⟩
  rw [hbn] at N2 ⊢
  clear hbn Z2
  refine wpIn_range_iter hro hm1 (gf := 34) (lb := #[.pointer (some ⟨b0, 0, none⟩)]) rfl (hF _) (enters_of Try.func34 (by kernel_rfl) rfl)
    (IT.out w2 b0 _ V2.out) V2.out.lt (Below.refl _ _) (fun _ => rfl)
    (fun k W => Boxed W bn 3 (.int .i64 (partG g k).first) ∧ Below w.heap.size w W) (fun _ _ => False)
    (fun k A B h hb => ⟨(hb.block _ (by have := Z.out; omega)).trans h.1, h.2.trans (hb.mono (by have := Z.out; omega))⟩) (fun _ _ _ h _ => h)
    ⟨N2.out, B2.out⟩
    (fun k a W => ∃ bp, w2.heap.size + 2 ≤ bp ∧ W.heap[bp]? = some (.cells (pcs (partG g k)) 39 (0, 0)) ∧ a = { tmps := #[Value.agg (gcs g), Value.pointer (some ⟨w.heap.size, 0, none⟩), Value.int .i64 0, Value.pointer (some ⟨bn, 0, none⟩), .pointer (some ⟨bp, 0, none⟩), Value.agg (gcs g), Value.func (.func 34) #[] #[.pointer (some ⟨b0, 0, none⟩)], .agg (pcs (partG g k)), undef, undef, undef, undef, undef], defers := [] } ∧ Boxed W bn 3 (.int .i64 (partG g k).first) ∧ Below w.heap.size w W)
    (fun k a W o ⟨bp, h1, h2, h3, h4, h5⟩ => ⟨bp, h1, (World.putObj_heap_other (by omega)).trans h2, h3, (World.putObj_heap_other (by have := Z.out; omega)).trans h4, h5.trans (below_putObj W (by have := Z.out; omega) o)⟩) ?assign ?body ?done ?stop
  case assign =>
    rintro l k W K hk hsz ⟨hn, hB⟩ hK
    have HK := Lib.hid (hK _ _ ⟨W.heap.size, hsz, heap_alloc_new W _, rfl, (below_alloc2 W (.cells (pcs (partG g k)) 39) |> fun h => (h.block _ hn.lt).trans hn), hB.trans ((below_alloc2 W _).mono hB.size)⟩ (below_alloc2 W _))
    clear hK hn hB
    generalize partG g k = p at HK ⊢
    obtain ⟨kd, gp, pl, fs, ct⟩ := p
    unfold pcs at HK ⊢
    gi_wp2
    exact HK.out
  case body =>
    rintro l k a W hk ⟨bp, hbp, hp, rfl, hn, hB⟩
    have hmay : May g := by
      by_cases h : May g
      · exact h
      · unfold numG at hk; rw [if_neg h] at hk; omega
    obtain ⟨r1, r2, r3, r4, r5, r6⟩ := partG_fits hmay (Nat.le_of_lt hk)
    have HX := Lib.hid (partG_next g k)
    have HN := Lib.hid hn
    have HB := Lib.hid hB
    have HS := Lib.hid hbp
    have c1 := hn.cell
    have f1 := hn.frozen
    have hlt := hn.lt
    have hnb : bn ≠ bp := by have := Z.out; omega
    clear hmay hk hn hB hbp
    generalize partG g k = p at *
    obtain ⟨kd, gp, pl, fs, ct⟩ := p
    simp only at r1 r2 r3 r4 r5 r6 c1
    have c2 : W.cell? ⟨bp, 4, none⟩ = some (.int .i64 ct) := (cell_of_row W bp 4 _ _ _ hp).trans rfl
    unfold pcs at hp ⊢
    gi_wp2
    exact ⟨Kept.setCell W (by have := Z.out; show bn ≠ b0; omega) (by have := Z.out; show bn < w2.heap.size; omega) _, by rw [← HX.out]; exact HN.out.set _, HB.out.setCell (p := ⟨bn, 0, none⟩) (by have := Z.out; show w.heap.size ≤ bn; omega) _⟩
  case done =>
    rintro D W hD ⟨hn, hB⟩ hK
    rw [first_num] at hn
    have c1 := hn.cell
    have HB := Lib.hid hB
    have HK := Lib.hid hK
    have HD := Lib.hid hD
    clear hn hB hK hD
    gi_wp2
    refine leave_mark HK.out ?_ ⟨rfl, HB.out.trans (below_putObj W (by have := HD.out; have := Z.out; omega) _)⟩
    simp [results, Try.f16, go_sem]
  case stop =>
    rintro D k W _ _ h _
    exact h.elim
theorem pBlocks (g : GeoV) (w : World) (hg : g.Fits) : Calls Try.prog 16 #[.agg (gcs g)] w fun e w' => e = .returned (.int .i64 (blocksG g)) ∧ Below w.heap.size w w' :=
  callsIn_wide.1 (blocks_in Fence.wide 6 rfl (fun _ => trivial) rfl (Nat.le_refl _) g hg w)
end Go.Proofs.Ytamghbmeedbbgaa
