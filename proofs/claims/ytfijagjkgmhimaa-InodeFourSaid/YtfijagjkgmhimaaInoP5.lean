import Derived.Test.YtfijagjkgmhimaaInoP4
import Derived.Test.YtfijagjkgmhimaaRound
namespace Go.Proofs.Ytfijagjkgmhimaa
open Go.RowKit Go.Shelf Go.BigFrame
attribute [local go_sem] Oper.semAt_some

/-! imageOf: an inode's bytes. -/
theorem leave_mark {F : Fence} {n D : Nat} {P : Program} {fn : Func} {tmps : Array Value} {R : Ending → World → Prop} {W : World} {v : Value} (hD : W.heap[D]? = some (.deferred (some []))) (hr : (results fn tmps).run P (W.putObj D (.deferred none)) = .ok v (W.putObj D (.deferred none))) (h : R (.returned v) (W.putObj D (.deferred none))) :
    LeavesInM F n P fn tmps R [{ target := .collected D, args := #[] }] .returning W := by
  refine ⟨by simp, .inl ⟨_, _, rfl, run_takeDeferred hD, ?_⟩⟩
  exact ⟨v, hr, h⟩
theorem numbers_box (x : InoV) (w : World) : Calls Try.prog 27 #[.agg (ics x)] w fun e w' => ∃ b0, e = .returned (.func (.func 32) #[] #[.pointer (some ⟨b0, 0, none⟩)]) ∧ Below w.heap.size w w' ∧ IVar w' b0 x ∧ w.heap.size ≤ b0 :=
  (numbers_any x w).mono fun e w' q => ⟨w.heap.size, q.1, by rw [q.2]; exact below_new _ _, by rw [q.2]; exact heap_alloc_new _ _, Nat.le_refl _⟩
def spn (k : Nat) : Array Value := #[.int .i64 (atN k), .int .i64 (byN k)]
theorem load_im_in {F : Fence} {n : Nat} {ops : Array Oper} {rest : List Oper} {op : Oper} {a : Act} {w : World} {Q : Exit → Act → World → Prop} (hgd : op.guard = none) (x : Operand) (ho : op.op = .load 48 x) (b o : Nat) (hx : a.eval x = .pointer (some ⟨b, o, none⟩)) (f : Nat → Nat) (hc : w.rangeAt b o (im64 f).toList)
    (h : wpListIn F n Try.prog ops Q rest (a.put op.dst (.agg (im64 f))) w) : wpListIn F n Try.prog ops Q (op :: rest) a w := by
  refine wpListIn_plain hgd fun K hK => ?_
  have hrun : (op.semAt F.round a.eval).run Try.prog w = .ok (.value (.agg (im64 f))) w := by
    rw [Oper.semAt_eq F.round a.eval op (fun c e => by rw [ho] at e; cases e)]
    unfold execOp
    have hl := run_loadAt_mid (P := Try.prog) w b o 48 (im64 f).toList _ hc Try.underlying48 rfl (by rw [im64_length]; exact im_size)
    simp only [ho, hx, hl, Sem.run_bind, Sem.run_pure, Result.andThen_ok]
  refine ⟨fun f hf => (by unfold Oper.about at hf; rw [ho] at hf; cases hf), ?_⟩
  rw [hrun]
  exact hK _ _ h
theorem store_rowM_in {F : Fence} {n : Nat} {ops : Array Oper} {rest : List Oper} {op : Oper} {a : Act} {w : World} {Q : Exit → Act → World → Prop} (hgd : op.guard = none) (x y : Operand) (ho : op.op = .store 48 x y) (b : Nat) (f g : Nat → Nat) (hx : a.eval x = .pointer (some ⟨b, 0, none⟩)) (hy : a.eval y = .agg (im64 f)) (hb : MVar w b g)
    (h : wpListIn F n Try.prog ops Q rest (a.put op.dst undef) (w.setRow b (im64 f))) : wpListIn F n Try.prog ops Q (op :: rest) a w := by
  refine wpListIn_plain hgd fun K hK => ?_
  have hrun : (op.semAt F.round a.eval).run Try.prog w = .ok .skip (w.setRow b (im64 f)) := by
    rw [Oper.semAt_eq F.round a.eval op (fun c e => by rw [ho] at e; cases e)]
    unfold execOp
    simp only [ho, hx, hy, Instr.storeAt, Instr.sureAddr, Sem.run_bind, Sem.run_pure, Result.andThen_ok, run_storeVar_row w b 48 48 (im64 g) (im64 f) hb (by rw [im64_size]; exact im_size) (by rw [im64_size, im64_size]) (im64_one f)]
  refine ⟨fun f hf => (by unfold Oper.about at hf; rw [ho] at hf; cases hf), ?_⟩
  rw [hrun]
  exact hK _ _ h
theorem MVar.rowset {w : World} {b : Nat} {f : Nat → Nat} (h : MVar w b f) (g : Nat → Nat) : MVar (w.setRow b (im64 g)) b g := setRow_heap _ _ _ _ _ _ h
theorem MVar.put {w : World} {b r : Nat} {f : Nat → Nat} (h : MVar w b f) (hr : r ≠ b) (o : Obj) : MVar (w.putObj r o) b f := by
  unfold MVar at *; rw [World.putObj_heap_other (by omega)]; exact h
theorem imgK_1 (x : InoV) : imgK x 1 = upd (imgK x 0) 0 x.kd := rfl
theorem imgK_2 (x : InoV) : imgK x 2 = p16 (imgK x 1) 2 (valI x 1) := rfl
theorem imgK_3 (x : InoV) (k : Nat) : imgK x (k + 3) = p32 (imgK x (k + 2)) (4 * k + 4) (valI x (k + 2)) := rfl
theorem valI_lt {x : InoV} (hx : x.Fits) (hm : MayI x) (k : Nat) : valI x k < 4294967296 := by
  have := hm.small
  have := hx.kd; have := hx.gen; have := hx.nx
  unfold valI
  split; omega
  split; omega
  split; omega
  split; omega
  split; omega
  exact x.p.lt _
theorem Kept.of_only {b0 s g : Nat} {A B : World} (h : Only g A B) (h1 : g ≠ b0) (h2 : g < s) : Kept b0 s A B :=
  ⟨h.size, fun k o hk ho => (h.block k (Array.getElem?_eq_some_iff.1 ho).1 (fun e => by injection e with e; rcases hk with rfl | hk <;> omega)).trans ho⟩
theorem quiet_int {o : Oper} {a : Act} {C : World → Prop} {K : Act → Prop} (x : Operand) (ho : o.op = .load 3 x) (p : Addr) (hx : a.eval x = .pointer (some p)) (k : Int) (hc : ∀ w, C w → w.cell? p = some (.int .i64 k))
    (hk : K (a.put o.dst (.int .i64 k))) : o.quiet Try.prog a C K := by
  refine ⟨_, fun w hw => ?_, hk⟩
  have h := hc w hw
  unfold Oper.quietAt execOp
  simp only [ho, hx]
  go_simp
  first | done | exact ⟨rfl, hw⟩ | exact hw
/-- What the rounds keep. -/
structure RI (x : InoV) (w : World) (bR bM k : Nat) (W : World) : Prop where
  low : Below w.heap.size w W
  res : MVar W bR (fun _ => 0)
  im : MVar W bM (imgK x k)
set_option maxRecDepth 100000 in
set_option maxHeartbeats 4000000 in
theorem imageOf_in (F : Fence) (m : Nat) (hW : F = Fence.wide) (hF : ∀ f, F.fn f) (hro : F.round = none) (hm : 6 ≤ m) (x : InoV) (hx : x.Fits) (hmay : MayI x) (w : World) :
    CallsIn F m Try.prog 18 #[.agg (ics x)] w fun e w' => e = .returned (.agg (im64 (imgI x))) ∧ Below w.heap.size w w' := by
  have hz := fun W => zero_im W
  have hm1 : 1 ≤ m := by omega
  have lift : Hid (∀ n f args W R, Calls Try.prog f args W R → CallsIn F n Try.prog f args W R) := Lib.hid fun _ _ _ _ _ h => by subst hW; exact callsIn_wide.2 h
  have IT : Hid (∀ W b0 m, 2 ≤ m → IVar W b0 x → IterGo F m Try.prog 32 #[.pointer (some ⟨b0, 0, none⟩)] 16 (spanN x) b0 W) := Lib.hid fun W b0 m h V => by subst hW; exact nums_iter x hx hmay W b0 m h V
  have HF := Lib.hid hF
  have HW := Lib.hid hW
  have FX := Lib.hid hx
  have MX := Lib.hid hmay
  obtain ⟨w1, e1⟩ : ∃ w1, ((w.alloc (.cells (ics x) 27)).alloc (.cells (im64 fun _ => 0) 48)).alloc (.cells (im64 fun _ => 0) 48) = w1 := ⟨_, rfl⟩
  have q0 : IVar (w.alloc (.cells (ics x) 27)) w.heap.size x := heap_alloc_new w _
  have q1 : MVar ((w.alloc (.cells (ics x) 27)).alloc (.cells (im64 fun _ => 0) 48)) (w.heap.size + 1) (fun _ => 0) := heap_alloc2_new w _ _
  have q2 : MVar w1 (w.heap.size + 2) (imgK x 0) := by
    rw [← e1]
    have := heap_alloc2_new (w.alloc (.cells (ics x) 27)) (.cells (im64 fun _ => 0) 48) (.cells (im64 fun _ => 0) 48)
    rwa [World.size_alloc] at this
  have V1 : Hid (IVar w1 w.heap.size x) := Lib.hid (by rw [← e1]; exact (q0.below (below_new _ _)).below (below_new _ _))
  have R1 : Hid (MVar w1 (w.heap.size + 1) (fun _ => 0)) := Lib.hid (by rw [← e1]; exact q1.below (below_new _ _))
  have M1 := Lib.hid q2
  have B1 : Hid (Below w.heap.size w w1) := Lib.hid (by rw [← e1]; exact ((below_new w _).trans ((below_new _ _).mono (by simp))).trans ((below_new _ _).mono (by simp; omega)))
  have S1 : Hid (w1.heap.size = w.heap.size + 3) := Lib.hid (by rw [← e1]; simp)
  clear q0 q1 q2 hW hx hmay
  refine callsIn_of_wp_marks Try.func18 rfl (hF _) ?_ hro
  simp only [Try.ntmps18, List.size_toArray, List.length_cons, List.length_nil, Nat.reduceAdd, Nat.reduceSub, Array.replicate_succ, Array.replicate_zero, List.push_toArray, List.append_toArray, List.nil_append, List.cons_append]
  gi_wp2_with (first
    | (refine load_ino_in rfl (.tmp 1) rfl w.heap.size 0 rfl x V1.out.at ?_)
    | (gi_at_call 27; refine (lift.out _ _ _ _ _ (numbers_box x _)).mono ?_; rintro e w2 ⟨b0, rfl, hb2, hv2, hz2⟩))
  have V2 := Lib.hid hv2
  have R2 := Lib.hid (R1.out.below hb2)
  have M2 := Lib.hid (M1.out.below hb2)
  have B2 := Lib.hid (B1.out.trans (hb2.mono B1.out.size))
  have Z2 : Hid (w.heap.size + 3 ≤ b0) := Lib.hid (by rw [← S1.out]; exact hz2)
  clear V1 R1 M1 B1 S1 hb2 hv2 hz2
  obtain ⟨bR, hbR⟩ : ∃ b, w.heap.size + 1 = b := ⟨_, rfl⟩
  obtain ⟨bM, hbM⟩ : ∃ b, w.heap.size + 1 + 1 = b := ⟨_, rfl⟩
  have Z : Hid (w.heap.size < bR ∧ bR < bM ∧ bM < b0 ∧ b0 < w2.heap.size) := Lib.hid ⟨by omega, by omega, by have := Z2.out; omega, V2.out.lt⟩
  rw [show w.heap.size + 2 = w.heap.size + 1 + 1 from rfl, hbM] at M2
  rw [hbM]
  rw [hbR] at R2 ⊢
  clear hbR hbM Z2 e1
  refine wpIn_range_go hro hm1 (gf := 32) (lb := #[.pointer (some ⟨b0, 0, none⟩)]) rfl (hF _) (enters_of Try.func32 (by kernel_rfl) rfl)
    (IT.out w2 b0 _ (by omega) V2.out) V2.out.lt (Below.refl _ _) (fun _ => rfl)
    (fun k W => RI x w bR bM k W)
    (fun k A B h hb => ⟨h.low.trans (hb.mono (by have := Z.out; omega)), (hb.block _ (by have := Z.out; omega)).trans h.res, (hb.block _ (by have := Z.out; omega)).trans h.im⟩)
    ⟨B2.out, R2.out, M2.out⟩
    (fun k a W => ∃ bp, w2.heap.size + 2 ≤ bp ∧ W.heap[bp]? = some (.cells (spn k) 60 (0, 0)) ∧ a = { tmps := #[.agg (ics x), .pointer (some ⟨w.heap.size, 0, none⟩), .pointer (some ⟨bR, 0, none⟩), .pointer (some ⟨bM, 0, none⟩), .pointer (some ⟨bp, 0, none⟩), .int .u32 ((valI x k : Nat) : Int), .agg (ics x), .func (.func 32) #[] #[.pointer (some ⟨b0, 0, none⟩)], .agg (spn k), .int .u32 ((valI x k : Nat) : Int), undef, undef, undef, undef, undef, undef, undef, undef, undef, undef, undef, undef, undef, undef, undef, undef, undef, undef, undef, undef, undef, undef], defers := [] } ∧ RI x w bR bM k W)
    (fun k a W o ⟨bp, h1, h2, h3, h4⟩ => ⟨bp, h1, (World.putObj_heap_other (by omega)).trans h2, h3, h4.low.trans (below_putObj W (by have := Z.out; omega) o), h4.res.put (by have := Z.out; omega) o, h4.im.put (by have := Z.out; omega) o⟩) ?assign ?body ?done
  case assign =>
    rintro l k W K hk hsz hri hK
    have hb := below_new W (.cells (spn k) 60)
    have HK := Lib.hid (hK _ _ ⟨W.heap.size, hsz, heap_alloc_new W _, rfl, hri.low.trans (hb.mono hri.low.size), hri.res.below hb, hri.im.below hb⟩ hb)
    clear hK hri hb
    unfold spanN
    change Hid (K _ _) at HK
    unfold spn at HK
    gi_wp2
    exact HK.out
  case body =>
    rintro l k a W hk ⟨bp, hbp, hp, rfl, hri⟩
    have c0 : W.cell? ⟨bp, 0, none⟩ = some (.int .i64 (atN k)) := (cell_of_row W bp 0 _ _ _ hp).trans rfl
    have c1 : W.cell? ⟨bp, 1, none⟩ = some (.int .i64 (byN k)) := (cell_of_row W bp 1 _ _ _ hp).trans rfl
    have HR := Lib.hid hri
    have HB := Lib.hid hbp
    clear hp hri hbp
    match k, hk with
    | 0, _ =>
      replace c0 : W.cell? ⟨bp, 0, none⟩ = some (.int .i64 0) := c0
      replace c1 : W.cell? ⟨bp, 1, none⟩ = some (.int .i64 1) := c1
      have cm := HR.out.im.cells.cell 0 (by omega)
      have fm := HR.out.im.cells.frozen 0
      rw [show valI x 0 = x.kd from rfl]
      have hk8 := FX.out.kd
      have hw : IntKind.u8.wrap ((x.kd : Nat) : Int) = ((x.kd : Nat) : Int) := by rw [IntKind.wrap_u8]; omega
      gi_wp2
      have hne : bM ≠ bR := by have := Z.out; omega
      exact ⟨Kept.setCell W (by have := Z.out; show bM ≠ b0; omega) (by have := Z.out; show bM < w2.heap.size; omega) _, HR.out.low.setCell (p := ⟨bM, 0, none⟩) (by have := Z.out; show w.heap.size ≤ bM; omega) _,
        (Below.heap_setCell W ⟨bM, 0, none⟩ _ bR (by show bR ≠ bM; omega)).trans HR.out.res, by rw [imgK_1]; exact HR.out.im.set 0 x.kd⟩
    | 1, _ =>
      replace c0 : W.cell? ⟨bp, 0, none⟩ = some (.int .i64 2) := c0
      replace c1 : W.cell? ⟨bp, 1, none⟩ = some (.int .i64 2) := c1
      have hv : valI x 1 ≤ 65535 := by have := MX.out.small; show x.ln.toNat ≤ 65535; omega
      gi_wp2_with fail
      have eW := HW.out
      subst eW
      refine round_class_tail (fun W' => W' = W.drew) 4 (by kernel_rfl) (by kernel_rfl) (by rintro ⟨_, _, h⟩; exact h) (by kernel_rfl) rfl ?_
      simp only [List.take_succ_cons, List.take_zero, List.drop_succ_cons, List.drop_zero]
      repeat (first | go_big_quiet_skip | (go_big_quiet_want; first | (refine quiet_int _ rfl _ rfl _ (by intro w' hw'; rw [hw']; exact c0) ?_; simp only [Act.put, List.setIfInBounds_toArray, List.set_cons_zero, List.set_cons_succ]; go_big_quiet_on) | (go_big_quiet_op; first | go_big_quiet_on | (apply Exists.intro; refine ⟨fun _ _ => ?_, ?_⟩; (with_reducible exact rfl); go_big_quiet_on))))
      refine wpQuiet_nil ?_
      rintro w3 rfl
      have CP : Hid (Calls Try.prog 28 #[.slice (some ⟨bM, 0, none⟩) 64 64, .int .i64 2, .int .u32 ((valI x 1 : Nat) : Int)] W.drew fun e w' => e = .returned (.bool true) ∧ w' = set16 W.drew bM 2 (valI x 1)) := Lib.hid (Put16_w bM 64 64 2 (valI x 1) (imgK x 1) W.drew (by omega) (HR.out.im.drewN 1).cells (by omega) hv)
      go_wp2_with (go_at_call 28; with_reducible refine CP.out.mono ?_; rintro e w' ⟨rfl, rfl⟩)
      have hO : Only bM W (set16 W.drew bM 2 (valI x 1)) := (Only.drewN bM W 1).trans (Only.set16 _ _ _ _)
      exact ⟨Kept.of_only hO (by have := Z.out; omega) (by have := Z.out; omega), HR.out.low.trans (hO.below (by have := Z.out; omega) HR.out.low.size), hO.im (by have := Z.out; omega) HR.out.res, by rw [imgK_2]; exact (HR.out.im.drewN 1).set16 2 _⟩
    | j + 2, hj =>
      replace c0 : W.cell? ⟨bp, 0, none⟩ = some (.int .i64 ((4 * j + 4 : Nat) : Int)) := by
        rw [c0]; unfold atN; rw [if_neg (by omega), if_neg (by omega), show 4 * (j + 2) - 4 = 4 * j + 4 by omega]
      replace c1 : W.cell? ⟨bp, 1, none⟩ = some (.int .i64 4) := by
        rw [c1]; unfold byN; rw [if_neg (by omega), if_neg (by omega)]; rfl
      have hv := valI_lt FX.out MX.out (j + 2)
      have hj14 : j < 14 := by omega
      gi_wp2_with fail
      have eW := HW.out
      subst eW
      refine round_class_tail (fun W' => W' = W.drew) 4 (by kernel_rfl) (by kernel_rfl) (by rintro ⟨_, _, h⟩; exact h) (by kernel_rfl) rfl ?_
      simp only [List.take_succ_cons, List.take_zero, List.drop_succ_cons, List.drop_zero]
      repeat (first | go_big_quiet_skip | (go_big_quiet_want; first | (refine quiet_int _ rfl _ rfl _ (by intro w' hw'; rw [hw']; exact c0) ?_; simp only [Act.put, List.setIfInBounds_toArray, List.set_cons_zero, List.set_cons_succ]; go_big_quiet_on) | (go_big_quiet_op; first | go_big_quiet_on | (apply Exists.intro; refine ⟨fun _ _ => ?_, ?_⟩; (with_reducible exact rfl); go_big_quiet_on))))
      refine wpQuiet_nil ?_
      rintro w3 rfl
      have CP : Hid (Calls Try.prog 29 #[.slice (some ⟨bM, 0, none⟩) 64 64, .int .i64 (4 * (j : Int) + 4), .int .u32 ((valI x (j + 2) : Nat) : Int)] W.drew fun e w' => e = .returned (.bool true) ∧ w' = set32 W.drew bM (4 * j + 4) (valI x (j + 2))) := Lib.hid (by
        have q := Put32_w bM 64 64 (4 * j + 4) (valI x (j + 2)) (imgK x (j + 2)) W.drew (by omega) (HR.out.im.drewN 1).cells (by omega) hv
        rwa [show ((4 * j + 4 : Nat) : Int) = 4 * (j : Int) + 4 by omega] at q)
      go_wp2_with (go_at_call 29; with_reducible refine CP.out.mono ?_; rintro e w' ⟨rfl, rfl⟩)
      have hO : Only bM W (set32 W.drew bM (4 * j + 4) (valI x (j + 2))) := (Only.drewN bM W 1).trans (Only.set32 _ _ _ _)
      exact ⟨Kept.of_only hO (by have := Z.out; omega) (by have := Z.out; omega), HR.out.low.trans (hO.below (by have := Z.out; omega) HR.out.low.size), hO.im (by have := Z.out; omega) HR.out.res, by rw [imgK_3]; exact (HR.out.im.drewN 1).set32 _ _⟩
  case done =>
    rintro D W hD hri hK
    have HRI := Lib.hid hri
    have HK := Lib.hid hK
    have HD := Lib.hid hD
    clear hri hK hD
    gi_wp2_with (first
      | (refine load_im_in rfl (.tmp 3) rfl bM 0 rfl (imgK x 16) HRI.out.im.at ?_)
      | (refine store_rowM_in rfl (.tmp 2) (.tmp 31) rfl bR (imgK x 16) _ rfl rfl HRI.out.res ?_))
    have HR2 := Lib.hid ((HRI.out.res.rowset (imgK x 16)).put (r := D) (by have := HD.out; have := Z.out; omega) (.deferred none))
    refine leave_mark (by rw [setRow_other _ _ _ _ (by have := HD.out; have := Z.out; omega)]; exact HK.out) (results_cell_row Try.results18 _ _ bR 48 (im64 (imgK x 16)) (0, 0) _ rfl HR2.out Try.underlying48 rfl (by rw [im64_size]; exact im_size)) ⟨rfl, (below_setRow HRI.out.low (by have := Z.out; omega) _).trans (below_putObj _ (by have := HD.out; have := Z.out; omega) _)⟩
theorem imageOf_any (x : InoV) (hx : x.Fits) (hmay : MayI x) (w : World) : Calls Try.prog 18 #[.agg (ics x)] w fun e w' => e = .returned (.agg (im64 (imgI x))) ∧ Below w.heap.size w w' :=
  callsIn_wide.1 (imageOf_in Fence.wide 6 rfl (fun _ => trivial) rfl (Nat.le_refl _) x hx hmay w)
end Go.Proofs.Ytfijagjkgmhimaa
