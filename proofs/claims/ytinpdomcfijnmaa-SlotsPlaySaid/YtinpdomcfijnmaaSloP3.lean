import Derived.Test.YtinpdomcfijnmaaSloP2
namespace Go.Proofs.Ytinpdomcfijnmaa
open Go.RowKit

/-! The landed told. -/
section
variable {ops : Array Oper} {rest : List Oper} {op : Oper} {a : Act} {w : World} {Q : Exit → Act → World → Prop}
theorem store_slv (hgd : op.guard = none) (x y : Operand) (ho : op.op = .store 33 x y) (b : Nat) (s t : SlotV) (hx : a.eval x = .pointer (some ⟨b, 0, none⟩)) (hy : a.eval y = .agg (sls s)) (hb : SVar w b t)
    (h : wpList Try.prog ops Q rest (a.put op.dst undef) (w.setRow b (sls s))) : wpList Try.prog ops Q (op :: rest) a w := by
  refine wpList_plain hgd fun _ hK => ?_
  unfold Oper.wp execOp
  have e := run_storeVar_row (P := Try.prog) w b 33 33 (sls t) (sls s) hb slot_size2 rfl (sls_one s)
  simp only [ho, hx, hy, Instr.storeAt, Instr.sureAddr, Sem.run_bind, Sem.run_pure, Result.andThen_ok, e]
  exact hK _ _ h
end
theorem SVar.setRow {w : World} {b : Nat} {t : SlotV} (h : SVar w b t) (s : SlotV) : SVar (w.setRow b (sls s)) b s := by
  unfold SVar at *
  unfold World.setRow
  simp [Array.getElem?_modify, h]
theorem res_sl {fn : Func} {p u : Tmp} (h : fn.results = #[.cell p 33, .tmp u]) (tmps : Array Value) (w : World) (g : Nat) (x : SlotV) (v : Value) (hp : tmps.getD p undef = .pointer (some ⟨g, 0, none⟩)) (hu : tmps.getD u undef = v) (hg : SVar w g x) :
    (results fn tmps).run Try.prog w = .ok (.tuple #[.agg (sls x), v]) w := by
  have hp' : tmps[p]?.getD undef = .pointer (some ⟨g, 0, none⟩) := by simpa using hp
  have hu' : tmps[u]?.getD undef = v := by simpa using hu
  simp [results, h, hp', hu', asAddr, run_loadVar_row w g 33 33 (sls x) (0, 0) _ hg Try.underlying33 rfl slot_size2]
set_option maxRecDepth 100000 in
set_option maxHeartbeats 4000000 in
theorem pTold (b o : Nat) (f : Nat → Nat) (w : World) (hR : Row w (some ⟨b, o, none⟩) 32 f) : Calls Try.prog 34 #[.slice (some ⟨b, o, none⟩) 32 32] w fun e w' => e = .returned (.tuple #[.agg (sls (toldS f)), .bool (decide (RightB f))]) ∧ Below w.heap.size w w' := by
  have hz := fun W => zero_slot W
  have R0 := Lib.hid (hR.below (below_new w (.cells (sls .free) 33)))
  have S0 := Lib.hid (SVar.new w .free)
  have B0 := Lib.hid (below_new w (.cells (sls .free) 33))
  have hf := hR.1
  clear hR
  by_cases h0 : ∀ i, i < 32 → f i = 0
  · have E := Lib.hid (right_all0 h0)
    have CZ := Lib.hid fun W (q : Row W (some ⟨b, o, none⟩) 32 f) => Zero_yes (some ⟨b, o, none⟩) 32 32 f W (by omega) q h0
    clear h0 hf
    go_enter Try.func34, Try.ntmps34
    go_upto_region 1 with fail
    clear hz
    generalize w.alloc (.cells (sls .free) 33) = w1 at R0 S0 B0 ⊢
    go_wp2_with (first
      | (go_at_call 37; with_reducible refine (CZ.out _ R0.out).mono ?_; rintro e w2 ⟨rfl, rfl⟩)
      | (refine build_slot rfl #[] rfl .free slot_built0 ?_)
      | (refine store_slv rfl (.tmp 2) (.tmp 11) rfl w.heap.size .free .free rfl rfl S0.out ?_))
    exact bodyPost_ret (res_sl Try.results34 _ _ w.heap.size .free (.bool true) rfl rfl (S0.out.setRow .free)) rfl ⟨by rw [told_right E.out.1, E.out.2, decide_eq_true E.out.1], below_setRow B0.out (Nat.le_refl _) _⟩
  obtain ⟨j, hj, hn⟩ : ∃ j, j < 32 ∧ f j ≠ 0 := by
    refine Classical.byContradiction fun q => h0 fun i hi => Classical.byContradiction fun u => q ⟨i, hi, u⟩
  have CZ := Lib.hid fun W (q : Row W (some ⟨b, o, none⟩) 32 f) => Zero_no (some ⟨b, o, none⟩) 32 32 f W j (by omega) q hj (by omega)
  have CG := Lib.hid fun W (q : Row W (some ⟨b, o, none⟩) 32 f) => Get32_yes (some ⟨b, o, none⟩) 32 32 0 f W (by omega) q (by omega) (by omega)
  simp only [Int.toNat_zero] at CG
  obtain ⟨ino, hino⟩ : ∃ ino, g32 f 0 = ino := ⟨_, rfl⟩
  rw [hino] at CG
  obtain ⟨L, hL⟩ : ∃ L, f 4 = L := ⟨_, rfl⟩
  have HF := Lib.hid hf
  have L256 : L < 256 := by rw [← hL]; exact hf 4
  clear h0 hf
  by_cases i0 : ino = 0
  · have E := Lib.hid (wrong_ino0 hj hn (hino.trans i0))
    subst i0
    clear hj hn hino
    go_enter Try.func34, Try.ntmps34
    go_upto_region 1 with fail
    clear hz
    generalize w.alloc (.cells (sls .free) 33) = w1 at R0 S0 B0 ⊢
    have c4 : w1.cell? ⟨b, o + 4, none⟩ = some (.int .u8 ((L : Nat) : Int)) := by
      obtain ⟨_, _, e, _, hc⟩ := R0.out.2 (by omega)
      injection e with e
      injection e with e1 e2 _
      subst e1 e2
      rw [← hL]; exact hc 4 (by omega)
    go_wp2_with (first
      | (go_at_call 37; with_reducible refine (CZ.out _ R0.out).mono ?_; rintro e w2 ⟨rfl, rfl⟩)
      | (go_at_call 38; with_reducible refine (CG.out _ R0.out).mono ?_; rintro e w2 ⟨rfl, rfl⟩)
      | (refine build_slot rfl #[] rfl .free slot_built0 ?_)
      | (refine store_slv rfl (.tmp 2) (.tmp 27) rfl w.heap.size .free .free rfl rfl S0.out ?_))
    exact bodyPost_ret (res_sl Try.results34 _ _ w.heap.size .free (.bool false) rfl rfl (S0.out.setRow .free)) rfl ⟨by rw [told_wrong E.out, decide_eq_false E.out], below_setRow B0.out (Nat.le_refl _) _⟩
  have t0 : (((ino : Nat) : Int) == 0) = false := by rw [beq_eq_false_iff_ne]; omega
  by_cases h27 : L ≤ 27
  rotate_left
  · have E : Hid (¬ RightB f) := Lib.hid (not_may hino i0 (fun q => h27 (by have := q.le; rwa [nameOf_size, hL] at this)))
    have t1 : decide ((27 : Int) < (L : Int)) = true := by simp; omega
    have v1 : (27 : Int) < (L : Int) := by omega
    clear hj hn hino i0 h27
    go_enter Try.func34, Try.ntmps34
    go_upto_region 1 with fail
    clear hz
    generalize w.alloc (.cells (sls .free) 33) = w1 at R0 S0 B0 ⊢
    have c4 : w1.cell? ⟨b, o + 4, none⟩ = some (.int .u8 ((L : Nat) : Int)) := by
      obtain ⟨_, _, e, _, hc⟩ := R0.out.2 (by omega)
      injection e with e
      injection e with e1 e2 _
      subst e1 e2
      rw [← hL]; exact hc 4 (by omega)
    go_wp2_with (first
      | (go_at_call 37; with_reducible refine (CZ.out _ R0.out).mono ?_; rintro e w2 ⟨rfl, rfl⟩)
      | (go_at_call 38; with_reducible refine (CG.out _ R0.out).mono ?_; rintro e w2 ⟨rfl, rfl⟩)
      | (refine build_slot rfl #[] rfl .free slot_built0 ?_)
      | (refine store_slv rfl (.tmp 2) (.tmp 27) rfl w.heap.size .free .free rfl rfl S0.out ?_))
    exact bodyPost_ret (res_sl Try.results34 _ _ w.heap.size .free (.bool false) rfl rfl (S0.out.setRow .free)) rfl ⟨by rw [told_wrong E.out, decide_eq_false E.out], below_setRow B0.out (Nat.le_refl _) _⟩
  have t1 : decide ((27 : Int) < (L : Int)) = false := by simp; omega
  have v1 : ¬ (27 : Int) < (L : Int) := by omega
  obtain ⟨nm, hnm⟩ : ∃ nm, nameOf (fun k => f (5 + k)) L = nm := ⟨_, rfl⟩
  have SA : Hid (slotAt f = ⟨ino, nm⟩) := Lib.hid (by rw [slotAt_some hino i0, hL, hnm])
  have EW : Hid (¬ MayN nm → ¬ RightB f) := Lib.hid fun q => not_may hino i0 (by rw [hL, hnm]; exact q)
  have ER : Hid (MayN nm → (RightB f ↔ ∀ k, k < 27 - L → f (5 + L + k) = 0)) := Lib.hid fun q => by
    have := right_some HF.out hino i0 (by omega) (by rw [hL, hnm]; exact q)
    rwa [hL] at this
  have w5 : IntKind.i64.wrap (5 + (L : Int)) = 5 + (L : Int) := by rw [IntKind.wrap_i64]; omega
  have x5 : (5 + (L : Int)).toNat = 5 + L := by omega
  have n0 : (0 : Int) ≤ (L : Int) := by omega
  clear hj hn
  go_enter Try.func34, Try.ntmps34
  go_upto_region 1 with fail
  clear hz
  generalize w.alloc (.cells (sls .free) 33) = w1 at R0 S0 B0 ⊢
  have c4 : w1.cell? ⟨b, o + 4, none⟩ = some (.int .u8 ((L : Nat) : Int)) := by
    obtain ⟨_, _, e, _, hc⟩ := R0.out.2 (by omega)
    injection e with e
    injection e with e1 e2 _
    subst e1 e2
    rw [← hL]; exact hc 4 (by omega)
  have CV : ∀ c W, w1.heap = W.heap → (convert 58 9 (.slice (some ⟨b, o + 5, none⟩) L c)).run Try.prog W = .ok (.string nm) W := fun c W hW => by
    rw [← hnm]
    obtain ⟨_, _, e, _, hc⟩ := R0.out.2 (by omega)
    injection e with e
    injection e with e1 e2 _
    subst e1 e2
    refine to_name0 (fun k => HF.out _) fun j hj => ?_
    rw [Nat.add_assoc]
    have := hc (5 + j) (by omega)
    unfold World.cell? at this ⊢
    rw [← hW]; exact this
  go_upto_region 7 with (first
    | (go_at_call 37; with_reducible refine (CZ.out _ R0.out).mono ?_; rintro e w2 ⟨rfl, rfl⟩)
    | (go_at_call 38; with_reducible refine (CG.out _ R0.out).mono ?_; rintro e w2 ⟨rfl, rfl⟩))
  clear CZ CG c4 hino t0 t1
  have CV1 := fun c => CV c w1 rfl
  have CV2 := fun c k => CV c (w1.drewN k) rfl
  clear CV
  go_quiet (fail)
  have S2 : Hid (SVar (w1.drewN nq) w.heap.size .free) := Lib.hid (S0.out.keep rfl)
  have B2 : Hid (Below w.heap.size w (w1.drewN nq)) := Lib.hid (low_drewN B0.out nq)
  obtain ⟨A2, hA2⟩ : ∃ A2, (if 32 = 5 + L then some ⟨b, o, none⟩ else some ⟨b, o + (5 + L), none⟩ : Option Addr) = A2 := ⟨_, rfl⟩
  have R2 : Hid (Row (w1.drewN nq) A2 (32 - (5 + L)) (fun k => f (5 + L + k))) := Lib.hid ⟨fun k => HF.out _, fun hp => by
    obtain ⟨_, _, e, hl, hc⟩ := R0.out.2 (by omega)
    injection e with e
    injection e with e1 e2 _
    subst e1 e2
    refine ⟨b, o + (5 + L), by rw [← hA2, if_neg (by omega)], hl, fun k hk => ?_⟩
    rw [Nat.add_assoc]
    exact hc (5 + L + k) (by omega)⟩
  rw [hA2]
  clear hA2 CV1 CV2 S0 B0 R0 w5 x5
  generalize w1.drewN nq = w2 at S2 B2 R2 ⊢
  by_cases hm : MayN nm
  rotate_left
  · have E := Lib.hid (EW.out hm)
    have CM := Lib.hid fun W => pMayN nm W
    rw [decide_eq_false hm] at CM
    clear hm ER EW
    go_wp2_with (first
      | (go_at_call 15; with_reducible refine (CM.out _).mono ?_; rintro e w3 ⟨rfl, rfl⟩)
      | (refine build_slot rfl #[] rfl .free slot_built0 ?_)
      | (refine store_slv rfl (.tmp 2) (.tmp 45) rfl w.heap.size .free .free rfl rfl S2.out ?_))
    exact bodyPost_ret (res_sl Try.results34 _ _ w.heap.size .free (.bool false) rfl rfl (S2.out.setRow .free)) rfl ⟨by rw [told_wrong E.out, decide_eq_false E.out], below_setRow B2.out (Nat.le_refl _) _⟩
  have CM := Lib.hid fun W => pMayN nm W
  rw [decide_eq_true hm] at CM
  have ER2 := Lib.hid (ER.out hm)
  clear hm ER EW
  by_cases hz2 : ∀ k, k < 27 - L → f (5 + L + k) = 0
  · have E := Lib.hid (ER2.out.2 hz2)
    have CZ := Lib.hid (Zero_yes A2 (32 - (5 + L)) (32 - (5 + L)) _ w2 (by omega) R2.out (fun k hk => hz2 k (by omega)))
    clear hz2 ER2
    go_wp2_with (first
      | (go_at_call 15; with_reducible refine (CM.out _).mono ?_; rintro e w3 ⟨rfl, rfl⟩)
      | (go_at_call 37; with_reducible refine (CZ.out).mono ?_; rintro e w3 ⟨rfl, rfl⟩)
      | (refine store_slv rfl (.tmp 2) (.tmp 48) rfl w.heap.size ⟨ino, nm⟩ .free rfl rfl S2.out ?_))
    exact bodyPost_ret (res_sl Try.results34 _ _ w.heap.size ⟨ino, nm⟩ (.bool true) rfl rfl (S2.out.setRow _)) rfl ⟨by rw [told_right E.out, SA.out, decide_eq_true E.out], below_setRow B2.out (Nat.le_refl _) _⟩
  · have E : Hid (¬ RightB f) := Lib.hid fun q => hz2 (ER2.out.1 q)
    obtain ⟨k, hk, hn⟩ : ∃ k, k < 27 - L ∧ f (5 + L + k) ≠ 0 := by
      refine Classical.byContradiction fun q => hz2 fun i hi => Classical.byContradiction fun u => q ⟨i, hi, u⟩
    have CZ := Lib.hid (Zero_no A2 (32 - (5 + L)) (32 - (5 + L)) _ w2 k (by omega) R2.out (by omega) (Nat.pos_of_ne_zero hn))
    clear hz2 ER2 hn hk
    go_wp2_with (first
      | (go_at_call 15; with_reducible refine (CM.out _).mono ?_; rintro e w3 ⟨rfl, rfl⟩)
      | (go_at_call 37; with_reducible refine (CZ.out).mono ?_; rintro e w3 ⟨rfl, rfl⟩)
      | (refine build_slot rfl #[] rfl .free slot_built0 ?_)
      | (refine store_slv rfl (.tmp 2) (.tmp 45) rfl w.heap.size .free .free rfl rfl S2.out ?_))
    exact bodyPost_ret (res_sl Try.results34 _ _ w.heap.size .free (.bool false) rfl rfl (S2.out.setRow .free)) rfl ⟨by rw [told_wrong E.out, decide_eq_false E.out], below_setRow B2.out (Nat.le_refl _) _⟩
end Go.Proofs.Ytinpdomcfijnmaa
