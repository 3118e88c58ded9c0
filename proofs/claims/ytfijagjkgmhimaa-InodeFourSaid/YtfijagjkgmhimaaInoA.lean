import Derived.Test.YtfijagjkgmhimaaInoSay
import Derived.Test.YtfijagjkgmhimaaInv
namespace Go.Proofs.Ytfijagjkgmhimaa
open Go.RowKit

/-! awake: the chapter's examples. -/
def aw0 : InoV := ⟨1, 2, 3, 300, .zero, 5⟩
def aw1 : InoV := { aw0 with p := aw0.p.set 0 9 (by omega) }
def aw2 : InoV := { aw1 with p := aw1.p.set 10 7 (by omega) }
theorem aw2_fits : aw2.Fits := ⟨by decide, by decide, by decide, by decide, by decide⟩
theorem aw2_may : MayI aw2 := .inr (.inl ⟨rfl, by decide, by decide, by decide, by decide⟩)
theorem aw2_p0 : aw2.p.f 0 = 9 := by
  unfold aw2 aw1 Ptrs.set
  simp only
  rw [Ptrs.of_f (by omega), if_neg (by omega), Ptrs.of_f (by omega), if_pos rfl]
theorem aw2_p10 : aw2.p.f 10 = 7 := by
  unfold aw2 Ptrs.set
  simp only
  rw [Ptrs.of_f (by omega), if_pos rfl]
def awB : Blk := putIB .zero 64 aw2 aw2_fits.kd
theorem awB_is : IsI (cutB awB 64) aw2 := putIB_is aw2_fits aw2_may (by omega)
theorem aw_put : putI .zero 64 aw2 = (awB, 0) := putI_may (.inr (.inl rfl)) aw2_fits.kd aw2_may
theorem aw_put32 : putI awB 32 aw2 = (awB, 2) := putI_place (by decide)
def awK : InoV := ⟨3, 0, 0, 0, .zero, 0⟩
theorem awK_fits : awK.Fits := ⟨by decide, by decide, by decide, by decide, by decide⟩
theorem awK_not : ¬ MayI awK := by
  unfold MayI
  rintro (⟨h, _⟩ | ⟨h, _⟩ | ⟨h, _⟩) <;> exact absurd h (by decide)
theorem aw_put0 : putI awB 0 awK = (awB, 70) := putI_not (.inl rfl) awK_not
theorem aw_get : getI awB 64 = (aw2, 0) := getI_is (.inr (.inl rfl)) aw2_may awB_is
theorem aw_get0 : getI awB 0 = (.zero, 0) := by
  have h := get_other (X := .zero) (a := 64) (b := 0) (x := aw2) (by decide)
  rw [aw_put] at h
  rw [h]
  exact get_zero (.inl rfl)
theorem aw_small {f : Nat → Nat} (hf : ∀ i, f i < 256) (a v : Nat) (h : g32 f a = v) (hv : v < 256) : f a = v := by
  unfold g32 at h; have := hf a; omega
theorem aw_64 : awB.f 64 = 1 := awB_is.kd
theorem aw_66 : awB.f 66 = 2 := by
  have h : ((g16 (cutB awB 64) 2 : Nat) : Int) = 2 := awB_is.ln
  have : g16 (cutB awB 64) 2 = awB.f 66 + 256 * awB.f 67 := rfl
  have := awB.lt 66; have := awB.lt 67
  omega
theorem aw_72 : awB.f 72 = 44 ∧ awB.f 73 = 1 := by
  have h : ((g32 (cutB awB 64) 8 : Nat) : Int) = 300 := awB_is.sz
  have : g32 (cutB awB 64) 8 = awB.f 72 + 256 * awB.f 73 + 65536 * awB.f 74 + 16777216 * awB.f 75 := rfl
  have := awB.lt 72; have := awB.lt 73; have := awB.lt 74; have := awB.lt 75
  omega
theorem aw_76 : awB.f 76 = 9 := aw_small (cutB_lt awB 64) 12 9 ((awB_is.p 0 (by omega)).trans aw2_p0) (by omega)
theorem aw_116 : awB.f 116 = 7 := aw_small (cutB_lt awB 64) 52 7 ((awB_is.p 10 (by omega)).trans aw2_p10) (by omega)
theorem aw_120 : awB.f 120 = 5 := aw_small (cutB_lt awB 64) 56 5 awB_is.nx (by omega)
def awG : InoV := ⟨0, 0, 9, 0, .zero, 0⟩
theorem awG_fits : awG.Fits := ⟨by decide, by decide, by decide, by decide, by decide⟩
theorem awG_may : mayB awG = true := (mayB_iff _).2 (may_zero 9)
def awS : InoV := ⟨0, 0, 0, 1, .zero, 0⟩
theorem awS_fits : awS.Fits := ⟨by decide, by decide, by decide, by decide, by decide⟩
theorem awS_not : mayB awS = false := by
  rw [← Bool.not_eq_true, mayB_iff]
  unfold MayI
  rintro (⟨_, _, h, _⟩ | ⟨h, _⟩ | ⟨h, _⟩) <;> exact absurd h (by decide)
/-- What awake keeps in memory: the inode, the block. -/
structure AW (w0 : World) (bb : Nat) (X : Blk) (w : World) : Prop where
  low : Below w0.heap.size w0 w
  ino : IVar w w0.heap.size aw2
  blk : BVar w bb X
  at_ : w0.heap.size < bb
theorem AW.below {w0 w w' : World} {bb : Nat} {X : Blk} (h : AW w0 bb X w) (hb : Below w.heap.size w w') : AW w0 bb X w' := ⟨h.low.trans (hb.mono h.low.size), h.ino.below hb, h.blk.below hb, h.at_⟩
theorem AW.only {w0 w w' : World} {bb : Nat} {X Y : Blk} (h : AW w0 bb X w) (ho : Only bb w w') (hv : BVar w' bb Y) : AW w0 bb Y w' :=
  ⟨h.low.trans (ho.below (by have := h.at_; omega) h.low.size), ho.ino (by have := h.at_; omega) h.ino, hv, h.at_⟩
theorem AW.drewN {w0 w : World} {bb : Nat} {X : Blk} (h : AW w0 bb X w) (n : Nat) : AW w0 bb X (w.drewN n) := ⟨h.low.trans (Below.drewN (Below.refl _ w) n), h.ino, h.blk, h.at_⟩
def awV : Nat → Value → Prop
  | 0, v => v = .agg (ics aw2)
  | 1, v => v = .int .i64 0
  | 2, v => v = .agg (ics aw2)
  | 3, v => v = .int .i64 2
  | 4, v => v = .agg (ics awK)
  | 5, v => v = .int .i64 70
  | _, _ => True
def awD : Nat → Tmp
  | 0 => 15
  | 1 => 16
  | 2 => 17
  | 3 => 18
  | 4 => 19
  | _ => 20
/-- The block, as the calls have left it. -/
structure awS' (w0 : World) (bb : Nat) (seen : Array Bool) (w : World) : Prop where
  aw : AW w0 bb (if seen.getD 1 false = true then awB else .zero) w
  three : seen.getD 3 false = true → seen.getD 1 false = true
theorem getD_set_self {seen : Array Bool} {i : Nat} (h : i < seen.size) : (seen.setIfInBounds i true).getD i false = true := by simp [h]
theorem getD_set_other {seen : Array Bool} {i j : Nat} (h : i ≠ j) : (seen.setIfInBounds i true).getD j false = seen.getD j false := by
  simp [Array.getElem?_setIfInBounds_ne h]
theorem awS'_other {w0 w : World} {bb i : Nat} {seen : Array Bool} (h : awS' w0 bb seen w) (hi : i ≠ 1) (hj : i ≠ 3) : awS' w0 bb (seen.setIfInBounds i true) w := by
  obtain ⟨h1, h2⟩ := h
  refine ⟨by rwa [getD_set_other hi], ?_⟩
  rwa [getD_set_other hi, getD_set_other hj]
/-- An inode that is built, in such a region. -/
theorem op_build {o : Oper} {a : Act} {w : World} {K : Act → World → Prop} {Q : Exit → Act → World → Prop} {l : Array (Nat × Operand)} (ho : o.op = .build 27 l) (s : InoV) (hb : Try.prog.built 27 (l.toList.map fun p => (p.1, a.eval p.2)) = some (ics s))
    (hk : K (a.put o.dst (.agg (ics s))) w) : o.wp Try.prog a w K Q := wp_build 27 l ho (by simp [hb]) (by simpa [hb] using hk)
/-- An inode that is loaded, in such a region. -/
theorem op_ino {o : Oper} {a : Act} {w : World} {K : Act → World → Prop} {Q : Exit → Act → World → Prop} (x : Operand) (ho : o.op = .load 27 x) (b off : Nat) (hx : a.eval x = .pointer (some ⟨b, off, none⟩)) (s : InoV) (hc : IAt w b off s)
    (hk : K (a.put o.dst (.agg (ics s))) w) : o.wp Try.prog a w K Q := by
  refine wp_value (v := .agg (ics s)) (w' := w) ?_ hk
  unfold execOp
  have h := run_loadAt_mid (P := Try.prog) w b off 27 (ics s).toList _ hc Try.underlying27 rfl (ino_size s)
  simp only [ho, hx, h, Sem.run_bind, Sem.run_pure, Result.andThen_ok]
/-- A call of a function by its number, in such a region. -/
theorem op_call3 {o : Oper} {a : Act} {w : World} {K : Act → World → Prop} {Q : Exit → Act → World → Prop} {f : Nat} {y1 y2 y3 : Operand} {ts : Array TypeId} {v1 v2 v3 r : Value} (ho : o.op = .call { callee := .value (.func f), args := #[y1, y2, y3], argTypes := ts }) (h1 : a.eval y1 = v1) (h2 : a.eval y2 = v2) (h3 : a.eval y3 = v3)
    (hf : ∀ (args : Array Value) (w : World), (callFunc f args).run Try.prog w = .ok (.enter f args) w) {R : World → Prop} (hc : Calls Try.prog f #[v1, v2, v3] w fun e w' => e = .returned r ∧ R w') (hk : ∀ w', R w' → K (a.put o.dst r) w') : o.wp Try.prog a w K Q := by
  refine wp_enter (f := f) (args := #[v1, v2, v3]) (w' := w) ?_ (hc.mono fun e w' h => ⟨r, h.1, hk w' h.2⟩)
  have e2 : a.eval (.func f) = .func (.func f) #[] #[] := rfl
  unfold execOp
  simp only [ho]
  generalize a.eval = ev at h1 h2 h3 e2 ⊢
  have := hf #[v1, v2, v3] w
  simp [resolve, invoke, h1, h2, h3, e2, this, go_sem]
theorem put_enters : ∀ (args : Array Value) (w : World), (callFunc 10 args).run Try.prog w = .ok (.enter 10 args) w := enters_of Try.func10 (by kernel_rfl) rfl
set_option maxRecDepth 100000 in
set_option maxHeartbeats 4000000 in
theorem iAwake_any (hS : ISays) (w : World) : Calls Try.prog 16 #[] w fun e w' => e = .returned (.bool true) ∧ Below w.heap.size w w' := by
  have hz := fun W => zero_blk W
  have hzi := fun W => zero_ino W
  have HS := Lib.hid hS
  clear hS
  go_enter Try.func16, Try.ntmps16
  go_upto_region 2 with (first
    | (refine build_ino01235 rfl (.const (.int .u8 1)) (.const (.int .i64 2)) (.const (.int .u32 3)) (.const (.int .i64 300)) (.const (.int .u32 5)) rfl 1 3 5 2 300 rfl rfl rfl rfl rfl ?_)
    | (refine store_newI rfl (.tmp 1) (.tmp 10) rfl aw0 rfl rfl ?_))
  have b1 := Lib.hid (below_new w (.cells (ics aw0) 27))
  have i1 := Lib.hid (show IVar (w.alloc (.cells (ics aw0) 27)) w.heap.size aw0 from heap_alloc_new w _)
  generalize w.alloc (.cells (ics aw0) 27) = w1 at b1 i1 ⊢
  have c4 := i1.out.cell (ics_p aw0 (k := 0) (by omega))
  have c14 := i1.out.cell (ics_p aw0 (k := 10) (by omega))
  have f4 := i1.out.frozen 4
  have f14 := i1.out.frozen 14
  have i2 := Lib.hid ((i1.out.setP 0 9 (by omega) (by omega)).setP 10 7 (by omega) (by omega))
  have b2 := Lib.hid ((b1.out.setCell (p := ⟨w.heap.size, 4 + 0, none⟩) (Nat.le_refl _) (.int .u32 ((9 : Nat) : Int))).setCell (p := ⟨w.heap.size, 4 + 10, none⟩) (Nat.le_refl _) (.int .u32 ((7 : Nat) : Int)))
  go_upto_region 3 with fail
  have i3 : Hid (IVar ((w1.setCell ⟨w.heap.size, 4, none⟩ (.int .u32 9)).setCell ⟨w.heap.size, 14, none⟩ (.int .u32 7)) w.heap.size aw2) := i2
  have b3 : Hid (Below w.heap.size w ((w1.setCell ⟨w.heap.size, 4, none⟩ (.int .u32 9)).setCell ⟨w.heap.size, 14, none⟩ (.int .u32 7))) := b2
  clear c4 c14 f4 f14 i2 b2 i1 b1
  generalize (w1.setCell ⟨w.heap.size, 4, none⟩ (.int .u32 9)).setCell ⟨w.heap.size, 14, none⟩ (.int .u32 7) = w2 at i3 b3 ⊢
  go_upto_region 4 with fail
  have bn := below_new w2 (.cells (arr .zero) 23)
  have P : Hid (AW w w2.heap.size .zero (w2.alloc (.cells (arr .zero) 23))) := Lib.hid ⟨b3.out.trans (bn.mono b3.out.size), i3.out.below bn, heap_alloc_new w2 _, i3.out.lt⟩
  clear bn i3 b3
  generalize w2.alloc (.cells (arr .zero) 23) = w3 at P ⊢
  generalize w2.heap.size = bb at P ⊢
  refine wp_region_inv (n := 6) awD awV (awS' w bb) (by kernel_rfl) (by kernel_rfl) (by kernel_rfl) (by kernel_rfl) (by kernel_rfl) ⟨P.out.drewN 1, fun h => by simp at h⟩ ?_ ?_
  · intro i o a w5 seen hi ho hsz hk hs hun hdep
    have p1 : a.eval (.tmp 1) = .pointer (some ⟨w.heap.size, 0, none⟩) := (hk.eval (by decide)).trans rfl
    have p2 : a.eval (.tmp 2) = .pointer (some ⟨bb, 0, none⟩) := (hk.eval (by decide)).trans rfl
    have hsz : seen.size = 9 := hsz
    match i, ho with
    | 0, ho =>
      cases ho
      exact op_ino (.tmp 1) rfl w.heap.size 0 p1 aw2 hs.aw.ino.at ⟨_, rfl, rfl, awS'_other hs (by decide) (by decide)⟩
    | 1, ho =>
      cases ho
      have hs' : AW w bb .zero w5 := by have := hs.aw; rwa [if_neg (by rw [getD_both hun]; decide)] at this
      have e1 : a.eval (.tmp 15) = .agg (ics aw2) := (hdep ⟨0, .data⟩ (by simp) rfl).2
      have hc := HS.out.put bb .zero 64 aw2 w5 hs'.blk (by decide) (by decide) aw2_fits
      rw [aw_put] at hc
      exact op_call3 rfl p2 rfl e1 put_enters hc (fun w' hw => ⟨_, rfl, rfl, ⟨by rw [if_pos (getD_set_self (by omega))]; exact hs'.only hw.2 hw.1, fun _ => getD_set_self (by omega)⟩⟩)
    | 2, ho =>
      cases ho
      exact op_ino (.tmp 1) rfl w.heap.size 0 p1 aw2 hs.aw.ino.at ⟨_, rfl, rfl, awS'_other hs (by decide) (by decide)⟩
    | 3, ho =>
      cases ho
      have h1 : seen.getD 1 false = true := (hdep ⟨1, .chain⟩ (by simp) rfl).1
      have hs' : AW w bb awB w5 := by have := hs.aw; rwa [if_pos h1] at this
      have e1 : a.eval (.tmp 17) = .agg (ics aw2) := (hdep ⟨2, .data⟩ (by simp) rfl).2
      have hc := HS.out.put bb awB 32 aw2 w5 hs'.blk (by decide) (by decide) aw2_fits
      rw [aw_put32] at hc
      exact op_call3 rfl p2 rfl e1 put_enters hc (fun w' hw => ⟨_, rfl, rfl, ⟨by rw [getD_set_other (by decide), if_pos h1]; exact hs'.only hw.2 hw.1, fun _ => by rw [getD_set_other (by decide)]; exact h1⟩⟩)
    | 4, ho =>
      cases ho
      exact op_build rfl awK (show Try.prog.built 27 [(0, .int .u8 3)] = some (ics awK) from ino_built_k 3) ⟨_, rfl, rfl, awS'_other hs (by decide) (by decide)⟩
    | 5, ho =>
      cases ho
      have h1 : seen.getD 1 false = true := hs.three (hdep ⟨3, .chain⟩ (by simp) rfl).1
      have hs' : AW w bb awB w5 := by have := hs.aw; rwa [if_pos h1] at this
      have e1 : a.eval (.tmp 19) = .agg (ics awK) := (hdep ⟨4, .data⟩ (by simp) rfl).2
      have hc := HS.out.put bb awB 0 awK w5 hs'.blk (by decide) (by decide) awK_fits
      rw [aw_put0] at hc
      exact op_call3 rfl p2 rfl e1 put_enters hc (fun w' hw => ⟨_, rfl, rfl, ⟨by rw [getD_set_other (by decide), if_pos h1]; exact hs'.only hw.2 hw.1, fun _ => by rw [getD_set_other (by decide)]; exact h1⟩⟩)
  · intro a w5 hk hs hv
    obtain ⟨x, hx, ea⟩ := hk.lit2 103 rfl
    have h1 : a.eval (.tmp 16) = .int .i64 0 := hv 1 (by decide)
    have h3 : a.eval (.tmp 18) = .int .i64 2 := hv 3 (by decide)
    have h5 : a.eval (.tmp 20) = .int .i64 70 := hv 5 (by decide)
    rw [hx] at h1 h3 h5
    replace ea : a = { tmps := #[Value.bool false, Value.pointer (some ⟨w.heap.size, 0, none⟩), Value.pointer (some ⟨bb, 0, none⟩), undef, undef, undef, undef, undef, undef, undef, Value.agg (ics aw0), Value.pointer (some ⟨w.heap.size, 4, none⟩), Value.pointer (some ⟨w.heap.size, 4, none⟩), Value.pointer (some ⟨w.heap.size, 4, none⟩), Value.pointer (some ⟨w.heap.size, 14, none⟩), x 15, x 16, x 17, x 18, x 19, x 20, undef, undef, undef, undef, undef, undef, undef, undef, undef, undef, undef, undef, undef, undef, undef, undef, undef, undef, undef, undef, undef, undef, undef, undef, undef, undef, undef, undef, undef, undef, undef, undef, undef, undef, undef, undef, undef, undef, undef, undef, undef, undef, undef, undef, undef, undef, undef, undef, undef, undef, undef, undef, undef, undef, undef, undef, undef, undef, undef, undef, undef, undef, undef, undef, undef, undef, undef, undef, undef, undef, undef, undef, undef, undef, undef, undef, undef, undef, undef, undef, undef, undef], defers := [] } := ea
    rw [h1, h3, h5] at ea
    subst ea
    have P5 : Hid (AW w bb awB w5) := Lib.hid hs.aw
    clear hk hs hv hx h1 h3 h5 P
    simp only [List.drop_succ_cons, List.drop_zero]
    have CG := Lib.hid fun W => HS.out.get awB 64 W (by decide) (by decide)
    have CH := Lib.hid fun W => HS.out.get awB 0 W (by decide) (by decide)
    rw [aw_get] at CG
    rw [aw_get0] at CH
    go_upto_region 5 with fail
    go_upto_region 6 with (first
      | (refine load_blk rfl (.tmp 2) rfl bb 0 rfl awB P5.out.blk.at ?_)
      | (go_at_call 14; with_reducible refine (CG.out _).mono ?_; rintro e w6 ⟨rfl, hb⟩)
      | (refine store_newI rfl (.tmp 6) (.tmp 24) rfl aw2 rfl rfl ?_))
    have bn := below_new w6 (.cells (ics aw2) 27)
    have P6 := Lib.hid ((P5.out.below hb).below bn)
    have Y6 := Lib.hid (show IVar (w6.alloc (.cells (ics aw2) 27)) w6.heap.size aw2 from heap_alloc_new w6 _)
    clear hb bn P5 CG
    generalize w6.alloc (.cells (ics aw2) 27) = w7 at P6 Y6 ⊢
    generalize w6.heap.size = by_ at Y6 ⊢
    go_upto_region 7 with (first
      | (refine load_blk rfl (.tmp 2) rfl bb 0 rfl awB P6.out.blk.at ?_)
      | (go_at_call 14; with_reducible refine (CH.out _).mono ?_; rintro e w8 ⟨rfl, hb⟩)
      | (refine store_newI rfl (.tmp 8) (.tmp 29) rfl .zero rfl rfl ?_))
    have bn := below_new w8 (.cells (ics .zero) 27)
    have P8 := Lib.hid ((P6.out.below hb).below bn)
    have Y8 := Lib.hid ((Y6.out.below hb).below bn)
    have Z8 := Lib.hid (show IVar (w8.alloc (.cells (ics .zero) 27)) w8.heap.size .zero from heap_alloc_new w8 _)
    clear hb bn P6 Y6 CH
    generalize w8.alloc (.cells (ics .zero) 27) = w9 at P8 Y8 Z8 ⊢
    generalize w8.heap.size = bz at Z8 ⊢
    have d64 := P8.out.blk.at.cell (i := 64) (by omega); rw [aw_64] at d64
    have d66 := P8.out.blk.at.cell (i := 66) (by omega); rw [aw_66] at d66
    have d72 := P8.out.blk.at.cell (i := 72) (by omega); rw [aw_72.1] at d72
    have d73 := P8.out.blk.at.cell (i := 73) (by omega); rw [aw_72.2] at d73
    have d76 := P8.out.blk.at.cell (i := 76) (by omega); rw [aw_76] at d76
    have d116 := P8.out.blk.at.cell (i := 116) (by omega); rw [aw_116] at d116
    have d120 := P8.out.blk.at.cell (i := 120) (by omega); rw [aw_120] at d120
    have hg := ino_guard
    have he1 := fun W => equalIn_ino aw2 aw2 W
    have he2 := fun W => equalIn_ino .zero .zero W
    simp only [decide_true] at he1 he2
    have C1 := Lib.hid fun W => HS.out.may awG W awG_fits
    have C2 := Lib.hid fun W => HS.out.may awS W awS_fits
    rw [awG_may] at C1
    rw [awS_not] at C2
    clear HS
    go_wp2_with (first
      | (refine load_ino_w (by with_unfolding_all rfl) (.tmp 6) rfl by_ 0 rfl aw2 Y8.out.at ?_)
      | (refine load_ino_w (by with_unfolding_all rfl) (.tmp 1) rfl w.heap.size 0 rfl aw2 P8.out.ino.at ?_)
      | (refine load_ino_w (by with_unfolding_all rfl) (.tmp 8) rfl bz 0 rfl .zero Z8.out.at ?_)
      | (refine build_ino_w (by with_unfolding_all rfl) #[] rfl .zero ino_built0 ?_)
      | (refine build_ino_w (by with_unfolding_all rfl) #[(2, .const (.int .u32 9))] rfl awG (ino_built2 9) ?_)
      | (refine build_ino_w (by with_unfolding_all rfl) #[(3, .const (.int .i64 1))] rfl awS (ino_built_s 1) ?_)
      | (go_at_call 12; with_reducible refine (C1.out _).mono ?_; rintro e wa ⟨rfl, ha⟩)
      | (go_at_call 12; with_reducible refine (C2.out _).mono ?_; rintro e wb ⟨rfl, hb⟩))
    go_ret
    exact ⟨rfl, ((P8.out.below ha).below hb).low⟩
end Go.Proofs.Ytfijagjkgmhimaa
