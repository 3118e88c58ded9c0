import Derived.Test.YtmlmpflfejbbcaaDoorSuperL3
import Derived.Test.YtmlmpflfejbbcaaDoorSupA
namespace Go.Proofs.YtmlmpflfejbbcaaDoor
open Go.RowKit CrcM

/-! The law SuperBack: the stage's theorem. -/
structure BK (s : SuperV) (B : Blk) (g : GeoV) (A : Option Addr) (l : List DescV) (w0 w : World) : Prop where
  low : Below w0.heap.size w0 w
  sup : SVar w w0.heap.size s
  blk : BVar w (w0.heap.size + 1) B
  geo : GVar w (w0.heap.size + 2) g
  row : DRow w A l
theorem BK.below {s : SuperV} {B : Blk} {g : GeoV} {A : Option Addr} {l : List DescV} {w0 w w' : World} (h : BK s B g A l w0 w) (hb : Below w.heap.size w w') : BK s B g A l w0 w' :=
  ⟨h.low.trans (hb.mono h.low.size), h.sup.below hb, h.blk.below hb, h.geo.below hb, h.row.below hb⟩
theorem BK.alloc {s : SuperV} {B : Blk} {g : GeoV} {A : Option Addr} {l : List DescV} {w0 w : World} (h : BK s B g A l w0 w) (o : Obj) : BK s B g A l w0 (w.alloc o) := h.below ((Below.refl _ _).alloc (Nat.le_refl _) o)
theorem BK.start {s : SuperV} {B : Blk} {g : GeoV} {A : Option Addr} {l : List DescV} (w : World) (hl : DRow w A l) : BK s B g A l w (((w.alloc (.cells (scs s) 26)).alloc (.cells (arr B) 29)).alloc (.cells (gcs g) 23)) := by
  have h1 : SVar ((w.alloc (.cells (scs s) 26)).alloc (.cells (arr B) 29)) w.heap.size s := heap_alloc2_old w _ _
  have h2 : BVar ((w.alloc (.cells (scs s) 26)).alloc (.cells (arr B) 29)) (w.heap.size + 1) B := heap_alloc2_new w _ _
  have h3 := heap_alloc_new ((w.alloc (.cells (scs s) 26)).alloc (.cells (arr B) 29)) (.cells (gcs g) 23)
  rw [World.size_alloc, World.size_alloc] at h3
  have b1 : Below w.heap.size w (w.alloc (.cells (scs s) 26)) := (Below.refl _ _).alloc (Nat.le_refl _) _
  have b2 : ∀ (w : World) (o : Obj), Below w.heap.size w (w.alloc o) := fun w o => (Below.refl _ _).alloc (Nat.le_refl _) o
  exact ⟨(b1.alloc (by simp) _).alloc (by simp; omega) _, h1.below (b2 _ _), h2.below (b2 _ _), h3, ((hl.below b1).below (b2 _ _)).below (b2 _ _)⟩
theorem back_one (s : SuperV) (hs : s.Fits) : ∃ X e T f, writeS s = (X, e) ∧ readS X = (T, f) ∧ ((e = 0 ∧ f = 0 ∧ s = T) ∨ ((e == 0) = false ∧ (e != 0) = true ∧ X = .zero)) := by
  refine ⟨_, _, _, _, rfl, rfl, ?_⟩
  by_cases h : (writeS s).2 = 0
  · have hm := writeS_ok h
    refine .inl ⟨h, ?_⟩
    rw [writeS_may hm, read_write hm hs.o]
    exact ⟨rfl, rfl⟩
  · exact .inr ⟨(not_zero h).1, (not_zero h).2, writeS_no h⟩
theorem back_two (g : GeoV) (l : List DescV) : ∃ X e M f, writeD g l = (X, e) ∧ readD g X = (M, f) ∧ ((e = 0 ∧ f = 0 ∧ l = M) ∨ ((e == 0) = false ∧ (e != 0) = true ∧ X = .zero)) := by
  refine ⟨_, _, _, _, rfl, rfl, ?_⟩
  by_cases h : (writeD g l).2 = 0
  · have ⟨hg, hm⟩ := writeD_ok h
    refine .inl ⟨h, ?_⟩
    rw [writeD_may hg hm, read_writeD hg hm]
    exact ⟨rfl, rfl⟩
  · exact .inr ⟨(not_zero h).1, (not_zero h).2, writeD_no h⟩
theorem back_three (B : Blk) : ∃ U j, readS B = (U, j) ∧ U.Fits ∧ ((j = 0 ∧ writeS U = (B, 0)) ∨ ((j == 0) = false ∧ (j != 0) = true)) := by
  refine ⟨_, _, rfl, readS_fits B, ?_⟩
  by_cases h : (readS B).2 = 0
  · exact .inl ⟨h, write_read h⟩
  · exact .inr (not_zero h)
theorem back_four (g : GeoV) (B : Blk) : ∃ M o, readD g B = (M, o) ∧ ((o = 0 ∧ writeD g M = (B, 0)) ∨ ((o == 0) = false ∧ (o != 0) = true ∧ M = [])) := by
  refine ⟨_, _, rfl, ?_⟩
  by_cases h : (readD g B).2 = 0
  · exact .inl ⟨h, write_readD h⟩
  · exact .inr ⟨(not_zero h).1, (not_zero h).2, readD_no h⟩
theorem wpList_of_quiet {P : Program} {ops : Array Oper} {Q : Exit → Act → World → Prop} {C : World → Prop} : ∀ (l : List Oper) (a : Act) (w : World), C w → wpQuiet P ops C (fun a' => ∀ w', C w' → Q .normal a' w') l a → wpList P ops Q l a w
  | [], _, w, hC, h => h w hC
  | o :: l, a, w, hC, h => by
    unfold wpList
    unfold wpQuiet at h
    split
    · rename_i hw
      simp only [hw, if_true] at h
      exact .inl (Oper.wp_of_quiet hC (fun a' w' hw' hk => wpList_of_quiet l a' w' hw' hk) h)
    · rename_i hw
      simp only [hw] at h
      exact wpList_of_quiet l _ w hC h
/-- A region in the text's order, by the same quick steps. -/
theorem wp_region_text {P : Program} {id : Nat} {Q : Exit → Act → World → Prop} {a : Act} {w : World} {l : List Oper} (C : World → Prop) (hC : C w) (h : wpQuiet P l.toArray C (fun a' => ∀ w', C w' → Q .normal a' w') l a) : (Code.region id l.toArray false).wp P Q a w :=
  wp_region_lit (wpList_of_quiet l a w hC h)
theorem quiet_zeroB {o : Oper} {a : Act} {C : World → Prop} {K : Act → Prop} (ho : o.op = .build 29 #[]) (hk : K (a.put o.dst (.agg (arr .zero)))) : o.quiet Tryd.prog a C K := by
  refine ⟨_, fun w hw => ?_, hk⟩
  unfold Oper.quietAt execOp
  have h : Tryd.prog.built 29 ((#[] : Array (Nat × Operand)).map fun (i, x) => (i, a.eval x)).toList = some (arr .zero) := by simpa using built_zero
  simp only [ho, Sem.run_bind, run_build w 29 _ _ h, Result.andThen_ok, Sem.run_pure]
  exact ⟨rfl, rfl⟩
set_option maxRecDepth 100000 in
set_option maxHeartbeats 8000000 in
theorem superBack_any (hS : PSays) (hC : SumSays) (s : SuperV) (A : Option Addr) (n c : Nat) (l : List DescV) (B : Blk) (g : GeoV) (w : World) (hE : Env w) (hs : s.Fits) (hg : g.Fits) (hn : n = l.length) (hl : DRow w A l) :
    Calls Tryd.prog 5 #[.agg (scs s), .slice A n c, .agg (arr B), .agg (gcs g)] w fun e w' => e = .returned (.bool true) ∧ Below w.heap.size w w' := by
  have HS := Lib.hid hS
  have HC := Lib.hid hC
  have HE := Lib.hid hE
  have HN := Lib.hid hn
  have hz := fun W => zero_blk W
  have hzs := fun W => zero_super W
  have P : Hid (BK s B g A l w (((w.alloc (.cells (scs s) 26)).alloc (.cells (arr B) 29)).alloc (.cells (gcs g) 23))) := Lib.hid (BK.start w hl)
  have hmost := hl.most
  rw [← hn] at hmost
  clear hS hC hE hn hl
  obtain ⟨X1, e1, T1, f1, x1, x2, x3⟩ := back_one s hs
  obtain ⟨X2, e2, M2, f2, y1, y2, y3⟩ := back_two g l
  obtain ⟨U, j1, u1, u2, u3⟩ := back_three B
  obtain ⟨M4, o4, v1, v3⟩ := back_four g B
  have X3 := Lib.hid x3
  have Y3 := Lib.hid y3
  have U3 := Lib.hid u3
  have V3 := Lib.hid v3
  clear x3 y3 u3 v3
  go_enter Tryd.func5, Tryd.ntmps5
  go_wp2_with fail
  generalize ((w.alloc (.cells (scs s) 26)).alloc (.cells (arr B) 29)).alloc (.cells (gcs g) 23) = w1 at P ⊢
  refine (sAwake_any HS.out HC.out w1 (HE.out.below P.out.low)).mono ?_
  rintro e w2 ⟨rfl, hb⟩
  have P := Lib.hid (P.out.below hb)
  clear hb
  by_cases hbig : 1000 < n
  · go_wp2_with fail
    go_ret
    exact ⟨rfl, P.out.low⟩
  go_wp2_with (refine load_super rfl (.tmp 4) rfl w.heap.size 0 rfl s P.out.sup.at ?_)
  refine (HS.out.write s w2 hs (HE.out.below P.out.low)).mono ?_
  rintro e w3 ⟨rfl, hb⟩
  rw [x1]
  have P := Lib.hid (P.out.below hb)
  clear hb
  go_wp2_with (first
    | (refine store_newB rfl (.tmp 9) (.tmp 33) rfl X1 rfl rfl ?_)
    | (refine load_blk rfl (.tmp 9) rfl w3.heap.size 0 rfl X1 (BVar.new w3 X1).at ?_))
  have P := Lib.hid (P.out.alloc (.cells (arr X1) 29))
  have W9 := Lib.hid (BVar.new w3 X1)
  generalize w3.alloc (.cells (arr X1) 29) = w4 at P W9 ⊢
  generalize w3.heap.size = b9 at W9 ⊢
  refine (HS.out.read X1 w4 (HE.out.below P.out.low)).mono ?_
  rintro e w5 ⟨rfl, hb⟩
  rw [x2]
  have P := Lib.hid (P.out.below hb)
  have W9 := Lib.hid (W9.out.below hb)
  clear hb
  go_wp2_with (first
    | (refine store_newS rfl (.tmp 11) (.tmp 38) rfl T1 rfl rfl ?_)
    | (refine load_geo rfl (.tmp 7) rfl (w.heap.size + 2) 0 rfl g (P.out.alloc _).geo.at ?_))
  have P := Lib.hid (P.out.alloc (.cells (scs T1) 26))
  have W9 := Lib.hid (W9.out.alloc (.cells (scs T1) 26))
  have W11 := Lib.hid (show SVar (w5.alloc (.cells (scs T1) 26)) w5.heap.size T1 from heap_alloc_new w5 _)
  generalize w5.alloc (.cells (scs T1) 26) = w6 at P W9 W11 ⊢
  generalize w5.heap.size = b11 at W11 ⊢
  refine (HS.out.writeD g A n c l w6 hg (HE.out.below P.out.low) HN.out P.out.row).mono ?_
  rintro e w7 ⟨rfl, hb⟩
  rw [y1]
  have P := Lib.hid (P.out.below hb)
  have W9 := Lib.hid (W9.out.below hb)
  have W11 := Lib.hid (W11.out.below hb)
  clear hb
  go_wp2_with (first
    | (refine store_newB rfl (.tmp 13) (.tmp 44) rfl X2 rfl rfl ?_)
    | (refine load_geo rfl (.tmp 7) rfl (w.heap.size + 2) 0 rfl g (P.out.alloc _).geo.at ?_)
    | (refine load_blk rfl (.tmp 13) rfl w7.heap.size 0 rfl X2 (BVar.new w7 X2).at ?_))
  have P := Lib.hid (P.out.alloc (.cells (arr X2) 29))
  have W9 := Lib.hid (W9.out.alloc (.cells (arr X2) 29))
  have W11 := Lib.hid (W11.out.below ((Below.refl _ _).alloc (Nat.le_refl _) (.cells (arr X2) 29)))
  have W13 := Lib.hid (BVar.new w7 X2)
  generalize w7.alloc (.cells (arr X2) 29) = w8 at P W9 W11 W13 ⊢
  generalize w7.heap.size = b13 at W13 ⊢
  refine (HS.out.readD g X2 w8 hg (HE.out.below P.out.low)).mono ?_
  rw [y2]
  rintro e w9 ⟨A5, n5, c5, rfl, hn5, _, _, ho5, hb⟩
  have N5 := Lib.hid hn5
  have P := Lib.hid (P.out.below hb)
  have W9 := Lib.hid (W9.out.below hb)
  have W11 := Lib.hid (W11.out.below hb)
  have W13 := Lib.hid (W13.out.below hb)
  have R5 := Lib.hid ho5.row
  clear hb hn5 ho5
  rw [show ((M2, f2) : List DescV × Int).2 = f2 from rfl]
  rw [show ((M2, f2) : List DescV × Int).1 = M2 from rfl] at N5 R5
  have hg1 := blk_guard
  have hg2 := super_guard
  have heqB := fun W => equalIn_blk B B W
  simp only [decide_true] at heqB
  go_upto_region 9 with fail
  go_cut [94] from 52 to 94 (fun s94 wx => s94 = .bool false ∧ Below w9.heap.size w9 wx)
  case first =>
    clear x1 x2 y1 y2 u1 v1 U3 V3
    have h1 : ((e1 == 0) = true ∧ (e1 != 0) = false ∧ (f1 != 0) = false ∧ ∀ W, (Op.equalIn 10000 26 (.agg (scs T1)) (.agg (scs s))).run Tryd.prog W = .ok true W) ∨ ((e1 == 0) = false ∧ (e1 != 0) = true ∧ ∀ W, (Op.equalIn 10000 29 (.agg (arr X1)) (.agg (arr .zero))).run Tryd.prog W = .ok true W) := by
      rcases X3.out with ⟨rfl, rfl, hT⟩ | ⟨a1, a2, hX⟩
      · exact .inl ⟨rfl, rfl, rfl, fun W => by rw [← hT, equalIn_super, decide_eq_true rfl]⟩
      · exact .inr ⟨a1, a2, fun W => by rw [hX, equalIn_blk, decide_eq_true rfl]⟩
    have h2 : ((e2 == 0) = true ∧ (e2 != 0) = false ∧ (f2 != 0) = false ∧ l = M2) ∨ ((e2 == 0) = false ∧ (e2 != 0) = true ∧ ∀ W, (Op.equalIn 10000 29 (.agg (arr X2)) (.agg (arr .zero))).run Tryd.prog W = .ok true W) := by
      rcases Y3.out with ⟨rfl, rfl, hM⟩ | ⟨a1, a2, hX⟩
      · exact .inl ⟨rfl, rfl, rfl, hM⟩
      · exact .inr ⟨a1, a2, fun W => by rw [hX, equalIn_blk, decide_eq_true rfl]⟩
    have SM : Hid (l = M2 → ∀ W, More w9 W → Calls Tryd.prog 15 #[.slice A n c, .slice A5 n5 c5] W fun e w' => e = .returned (.bool true) ∧ Below W.heap.size W w') := Lib.hid fun hM W hC => (rSame_any A A5 n n5 c c5 l M2 W HN.out N5.out (P.out.row.below hC) (R5.out.below hC)).mono fun e w' h => ⟨by rw [h.1, decide_eq_true hM], h.2⟩
    clear X3 Y3
    rcases h1 with ⟨a1, a2, a3, a4⟩ | ⟨a1, a2, a4⟩ <;> rcases h2 with ⟨b1, b2, b3, b4⟩ | ⟨b1, b2, b4⟩
    all_goals try (have SM := Lib.hid (SM.out b4); clear b4)
    all_goals (
      refine wp_region_text (More w9) (Below.refl _ _) ?_
      repeat (first | go_big_quiet_skip | (go_big_quiet_want; first | (refine quiet_super (.tmp 11) rfl b11 0 (by rfl) _ (by intro w' hw'; exact (W11.out.below hw').at) ?_; simp only [Act.put, List.setIfInBounds_toArray, List.set_cons_zero, List.set_cons_succ]; go_big_quiet_on) | (refine quiet_super (.tmp 4) rfl w.heap.size 0 (by rfl) s (by intro w' hw'; exact (P.out.sup.below hw').at) ?_; simp only [Act.put, List.setIfInBounds_toArray, List.set_cons_zero, List.set_cons_succ]; go_big_quiet_on) | (refine quiet_load (.tmp 9) rfl b9 0 (by rfl) _ (by intro w' hw'; exact (W9.out.below hw').at) ?_; simp only [Act.put, List.setIfInBounds_toArray, List.set_cons_zero, List.set_cons_succ]; go_big_quiet_on) | (refine quiet_load (.tmp 13) rfl b13 0 (by rfl) _ (by intro w' hw'; exact (W13.out.below hw').at) ?_; simp only [Act.put, List.setIfInBounds_toArray, List.set_cons_zero, List.set_cons_succ]; go_big_quiet_on) | (refine quiet_zeroB rfl ?_; simp only [Act.put, List.setIfInBounds_toArray, List.set_cons_zero, List.set_cons_succ]; go_big_quiet_on) | (go_big_quiet_op; first | go_big_quiet_on | (apply Exists.intro; refine ⟨fun _ _ => ?_, ?_⟩; (with_reducible exact rfl); go_big_quiet_on) | go_big_quiet_call ((intro hC; (with_reducible refine (SM.out _ hC).mono ?_); exact fun e w' h => ⟨h.1, hC.on h.2⟩)))))
      refine wpQuiet_nil ?_
      intro wx hwx
      go_wp2_with fail
      go_meet
      exact ⟨rfl, hwx⟩)
  case rest =>
    obtain ⟨rfl, hbx⟩ := hcut
    have P := Lib.hid (P.out.below hbx)
    clear hbx W9 W11 W13 R5 N5 X3 Y3 x1 x2 y1 y2
    go_wp2_with (first
      | (refine load_blk rfl (.tmp 6) rfl (w.heap.size + 1) 0 rfl B P.out.blk.at ?_))
    refine (HS.out.read B _ (HE.out.below P.out.low)).mono ?_
    rintro e wa ⟨rfl, hb⟩
    rw [u1]
    have P := Lib.hid (P.out.below hb)
    clear hb
    go_upto_region 12 with (first
      | (refine store_newS rfl (.tmp 17) (.tmp 98) rfl U rfl rfl ?_))
    have PB := Lib.hid (P.out.alloc (.cells (scs U) 26))
    have UB := Lib.hid (show SVar (wa.alloc (.cells (scs U) 26)) wa.heap.size U from heap_alloc_new wa _)
    clear P
    generalize wa.alloc (.cells (scs U) 26) = wb at PB UB ⊢
    generalize wa.heap.size = b17 at UB ⊢
    rcases U3.out with ⟨hj1, hwu⟩ | ⟨a1, a2⟩
    · have a1 : (j1 == 0) = true := by rw [hj1]; rfl
      have WU := Lib.hid hwu
      clear U3 hwu hj1
      go_wp2_with (first
        | (refine load_super rfl (.tmp 17) rfl b17 0 rfl U UB.out.at ?_))
      refine (HS.out.write U wb u2 (HE.out.below PB.out.low)).mono ?_
      rintro e wc2 ⟨rfl, hb⟩
      rw [WU.out]
      have PC := Lib.hid (PB.out.below hb)
      clear hb
      go_upto_region 14 with (first
        | (refine store_newB rfl (.tmp 19) (.tmp 105) rfl B rfl rfl ?_))
      have PG := Lib.hid (PC.out.alloc (.cells (arr B) 29))
      have BG := Lib.hid (BVar.new wc2 B)
      generalize wc2.alloc (.cells (arr B) 29) = wg at PG BG ⊢
      generalize wc2.heap.size = b19 at BG ⊢
      clear PC PB UB
      go_upto_region 16 with (first
        | (refine load_blk_w (by rfl) (.tmp 19) rfl b19 0 rfl B BG.out.at ?_)
        | (refine load_blk_w (by rfl) (.tmp 6) rfl (w.heap.size + 1) 0 rfl B PG.out.blk.at ?_))
      clear BG
      go_wp2_with (first
        | (refine load_geo rfl (.tmp 7) rfl (w.heap.size + 2) 0 rfl g PG.out.geo.at ?_)
        | (refine load_blk rfl (.tmp 6) rfl (w.heap.size + 1) 0 rfl B PG.out.blk.at ?_))
      refine (HS.out.readD g B wg hg (HE.out.below PG.out.low)).mono ?_
      rw [v1]
      rintro e wd ⟨A7, n7, c7, rfl, hn7, _, _, ho7, hb⟩
      rw [show ((M4, o4) : List DescV × Int).2 = o4 from rfl]
      rw [show ((M4, o4) : List DescV × Int).1 = M4 from rfl] at hn7 ho7
      have N7 := Lib.hid hn7
      have R7 := Lib.hid ho7.row
      have PD := Lib.hid (PG.out.below hb)
      clear hb hn7 ho7
      rcases V3.out with ⟨ho4, hwd⟩ | ⟨c1, c2, hm4⟩
      · have c1 : (o4 == 0) = true := by rw [ho4]; rfl
        have c2 : (o4 != 0) = false := by rw [ho4]; rfl
        have WD := Lib.hid hwd
        clear V3 hwd ho4
        go_wp2_with (first
          | (refine load_geo rfl (.tmp 7) rfl (w.heap.size + 2) 0 rfl g PD.out.geo.at ?_))
        refine (HS.out.writeD g A7 n7 c7 M4 wd hg (HE.out.below PD.out.low) N7.out R7.out).mono ?_
        rintro e we ⟨rfl, hb⟩
        rw [WD.out]
        have PE := Lib.hid (PD.out.below hb)
        clear hb
        go_upto_region 20 with (first
          | (refine store_newB rfl (.tmp 23) (.tmp 129) rfl B rfl rfl ?_))
        have PF := Lib.hid (PE.out.alloc (.cells (arr B) 29))
        have BF := Lib.hid (BVar.new we B)
        generalize we.alloc (.cells (arr B) 29) = wf at PF BF ⊢
        generalize we.heap.size = b23 at BF ⊢
        go_wp2_with (first
          | (refine load_blk_w (by rfl) (.tmp 23) rfl b23 0 rfl B BF.out.at ?_)
          | (refine load_blk_w (by rfl) (.tmp 6) rfl (w.heap.size + 1) 0 rfl B PF.out.blk.at ?_))
        go_ret
        exact ⟨rfl, PF.out.low⟩
      · have hn0 : n7 = 0 := by rw [N7.out, hm4]; rfl
        subst hn0
        clear V3
        go_wp2
        go_ret
        exact ⟨rfl, PD.out.low⟩
    · clear U3 UB
      go_upto_region 16 with fail
      go_wp2_with (first
        | (refine load_geo rfl (.tmp 7) rfl (w.heap.size + 2) 0 rfl g PB.out.geo.at ?_)
        | (refine load_blk rfl (.tmp 6) rfl (w.heap.size + 1) 0 rfl B PB.out.blk.at ?_))
      refine (HS.out.readD g B wb hg (HE.out.below PB.out.low)).mono ?_
      rw [v1]
      rintro e wd ⟨A7, n7, c7, rfl, hn7, _, _, ho7, hb⟩
      rw [show ((M4, o4) : List DescV × Int).2 = o4 from rfl]
      rw [show ((M4, o4) : List DescV × Int).1 = M4 from rfl] at hn7 ho7
      have N7 := Lib.hid hn7
      have R7 := Lib.hid ho7.row
      have PD := Lib.hid (PB.out.below hb)
      clear hb hn7 ho7
      rcases V3.out with ⟨ho4, hwd⟩ | ⟨c1, c2, hm4⟩
      · have c1 : (o4 == 0) = true := by rw [ho4]; rfl
        have c2 : (o4 != 0) = false := by rw [ho4]; rfl
        have WD := Lib.hid hwd
        clear V3 hwd ho4
        go_wp2_with (first
          | (refine load_geo rfl (.tmp 7) rfl (w.heap.size + 2) 0 rfl g PD.out.geo.at ?_))
        refine (HS.out.writeD g A7 n7 c7 M4 wd hg (HE.out.below PD.out.low) N7.out R7.out).mono ?_
        rintro e we ⟨rfl, hb⟩
        rw [WD.out]
        have PE := Lib.hid (PD.out.below hb)
        clear hb
        go_upto_region 20 with (first
          | (refine store_newB rfl (.tmp 23) (.tmp 129) rfl B rfl rfl ?_))
        have PF := Lib.hid (PE.out.alloc (.cells (arr B) 29))
        have BF := Lib.hid (BVar.new we B)
        generalize we.alloc (.cells (arr B) 29) = wf at PF BF ⊢
        generalize we.heap.size = b23 at BF ⊢
        go_wp2_with (first
          | (refine load_blk_w (by rfl) (.tmp 23) rfl b23 0 rfl B BF.out.at ?_)
          | (refine load_blk_w (by rfl) (.tmp 6) rfl (w.heap.size + 1) 0 rfl B PF.out.blk.at ?_))
        go_ret
        exact ⟨rfl, PF.out.low⟩
      · have hn0 : n7 = 0 := by rw [N7.out, hm4]; rfl
        subst hn0
        clear V3
        go_wp2
        go_ret
        exact ⟨rfl, PD.out.low⟩
end Go.Proofs.YtmlmpflfejbbcaaDoor
