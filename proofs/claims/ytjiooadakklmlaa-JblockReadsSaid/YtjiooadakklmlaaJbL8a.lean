import Derived.Test.YtjiooadakklmlaaJbL8
namespace Go.Proofs.Ytjiooadakklmlaa
open Go.RowKit

/-! JblockReads: the walk. -/
theorem told_ord {w : World} {base n s : Nat} {e : TypeId} {A : Option Addr} (h : Told w base e A n s) : ∀ g, A = some ⟨g, 0, none⟩ → 0 < n → g < w.heap.size := fun g hA h0 => by
  obtain ⟨g', e, _, hr⟩ := h h0
  rw [hA] at e
  injection e with e
  injection e with e
  rw [e]
  exact hr.lt
theorem tt_go {W0 w w' : World} {base base2 n m : Nat} {A B : Option Addr} (h : TT W0 w base base2 A B n m) (hb : Below w.heap.size w w') : TT W0 w' base base2 A B n m := ⟨h.one.below hb, h.two.below hb, low_go h.low hb, h.ord⟩
set_option maxRecDepth 100000 in
set_option maxHeartbeats 16000000 in
theorem jReads (hS : JSays) (X : Blk) (w : World) : Calls Try.prog 4 #[.agg (arr X)] w fun e w' => e = .returned (.bool true) ∧ Below w.heap.size w w' := by
  have hz := fun W => zero_head W
  have hzb := fun W => zero_blk W
  have V := Lib.hid (show BVar (w.alloc (.cells (arr X) 28)) w.heap.size X from heap_alloc_new w _)
  have B := Lib.hid (below_new w (.cells (arr X) 28))
  have H1 := Lib.hid fun W => hS.readHead X W
  have H2 := Lib.hid fun W => rReadHead X W
  generalize (readJH X).1 = hd at H1 H2
  generalize (readJH X).2 = rh at H1 H2
  have C1 := Lib.hid fun W => hS.readCommit X W
  have C2 := Lib.hid fun W => rReadCommit X W
  unfold tup4 at C1 C2
  generalize (readJC X).1 = cs at C1 C2
  generalize (readJC X).2.1 = cn at C1 C2
  generalize (readJC X).2.2.1 = cm at C1 C2
  generalize (readJC X).2.2.2 = cd at C1 C2
  have K1 := Lib.hid fun W => hS.kind X W
  have K2 := Lib.hid fun W => rKind X W
  generalize (kindOf X).1 = kk at K1 K2
  generalize (kindOf X).2 = ks at K1 K2
  have E1 := Lib.hid fun W => hS.escape X W
  have E2 := Lib.hid fun W => rEscape X W
  generalize (escB X).1 = EX at E1 E2
  generalize (escB X).2 = eb at E1 E2
  have U1 := Lib.hid fun W => hS.unescape X W
  have U2 := Lib.hid fun W => rUnescape X W
  generalize unescB X = UX at U1 U2
  obtain ⟨s1, l, dt, hl, d1, d2⟩ := desc_b hS X
  obtain ⟨s3, m, dr, hm, r1, r2⟩ := rev_b hS X
  have D1 := Lib.hid d1
  have D2 := Lib.hid d2
  have R1 := Lib.hid r1
  have R2 := Lib.hid r2
  have S1 := Lib.hid fun A B c c' W (p : TagsAt W A l) (q : TagsAt W B l) => rSameTags A B c c' l l W hl p q
  have S2 := Lib.hid fun A B c c' W (p : NumsAt W A m) (q : NumsAt W B m) => rSameNumbers A B c c' m m W hm p q
  simp only [decide_true] at S1 S2
  have L1 := Lib.hid hl
  have L3 := Lib.hid hm
  have hgh := head_guard
  have hg := blk_guard
  have heh := fun W => equalIn_head hd hd W
  have heE := fun W => equalIn_blk EX EX W
  have heU := fun W => equalIn_blk UX UX W
  simp only [decide_true] at heh heE heU
  clear hS d1 d2 r1 r2 hl hm
  go_enter Try.func4, Try.ntmps4
  go_upto_region 1 with fail
  generalize w.alloc (.cells (arr X) 28) = w1 at V B ⊢
  go_upto_region 2 with (first
    | (refine load_blk rfl (.tmp 1) rfl w.heap.size 0 rfl X V.out.at ?_)
    | (go_at_call 21; with_reducible refine (H1.out _).mono ?_; rintro e w2 ⟨rfl, hb⟩; replace V := Lib.hid (V.out.below hb); replace B := Lib.hid (low_go B.out hb); clear hb)
    | (refine store_newHG rfl (.tmp 3) (.tmp 41) rfl hd rfl rfl ?_; intro w3 hF hQ; replace V := Lib.hid (V.out.below hF); replace B := Lib.hid (low_go B.out hF); have HA := Lib.hid hQ; clear hF hQ))
  generalize w2.heap.size = ba at HA ⊢
  clear H1
  go_upto_region 3 with (first
    | (refine load_blk rfl (.tmp 1) rfl w.heap.size 0 rfl X V.out.at ?_)
    | (go_at_call 22; with_reducible refine (H2.out _).mono ?_; rintro e w4 ⟨rfl, hb⟩; replace V := Lib.hid (V.out.below hb); replace HA := Lib.hid (HA.out.below hb); replace B := Lib.hid (low_go B.out hb); clear hb)
    | (refine store_newHG rfl (.tmp 5) (.tmp 46) rfl hd rfl rfl ?_; intro w5 hF hQ; replace V := Lib.hid (V.out.below hF); replace HA := Lib.hid (HA.out.below hF); replace B := Lib.hid (low_go B.out hF); have HB := Lib.hid hQ; clear hF hQ))
  generalize w4.heap.size = bb at HB ⊢
  clear H2 hz
  go_upto_region 4 with (first
    | (refine load_blk rfl (.tmp 1) rfl w.heap.size 0 rfl X V.out.at ?_)
    | (go_at_call 23; with_reducible refine (C1.out _).mono ?_; rintro e w6 ⟨rfl, hb⟩; replace V := Lib.hid (V.out.below hb); replace HA := Lib.hid (HA.out.below hb); replace HB := Lib.hid (HB.out.below hb); replace B := Lib.hid (low_go B.out hb); clear hb))
  go_upto_region 5 with (first
    | (refine load_blk rfl (.tmp 1) rfl w.heap.size 0 rfl X V.out.at ?_)
    | (go_at_call 24; with_reducible refine (C2.out _).mono ?_; rintro e w7 ⟨rfl, hb⟩; replace V := Lib.hid (V.out.below hb); replace HA := Lib.hid (HA.out.below hb); replace HB := Lib.hid (HB.out.below hb); replace B := Lib.hid (low_go B.out hb); clear hb))
  go_upto_region 6 with (first
    | (refine load_blk rfl (.tmp 1) rfl w.heap.size 0 rfl X V.out.at ?_)
    | (go_at_call 25; with_reducible refine (K1.out _).mono ?_; rintro e w8 ⟨rfl, hb⟩; replace V := Lib.hid (V.out.below hb); replace HA := Lib.hid (HA.out.below hb); replace HB := Lib.hid (HB.out.below hb); replace B := Lib.hid (low_go B.out hb); clear hb))
  go_upto_region 7 with (first
    | (refine load_blk rfl (.tmp 1) rfl w.heap.size 0 rfl X V.out.at ?_)
    | (go_at_call 26; with_reducible refine (K2.out _).mono ?_; rintro e w9 ⟨rfl, hb⟩; replace V := Lib.hid (V.out.below hb); replace HA := Lib.hid (HA.out.below hb); replace HB := Lib.hid (HB.out.below hb); replace B := Lib.hid (low_go B.out hb); clear hb))
  clear C1 C2 K1 K2
  go_upto_region 9 with (first
    | (refine load_head rfl (.tmp 3) rfl ba 0 rfl hd HA.out.at ?_)
    | (refine load_head rfl (.tmp 5) rfl bb 0 rfl hd HB.out.at ?_))
  clear HA HB heh hgh
  go_upto_region 10 with (first
    | (refine load_blk rfl (.tmp 1) rfl w.heap.size 0 rfl X V.out.at ?_)
    | (go_at_call 27; with_reducible refine (D2.out _).mono ?_; rintro e wa ⟨⟨A, c, rfl, hT⟩, hb⟩; replace V := Lib.hid (V.out.below hb); replace B := Lib.hid (low_go B.out hb); have T1 := Lib.hid hT; clear hb hT))
  go_upto_region 11 with (first
    | (refine load_blk rfl (.tmp 1) rfl w.heap.size 0 rfl X V.out.at ?_)
    | (go_at_call 28; with_reducible refine (R2.out _).mono ?_; rintro e wb ⟨⟨A3, c3, rfl, hT⟩, hb⟩; have K := Lib.hid (JR.mk (V.out.below hb) (T1.out.below hb) hT (low_go B.out hb)); clear hb hT))
  clear V B T1 D2 R2
  go_wp2_with fail
  go_loopw [25] (fun tv wr => ∃ t : Nat, t ≤ 2 ∧ tv = .int .i64 t ∧ Hid (JR w wr X A A3 l m)) (fun tv _ => 2 - (intOf tv).toNat)
  case atStart => exact ⟨0, by omega, rfl, K⟩
  case round =>
    obtain ⟨t, ht, rfl, K2⟩ := hrel
    clear K
    obtain ⟨W0, rfl⟩ : ∃ W0, W0 = wr := ⟨_, rfl⟩
    by_cases hlt : t < 2
    rotate_left
    · obtain rfl : t = 2 := by omega
      have tl : ¬ (2 : Int) < 2 := by omega
      go_upto_region 27 with (first
        | (refine load_blk rfl (.tmp 1) rfl w.heap.size 0 rfl X K2.out.blk.at ?_)
        | (go_at_call 31; with_reducible refine (E1.out _).mono ?_; rintro e wc ⟨rfl, hb⟩; have Kc := Lib.hid (K2.out.below hb); clear hb)
        | (refine store_newG rfl (.tmp 34) (.tmp 190) rfl EX rfl rfl ?_; intro wd hF hQ; have Kd := Lib.hid (Kc.out.below hF); have VE := Lib.hid hQ; clear hF hQ))
      generalize wc.heap.size = be at VE ⊢
      go_upto_region 28 with (first
        | (refine load_blk rfl (.tmp 1) rfl w.heap.size 0 rfl X Kd.out.blk.at ?_)
        | (go_at_call 32; with_reducible refine (E2.out _).mono ?_; rintro e we ⟨rfl, hb⟩; have Ke := Lib.hid (Kd.out.below hb); replace VE := Lib.hid (VE.out.below hb); clear hb)
        | (refine store_newG rfl (.tmp 36) (.tmp 195) rfl EX rfl rfl ?_; intro wf hF hQ; have Kf := Lib.hid (Ke.out.below hF); replace VE := Lib.hid (VE.out.below hF); have VF := Lib.hid hQ; clear hF hQ))
      generalize we.heap.size = bf at VF ⊢
      refine wp_region_class (More wf) (by kernel_rfl) (by kernel_rfl) (More.drew _) ?_
      repeat (first | go_big_quiet_skip | (go_big_quiet_want; first | (refine quiet_load (.tmp 34) rfl be 0 rfl EX (by intro w' hw'; exact (VE.out.below hw').at) ?_; simp only [Act.put, List.setIfInBounds_toArray, List.set_cons_zero, List.set_cons_succ]; go_big_quiet_on) | (refine quiet_load (.tmp 1) rfl w.heap.size 0 rfl X (by intro w' hw'; exact (Kf.out.blk.below hw').at) ?_; simp only [Act.put, List.setIfInBounds_toArray, List.set_cons_zero, List.set_cons_succ]; go_big_quiet_on) | (refine quiet_load (.tmp 36) rfl bf 0 rfl EX (by intro w' hw'; exact (VF.out.below hw').at) ?_; simp only [Act.put, List.setIfInBounds_toArray, List.set_cons_zero, List.set_cons_succ]; go_big_quiet_on) | (go_big_quiet_op; first | go_big_quiet_on | (apply Exists.intro; refine ⟨fun _ _ => ?_, ?_⟩; (with_reducible exact rfl); go_big_quiet_on) | go_big_quiet_call ((intro hC; first | ((with_reducible refine (U1.out _).mono ?_); exact fun e w' h => ⟨h.1, hC.on h.2⟩) | ((with_reducible refine (U2.out _).mono ?_); exact fun e w' h => ⟨h.1, hC.on h.2⟩))))))
      refine wpQuiet_nil ?_
      intro wg hwg
      have Lg := Lib.hid (low_go Kf.out.low hwg)
      clear hwg
      go_wp2_with fail
      go_ret
      exact ⟨rfl, Lg.out⟩
    have tl : (t : Int) < 2 := by omega
    have t0 : IntKind.i64.wrap ((t : Int) + 1) = (t : Int) + 1 := by rw [IntKind.wrap_i64]; omega
    go_upto_region 15 with (first
      | (refine load_blk rfl (.tmp 1) rfl w.heap.size 0 rfl X K2.out.blk.at ?_)
      | (go_at_call 29; with_reducible refine (D1.out _).mono ?_; rintro e wc ⟨⟨G, gc, rfl, hT, hO⟩, hb⟩; have Kc := Lib.hid (K2.out.below hb); have Lc := Lib.hid hb; have Tc := Lib.hid hT; have Oc := Lib.hid hO; clear hb hT hO))
    go_upto_region 16 with (first
      | (refine load_blk rfl (.tmp 1) rfl w.heap.size 0 rfl X Kc.out.blk.at ?_)
      | (go_at_call 30; with_reducible refine (R1.out _).mono ?_; rintro e wd ⟨⟨G3, gd, rfl, hT, hO⟩, hb⟩; have Kd := Lib.hid (Kc.out.below hb); have LS := Lib.hid (Lc.out.size); have Ld := Lib.hid (low_go Lc.out hb); have Td := Lib.hid (Tc.out.below hb); have Nd := Lib.hid hT; have TTd := Lib.hid (TT.mk (Oc.out.below hb) hO (low_go Lc.out hb) (told_ord Oc.out)); clear hb hT hO))
    have SA := Lib.hid (S1.out G A gc c wd Td.out Kd.out.tags)
    have SB := Lib.hid fun W (hb : Below wd.heap.size wd W) => S2.out G3 A3 gd c3 W (Nd.out.below hb) (Kd.out.nums.below hb)
    clear Kc Lc Tc Oc Ld Td Nd
    go_upto_region 18 with (first
      | (go_at_call 19; with_reducible refine (SA.out).mono ?_; rintro e we ⟨rfl, hb⟩; have SB' := Lib.hid (SB.out _ hb); have TTe := Lib.hid (tt_go TTd.out hb); clear hb)
      | (go_at_call 20; with_reducible refine (SB'.out).mono ?_; rintro e wf ⟨rfl, hb⟩; have TTf := Lib.hid (tt_go TTe.out hb); clear hb))
    clear SA SB SB' TTd TTe Kd
    generalize wc.heap.size = base2 at TTf LS
    have l1000 := L1.out
    have l3000 := L3.out
    go_wp2_with fail
    go_loopw [32] (fun av wg => ∃ a : Nat, a ≤ l.length ∧ av = .int .i64 a ∧ Hid (TT W0 wg W0.heap.size base2 G G3 l.length m.length)) (fun av _ => l.length - (intOf av).toNat)
    case atStart => exact ⟨0, Nat.zero_le _, rfl, TTf⟩
    case round =>
      obtain ⟨a, ha, rfl, TT1⟩ := hrel
      clear TTf
      by_cases hal : a < l.length
      · obtain ⟨g, hG, hg, hr⟩ := TT1.out.one (by omega)
        have TT2 := Lib.hid (TT1.out.set1 (i := a * 2) (Nat.le_refl _) hG (by omega) (.int .u32 99))
        obtain ⟨v, hv⟩ := hr.cell (i := a * 2) (by omega)
        have hf := hr.frozen (a * 2)
        have al : (a : Int) < (l.length : Int) := by omega
        have a0 : (0 : Int) ≤ (a : Int) := by omega
        have wa1 : IntKind.i64.wrap ((a : Int) + 1) = (a : Int) + 1 := by rw [IntKind.wrap_i64]; omega
        subst hG
        clear hr TT1
        go_wp2_with fail
        go_roundw
        case rel => exact ⟨a + 1, by omega, by congr 1, TT2⟩
        case measure => simp [intOf]; omega
      obtain rfl : a = l.length := by omega
      have al : ¬ (l.length : Int) < (l.length : Int) := by omega
      go_wp2_with fail
      go_loopw [33] (fun av wg => ∃ a : Nat, a ≤ m.length ∧ av = .int .i64 a ∧ Hid (TT W0 wg W0.heap.size base2 G G3 l.length m.length)) (fun av _ => m.length - (intOf av).toNat)
      case atStart => exact ⟨0, Nat.zero_le _, rfl, TT1⟩
      case round =>
        obtain ⟨a, ha, rfl, TT3⟩ := hrel
        clear TT1
        by_cases hal : a < m.length
        · obtain ⟨g, hG, hg, hr⟩ := TT3.out.two (by omega)
          have TT4 := Lib.hid (TT3.out.set2 (i := a) LS.out hG (by omega) (.int .u32 99))
          obtain ⟨v, hv⟩ := hr.cell (i := a) (by omega)
          have hf := hr.frozen a
          have al : (a : Int) < (m.length : Int) := by omega
          have a0 : (0 : Int) ≤ (a : Int) := by omega
          have wa1 : IntKind.i64.wrap ((a : Int) + 1) = (a : Int) + 1 := by rw [IntKind.wrap_i64]; omega
          subst hG
          clear hr TT3
          go_wp2_with fail
          go_roundw
          case rel => exact ⟨a + 1, by omega, by congr 1, TT4⟩
          case measure => simp [intOf]; omega
        obtain rfl : a = m.length := by omega
        have al3 : ¬ (m.length : Int) < (m.length : Int) := by omega
        have K9 := Lib.hid (K2.out.below TT3.out.low)
        go_wp2_with fail
        go_roundw
        case rel => exact ⟨t + 1, by omega, by congr 1, K9⟩
        case measure => simp [intOf]; omega
end Go.Proofs.Ytjiooadakklmlaa
