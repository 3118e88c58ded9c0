import Derived.Test.YtjiooadakklmlaaJbW
namespace Go.Proofs.Ytjiooadakklmlaa
open Go.RowKit

/-! JblockWrites. -/
set_option maxRecDepth 100000 in
set_option maxHeartbeats 4000000 in
theorem writes_long (h : HeadV) (A B : Option Addr) (c c' : Nat) (l : List TagV) (m : List Nat) (ct : Int) (sm : Nat) (w : World) (hl : ¬ (l.length ≤ 1000 ∧ m.length ≤ 1000)) : Calls Try.prog 3 #[.agg (hcs h), .slice A l.length c, .slice B m.length c', .int .i64 ct, .int .u32 (sm : Int)] w fun e w' => e = .returned (.bool true) ∧ Below w.heap.size w w' := by
  have B0 := Lib.hid (below_new w (.cells (hcs h) 24))
  by_cases q : l.length ≤ 1000
  · have q2 : ¬ m.length ≤ 1000 := fun r => hl ⟨q, r⟩
    have d1 : decide ((1000 : Int) < (l.length : Int)) = false := by simp; omega
    have e1 : ¬ (1000 : Int) < (l.length : Int) := by omega
    have d2 : decide ((1000 : Int) < (m.length : Int)) = true := by simp; omega
    have e2 : (1000 : Int) < (m.length : Int) := by omega
    clear hl q q2
    go_enter Try.func3, Try.ntmps3
    go_upto_region 1 with fail
    generalize w.alloc (.cells (hcs h) 24) = w1 at B0 ⊢
    go_wp2_with fail
    go_ret
    exact ⟨rfl, B0.out⟩
  · have d1 : decide ((1000 : Int) < (l.length : Int)) = true := by simp; omega
    have e1 : (1000 : Int) < (l.length : Int) := by omega
    clear hl q
    go_enter Try.func3, Try.ntmps3
    go_upto_region 1 with fail
    generalize w.alloc (.cells (hcs h) 24) = w1 at B0 ⊢
    go_wp2_with fail
    go_ret
    exact ⟨rfl, B0.out⟩
/-- What came in, and the copies. -/
structure JW (w0 w : World) (h : HeadV) (A B A' B' : Option Addr) (l : List TagV) (m : List Nat) : Prop extends JB w0 w h A B l m where
  tags' : TagsAt w A' l
  nums' : NumsAt w B' m
theorem JW.below {w0 w w' : World} {h : HeadV} {A B A' B' : Option Addr} {l : List TagV} {m : List Nat} (k : JW w0 w h A B A' B' l m) (hb : Below w.heap.size w w') : JW w0 w' h A B A' B' l m := ⟨k.toJB.below hb, k.tags'.below hb, k.nums'.below hb⟩
set_option maxRecDepth 100000 in
set_option maxHeartbeats 16000000 in
theorem jWrites (hS : JSays) (h : HeadV) (A B : Option Addr) (c c' : Nat) (l : List TagV) (m : List Nat) (ct : Int) (sm : Nat) (w : World) (hT : TagsAt w A l) (hN : NumsAt w B m) (hsT : SmallT l) (hsN : Small32 m) (hsm : sm < 4294967296) : Calls Try.prog 3 #[.agg (hcs h), .slice A l.length c, .slice B m.length c', .int .i64 ct, .int .u32 (sm : Int)] w fun e w' => e = .returned (.bool true) ∧ Below w.heap.size w w' := by
  by_cases hl : l.length ≤ 1000 ∧ m.length ≤ 1000
  rotate_left
  · exact writes_long h A B c c' l m ct sm w hl
  have hzb := fun W => zero_blk W
  have hb1 := fun W => run_buildT0 W
  have hb2 := fun W => run_buildN0 W
  have K := Lib.hid (show JB w (w.alloc (.cells (hcs h) 24)) h A B l m from ⟨heap_alloc_new w _, hT.below (below_new w _), hN.below (below_new w _), below_new w _⟩)
  have W1 := Lib.hid fun W => hS.writeHead h W
  have U1 := Lib.hid fun W => rWriteHead h W
  have W2 := Lib.hid fun A c W (q : TagsAt W A l) => hS.writeDesc h.seq A c l W hl.1 hsT q
  have U2 := Lib.hid fun A c W (q : TagsAt W A l) => rWriteDesc h.seq A c l W hl.1 hsT q
  have W3 := Lib.hid fun A c W (q : NumsAt W A m) => hS.writeRevoke h.seq A c m W hl.2 hsN q
  have U3 := Lib.hid fun A c W (q : NumsAt W A m) => rWriteRevoke h.seq A c m W hl.2 hsN q
  have W4 := Lib.hid fun W => hS.writeCommit h.seq ct sm W hsm
  have U4 := Lib.hid fun W => rWriteCommit h.seq ct sm W hsm
  have S1 := Lib.hid fun A B c c' W (p : TagsAt W A l) (q : TagsAt W B l) => rSameTags A B c c' l l W hl.1 p q
  have S2 := Lib.hid fun A B c c' W (p : NumsAt W A m) (q : NumsAt W B m) => rSameNumbers A B c c' m m W hl.2 p q
  simp only [decide_true] at S1 S2
  generalize (writeJH h).1 = P1 at W1 U1
  generalize (writeJH h).2 = r1 at W1 U1
  generalize (writeJT h.seq l).1 = P2 at W2 U2
  generalize (writeJT h.seq l).2 = r2 at W2 U2
  generalize (writeJR h.seq m).1 = P3 at W3 U3
  generalize (writeJR h.seq m).2 = r3 at W3 U3
  generalize (writeJC h.seq ct sm).1 = P4 at W4 U4
  generalize (writeJC h.seq ct sm).2 = r4 at W4 U4
  have g1 : decide ((1000 : Int) < (l.length : Int)) = false := by simp; omega
  have g2 : ¬ (1000 : Int) < (l.length : Int) := by omega
  have g3 : decide ((1000 : Int) < (m.length : Int)) = false := by simp; omega
  have g4 : ¬ (1000 : Int) < (m.length : Int) := by omega
  have hg := blk_guard
  have he1 := fun W => equalIn_blk P1 P1 W
  have he2 := fun W => equalIn_blk P2 P2 W
  have he3 := fun W => equalIn_blk P3 P3 W
  have he4 := fun W => equalIn_blk P4 P4 W
  simp only [decide_true] at he1 he2 he3 he4
  have LL := Lib.hid hl
  obtain ⟨it, hit, hzz⟩ := Option.map_eq_some_iff.1 tag_info
  simp only [Prod.mk.injEq] at hzz
  obtain ⟨hz0, hz1, hz2⟩ := hzz
  have TZ0 := Lib.hid hz0
  have TZ1 := Lib.hid hz1
  have TZ2 := Lib.hid hz2
  have TI := Lib.hid hit
  clear hz0 hz1 hz2 hit
  obtain ⟨iu, hiu, hzz⟩ := Option.map_eq_some_iff.1 u32_info
  simp only [Prod.mk.injEq] at hzz
  obtain ⟨hz0, hz1, hz2⟩ := hzz
  have UZ0 := Lib.hid hz0
  have UZ1 := Lib.hid hz1
  have UZ2 := Lib.hid hz2
  have UI := Lib.hid hiu
  clear hz0 hz1 hz2 hiu hS hT hN hsT hsN hsm hl
  go_enter Try.func3, Try.ntmps3
  go_upto_region 1 with fail
  generalize w.alloc (.cells (hcs h) 24) = w1 at K ⊢
  go_upto_region 4 with (first
    | (at_builtin; refine at_append_list _ rfl (.tmp 37) (.tmp 38) 25 rfl w1.heap.size 62 it _ 2 8 Try.underlying25 TI.out TZ0.out TZ1.out TZ2.out (by rfl) (by omega) (by omega) (.slice (some ⟨w1.heap.size, 0, none⟩) 0 0) 0 [] (by rfl) (own_none _ _ (Nat.le_refl _)) A l.length c (tC l) (by rfl) (tC_length l) (tags_cells (K.out.tags.below (below_new w1 _))) (tC_one l) (by have := LL.out; omega) (by simp) ?_; intro v3 w3 hown hgrow; have K3 := Lib.hid (K.out.below (low_app hgrow)); rw [List.nil_append, Nat.zero_add] at hown; obtain ⟨A2, c2, rfl, _, hT⟩ := own_tagsN hown rfl; have T3 := Lib.hid hT; clear hown hgrow hT)
    | (at_builtin; refine at_append_list _ rfl (.tmp 40) (.tmp 41) 26 rfl w3.heap.size 22 iu _ 1 4 Try.underlying26 UI.out UZ0.out UZ1.out UZ2.out (by rfl) (by omega) (by omega) (.slice (some ⟨w3.heap.size, 0, none⟩) 0 0) 0 [] (by rfl) (own_none _ _ (Nat.le_refl _)) B m.length c' (nC m) (by rfl) (nC_length m) (nums_cells (K3.out.nums.below (below_new w3 _))) (nC_one m) (by have := LL.out; omega) (by simp) ?_; intro v5 w5 hown hgrow; have hlow := low_app hgrow; rw [List.nil_append, Nat.zero_add] at hown; obtain ⟨B2, d2, rfl, _, hN⟩ := own_numsN hown rfl; have K5 := Lib.hid (JW.mk (K3.out.below hlow) (T3.out.below hlow) hN); clear hown hgrow hlow hN))
  clear K K3 T3 hb1 hb2 g1 g2 g3 g4 TZ0 TZ1 TZ2 TI UZ0 UZ1 UZ2 UI
  go_upto_region 5 with (first
    | (refine load_head rfl (.tmp 5) rfl w.heap.size 0 rfl h K5.out.head.at ?_)
    | (go_at_call 11; with_reducible refine (W1.out _).mono ?_; rintro e wa ⟨rfl, hb⟩; have Ka := Lib.hid (K5.out.below hb); clear hb)
    | (refine store_newG rfl (.tmp 13) (.tmp 46) rfl P1 rfl rfl ?_; intro xa hF hQ; have La := Lib.hid (Ka.out.below hF); have Va := Lib.hid hQ; clear hF hQ))
  clear K5 Ka W1
  generalize wa.heap.size = va at Va ⊢
  go_upto_region 6 with (first
    | (refine load_head rfl (.tmp 5) rfl w.heap.size 0 rfl h La.out.head.at ?_)
    | (go_at_call 12; with_reducible refine (U1.out _).mono ?_; rintro e wb ⟨rfl, hb⟩; have Kb := Lib.hid (La.out.below hb); replace Va := Lib.hid (Va.out.below hb); clear hb)
    | (refine store_newG rfl (.tmp 15) (.tmp 51) rfl P1 rfl rfl ?_; intro xb hF hQ; have Lb := Lib.hid (Kb.out.below hF); replace Va := Lib.hid (Va.out.below hF); have Vb := Lib.hid hQ; clear hF hQ))
  clear La Kb U1
  generalize wb.heap.size = vb at Vb ⊢
  have cq : xb.cell? ⟨w.heap.size, 0, none⟩ = some (.int .u32 ((h.seq : Nat) : Int)) := Lb.out.head.seq
  go_upto_region 7 with (first
    | (go_at_call 13; with_reducible refine (W2.out _ _ _ Lb.out.tags').mono ?_; rintro e wc ⟨rfl, hb⟩; have Kc := Lib.hid (Lb.out.below hb); replace Va := Lib.hid (Va.out.below hb); replace Vb := Lib.hid (Vb.out.below hb); clear hb cq)
    | (refine store_newG rfl (.tmp 17) (.tmp 58) rfl P2 rfl rfl ?_; intro xc hF hQ; have Lc := Lib.hid (Kc.out.below hF); replace Va := Lib.hid (Va.out.below hF); replace Vb := Lib.hid (Vb.out.below hF); have Vc := Lib.hid hQ; clear hF hQ))
  clear Lb Kc W2
  generalize wc.heap.size = vc at Vc ⊢
  have cq : xc.cell? ⟨w.heap.size, 0, none⟩ = some (.int .u32 ((h.seq : Nat) : Int)) := Lc.out.head.seq
  go_upto_region 8 with (first
    | (go_at_call 14; with_reducible refine (U2.out _ _ _ Lc.out.tags).mono ?_; rintro e wd ⟨rfl, hb⟩; have Kd := Lib.hid (Lc.out.below hb); replace Va := Lib.hid (Va.out.below hb); replace Vb := Lib.hid (Vb.out.below hb); replace Vc := Lib.hid (Vc.out.below hb); clear hb cq)
    | (refine store_newG rfl (.tmp 19) (.tmp 65) rfl P2 rfl rfl ?_; intro xd hF hQ; have Ld := Lib.hid (Kd.out.below hF); replace Va := Lib.hid (Va.out.below hF); replace Vb := Lib.hid (Vb.out.below hF); replace Vc := Lib.hid (Vc.out.below hF); have Vd := Lib.hid hQ; clear hF hQ))
  clear Lc Kd U2
  generalize wd.heap.size = vd at Vd ⊢
  refine wp_region_textJ (More xd) (Below.refl _ _) ?_
  repeat (first | go_big_quiet_skip | (go_big_quiet_want; first | (refine quiet_load (.tmp 13) rfl va 0 rfl P1 (by intro w' hw'; exact (Va.out.below hw').at) ?_; simp only [Act.put, List.setIfInBounds_toArray, List.set_cons_zero, List.set_cons_succ]; go_big_quiet_on) | (refine quiet_load (.tmp 15) rfl vb 0 rfl P1 (by intro w' hw'; exact (Vb.out.below hw').at) ?_; simp only [Act.put, List.setIfInBounds_toArray, List.set_cons_zero, List.set_cons_succ]; go_big_quiet_on) | (refine quiet_load (.tmp 17) rfl vc 0 rfl P2 (by intro w' hw'; exact (Vc.out.below hw').at) ?_; simp only [Act.put, List.setIfInBounds_toArray, List.set_cons_zero, List.set_cons_succ]; go_big_quiet_on) | (refine quiet_load (.tmp 19) rfl vd 0 rfl P2 (by intro w' hw'; exact (Vd.out.below hw').at) ?_; simp only [Act.put, List.setIfInBounds_toArray, List.set_cons_zero, List.set_cons_succ]; go_big_quiet_on) | (go_big_quiet_op; first | go_big_quiet_on | (apply Exists.intro; refine ⟨fun _ _ => ?_, ?_⟩; (with_reducible exact rfl); go_big_quiet_on))))
  refine wpQuiet_nil ?_
  intro xz hxz
  have Lz := Lib.hid (Ld.out.below hxz)
  clear hxz Ld
  go_upto_region 10 with fail
  clear Va Vb Vc Vd he1 he2
  have cq : xz.cell? ⟨w.heap.size, 0, none⟩ = some (.int .u32 ((h.seq : Nat) : Int)) := Lz.out.head.seq
  go_upto_region 11 with (first
    | (go_at_call 15; with_reducible refine (W3.out _ _ _ Lz.out.nums').mono ?_; rintro e we ⟨rfl, hb⟩; have Ke := Lib.hid (Lz.out.below hb); clear hb cq)
    | (refine store_newG rfl (.tmp 21) (.tmp 90) rfl P3 rfl rfl ?_; intro xe hF hQ; have Le := Lib.hid (Ke.out.below hF); have Ve := Lib.hid hQ; clear hF hQ))
  clear Lz Ke W3
  generalize we.heap.size = ve at Ve ⊢
  have cq : xe.cell? ⟨w.heap.size, 0, none⟩ = some (.int .u32 ((h.seq : Nat) : Int)) := Le.out.head.seq
  go_upto_region 12 with (first
    | (go_at_call 16; with_reducible refine (U3.out _ _ _ Le.out.nums).mono ?_; rintro e wf ⟨rfl, hb⟩; have Kf := Lib.hid (Le.out.below hb); replace Ve := Lib.hid (Ve.out.below hb); clear hb cq)
    | (refine store_newG rfl (.tmp 23) (.tmp 97) rfl P3 rfl rfl ?_; intro xf hF hQ; have Lf := Lib.hid (Kf.out.below hF); replace Ve := Lib.hid (Ve.out.below hF); have Vf := Lib.hid hQ; clear hF hQ))
  clear Le Kf U3
  generalize wf.heap.size = vf at Vf ⊢
  have cq : xf.cell? ⟨w.heap.size, 0, none⟩ = some (.int .u32 ((h.seq : Nat) : Int)) := Lf.out.head.seq
  go_upto_region 13 with (first
    | (go_at_call 17; with_reducible refine (W4.out _).mono ?_; rintro e wg ⟨rfl, hb⟩; have Kg := Lib.hid (Lf.out.below hb); replace Ve := Lib.hid (Ve.out.below hb); replace Vf := Lib.hid (Vf.out.below hb); clear hb cq)
    | (refine store_newG rfl (.tmp 25) (.tmp 105) rfl P4 rfl rfl ?_; intro xg hF hQ; have Lg := Lib.hid (Kg.out.below hF); replace Ve := Lib.hid (Ve.out.below hF); replace Vf := Lib.hid (Vf.out.below hF); have Vg := Lib.hid hQ; clear hF hQ))
  clear Lf Kg W4
  generalize wg.heap.size = vg at Vg ⊢
  have cq : xg.cell? ⟨w.heap.size, 0, none⟩ = some (.int .u32 ((h.seq : Nat) : Int)) := Lg.out.head.seq
  go_upto_region 14 with (first
    | (go_at_call 18; with_reducible refine (U4.out _).mono ?_; rintro e wi ⟨rfl, hb⟩; have Ki := Lib.hid (Lg.out.below hb); replace Ve := Lib.hid (Ve.out.below hb); replace Vf := Lib.hid (Vf.out.below hb); replace Vg := Lib.hid (Vg.out.below hb); clear hb cq)
    | (refine store_newG rfl (.tmp 27) (.tmp 113) rfl P4 rfl rfl ?_; intro xi hF hQ; have Li := Lib.hid (Ki.out.below hF); replace Ve := Lib.hid (Ve.out.below hF); replace Vf := Lib.hid (Vf.out.below hF); replace Vg := Lib.hid (Vg.out.below hF); have Vi := Lib.hid hQ; clear hF hQ))
  clear Lg Ki U4
  generalize wi.heap.size = vi at Vi ⊢
  have SA := Lib.hid (fun W (hb : Below xi.heap.size xi W) => S1.out A2 A c2 c W (Li.out.tags'.below hb) (Li.out.tags.below hb))
  have SB := Lib.hid (fun W (hb : Below xi.heap.size xi W) => S2.out B2 B d2 c' W (Li.out.nums'.below hb) (Li.out.nums.below hb))
  have SA' := Lib.hid (SA.out xi (Below.refl _ _))
  clear S1 S2
  go_wp2_with (first
    | (refine load_blk rfl (.tmp 21) rfl ve 0 rfl P3 Ve.out.at ?_)
    | (refine load_blk rfl (.tmp 23) rfl vf 0 rfl P3 Vf.out.at ?_)
    | (refine load_blk_h (.tmp 25) rfl vg 0 rfl P4 Vg.out.at rfl ?_)
    | (refine load_blk_h (.tmp 27) rfl vi 0 rfl P4 Vi.out.at rfl ?_)
    | (go_at_call 19; with_reducible refine (SA'.out).mono ?_; rintro e wj ⟨rfl, hb⟩; have SB' := Lib.hid (SB.out _ hb); have LJ := Lib.hid (low_go Li.out.low hb); clear hb)
    | (go_at_call 20; with_reducible refine (SB'.out).mono ?_; rintro e wk ⟨rfl, hb⟩; have LK := Lib.hid (low_go LJ.out hb); clear hb))
  go_ret
  exact ⟨rfl, LK.out⟩
end Go.Proofs.Ytjiooadakklmlaa
