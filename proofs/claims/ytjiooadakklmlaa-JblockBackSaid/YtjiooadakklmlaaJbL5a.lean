import Derived.Test.YtjiooadakklmlaaJbL5
import Derived.Test.YtjiooadakklmlaaJbL1
namespace Go.Proofs.Ytjiooadakklmlaa
open Go.RowKit

/-! JblockBack: the walk. -/
set_option maxRecDepth 100000 in
set_option maxHeartbeats 4000000 in
theorem back_long1 (hS : JSays) (h : HeadV) (A B : Option Addr) (c c' : Nat) (l : List TagV) (m : List Nat) (ct : Int) (sm : Nat) (w : World) (hl : ¬ (l.length ≤ 1000 ∧ m.length ≤ 1000)) : Calls Try.prog 5 #[.agg (hcs h), .slice A l.length c, .slice B m.length c', .int .i64 ct, .int .u32 (sm : Int)] w fun e w' => e = .returned (.bool true) ∧ Below w.heap.size w w' := by
  have B0 := Lib.hid (below_new w (.cells (hcs h) 24))
  have CA := Lib.hid fun W => jAwake hS W
  clear hS
  by_cases q : l.length ≤ 1000
  · have q2 : ¬ m.length ≤ 1000 := fun r => hl ⟨q, r⟩
    have d1 : decide ((1000 : Int) < (l.length : Int)) = false := by simp; omega
    have e1 : ¬ (1000 : Int) < (l.length : Int) := by omega
    have d2 : decide ((1000 : Int) < (m.length : Int)) = true := by simp; omega
    have e2 : (1000 : Int) < (m.length : Int) := by omega
    clear hl q q2
    go_enter Try.func5, Try.ntmps5
    go_upto_region 1 with fail
    generalize w.alloc (.cells (hcs h) 24) = w1 at B0 ⊢
    go_wp2_with (go_at_call 35; with_reducible refine (CA.out _).mono ?_; rintro e w2 ⟨rfl, hb⟩; have B2 := Lib.hid (low_go B0.out hb); clear hb)
    go_ret
    exact ⟨rfl, B2.out⟩
  · have d1 : decide ((1000 : Int) < (l.length : Int)) = true := by simp; omega
    have e1 : (1000 : Int) < (l.length : Int) := by omega
    clear hl q
    go_enter Try.func5, Try.ntmps5
    go_upto_region 1 with fail
    generalize w.alloc (.cells (hcs h) 24) = w1 at B0 ⊢
    go_wp2_with (go_at_call 35; with_reducible refine (CA.out _).mono ?_; rintro e w2 ⟨rfl, hb⟩; have B2 := Lib.hid (low_go B0.out hb); clear hb)
    go_ret
    exact ⟨rfl, B2.out⟩
set_option maxRecDepth 100000 in
set_option maxHeartbeats 16000000 in
theorem jBack (hS : JSays) (h : HeadV) (A B : Option Addr) (c c' : Nat) (l : List TagV) (m : List Nat) (ct : Int) (sm : Nat) (w : World) (hT : TagsAt w A l) (hN : NumsAt w B m) (hsT : SmallT l) (hsN : Small32 m) (hsm : sm < 4294967296) : Calls Try.prog 5 #[.agg (hcs h), .slice A l.length c, .slice B m.length c', .int .i64 ct, .int .u32 (sm : Int)] w fun e w' => e = .returned (.bool true) ∧ Below w.heap.size w w' := by
  by_cases hl : l.length ≤ 1000 ∧ m.length ≤ 1000
  rotate_left
  · exact back_long1 hS h A B c c' l m ct sm w hl
  have hz := fun W => zero_head W
  have hzb := fun W => zero_blk W
  have K := Lib.hid (show JB w (w.alloc (.cells (hcs h) 24)) h A B l m from ⟨heap_alloc_new w _, hT.below (below_new w _), hN.below (below_new w _), below_new w _⟩)
  have CA := Lib.hid fun W => jAwake hS W
  obtain ⟨P1, r1, x1, d1, a1, b1, o1, z1⟩ := head_wr hS h
  obtain ⟨P2, r2, s2, l2, n2, d2, a2, b2, o2, z2⟩ := desc_wr hS h.seq l hl.1 hsT
  obtain ⟨P3, r3, s3, l3, n3, d3, a3, b3, o3, z3⟩ := rev_wr hS h.seq m hl.2 hsN
  obtain ⟨P4, r4, s4, c4, m4, d4, a4, b4, o4, z4⟩ := com_wr hS h.seq ct sm hsm
  have WH := Lib.hid a1
  have RH := Lib.hid b1
  have OH := Lib.hid o1
  have ZH := Lib.hid z1
  have WD := Lib.hid a2
  have RD := Lib.hid b2
  have OD := Lib.hid o2
  have ZD := Lib.hid z2
  have WR := Lib.hid a3
  have RR := Lib.hid b3
  have OR := Lib.hid o3
  have ZR := Lib.hid z3
  have WC := Lib.hid a4
  have RC := Lib.hid b4
  have OC := Lib.hid o4
  have ZC := Lib.hid z4
  have g1 : decide ((1000 : Int) < (l.length : Int)) = false := by simp; omega
  have g2 : ¬ (1000 : Int) < (l.length : Int) := by omega
  have g3 : decide ((1000 : Int) < (m.length : Int)) = false := by simp; omega
  have g4 : ¬ (1000 : Int) < (m.length : Int) := by omega
  clear hS hT hN hsT hsN hsm hl a1 b1 o1 z1 a2 b2 o2 z2 a3 b3 o3 z3 a4 b4 o4 z4
  go_enter Try.func5, Try.ntmps5
  go_upto_region 1 with fail
  generalize w.alloc (.cells (hcs h) 24) = w1 at K ⊢
  go_upto_region 6 with (first
    | (go_at_call 35; with_reducible refine (CA.out _).mono ?_; rintro e w2 ⟨rfl, hb⟩; have K2 := Lib.hid (K.out.below hb); clear hb)
    | (refine load_head rfl (.tmp 5) rfl w.heap.size 0 rfl h K2.out.head.at ?_)
    | (go_at_call 11; with_reducible refine (WH.out _).mono ?_; rintro e w3 ⟨rfl, hb⟩; have K3 := Lib.hid (K2.out.below hb); clear hb)
    | (refine store_newG rfl (.tmp 11) (.tmp 44) rfl P1 rfl rfl ?_; intro w4 hF hQ; have K4 := Lib.hid (K3.out.below hF); have V1 := Lib.hid hQ; clear hF hQ))
  clear K K2 K3 CA WH g1 g2 g3 g4
  generalize w3.heap.size = v1 at V1 ⊢
  have cq : w4.cell? ⟨w.heap.size, 0, none⟩ = some (.int .u32 ((h.seq : Nat) : Int)) := K4.out.head.seq
  go_upto_region 7 with (first
    | (go_at_call 13; with_reducible refine (WD.out _ _ _ K4.out.tags).mono ?_; rintro e w5 ⟨rfl, hb⟩; have K5 := Lib.hid (K4.out.below hb); replace V1 := Lib.hid (V1.out.below hb); clear hb cq)
    | (refine store_newG rfl (.tmp 13) (.tmp 51) rfl P2 rfl rfl ?_; intro w6 hF hQ; have K6 := Lib.hid (K5.out.below hF); replace V1 := Lib.hid (V1.out.below hF); have V2 := Lib.hid hQ; clear hF hQ))
  clear K4 K5 WD
  generalize w5.heap.size = v2 at V2 ⊢
  have cq : w6.cell? ⟨w.heap.size, 0, none⟩ = some (.int .u32 ((h.seq : Nat) : Int)) := K6.out.head.seq
  go_upto_region 8 with (first
    | (go_at_call 15; with_reducible refine (WR.out _ _ _ K6.out.nums).mono ?_; rintro e w7 ⟨rfl, hb⟩; have K7 := Lib.hid (K6.out.below hb); replace V1 := Lib.hid (V1.out.below hb); replace V2 := Lib.hid (V2.out.below hb); clear hb cq)
    | (refine store_newG rfl (.tmp 15) (.tmp 58) rfl P3 rfl rfl ?_; intro w8 hF hQ; have K8 := Lib.hid (K7.out.below hF); replace V1 := Lib.hid (V1.out.below hF); replace V2 := Lib.hid (V2.out.below hF); have V3 := Lib.hid hQ; clear hF hQ))
  clear K6 K7 WR
  generalize w7.heap.size = v3 at V3 ⊢
  have cq : w8.cell? ⟨w.heap.size, 0, none⟩ = some (.int .u32 ((h.seq : Nat) : Int)) := K8.out.head.seq
  go_upto_region 9 with (first
    | (go_at_call 17; with_reducible refine (WC.out _).mono ?_; rintro e w9 ⟨rfl, hb⟩; have K9 := Lib.hid (K8.out.below hb); replace V1 := Lib.hid (V1.out.below hb); replace V2 := Lib.hid (V2.out.below hb); replace V3 := Lib.hid (V3.out.below hb); clear hb cq)
    | (refine store_newG rfl (.tmp 17) (.tmp 66) rfl P4 rfl rfl ?_; intro wa hF hQ; have Ka := Lib.hid (K9.out.below hF); replace V1 := Lib.hid (V1.out.below hF); replace V2 := Lib.hid (V2.out.below hF); replace V3 := Lib.hid (V3.out.below hF); have V4 := Lib.hid hQ; clear hF hQ))
  clear K8 K9 WC hzb
  generalize w9.heap.size = v4 at V4 ⊢
  go_upto_region 10 with (first
    | (refine load_blk rfl (.tmp 11) rfl v1 0 rfl P1 V1.out.at ?_)
    | (go_at_call 21; with_reducible refine (RH.out _).mono ?_; rintro e wb ⟨rfl, hb⟩; have Kb := Lib.hid (Ka.out.below hb); replace V1 := Lib.hid (V1.out.below hb); replace V2 := Lib.hid (V2.out.below hb); replace V3 := Lib.hid (V3.out.below hb); replace V4 := Lib.hid (V4.out.below hb); clear hb)
    | (refine store_newHG rfl (.tmp 19) (.tmp 71) rfl x1 rfl rfl ?_; intro wc hF hQ; have Kc := Lib.hid (Kb.out.below hF); replace V1 := Lib.hid (V1.out.below hF); replace V2 := Lib.hid (V2.out.below hF); replace V3 := Lib.hid (V3.out.below hF); replace V4 := Lib.hid (V4.out.below hF); have X1 := Lib.hid hQ; clear hF hQ))
  clear Ka Kb RH hz
  generalize wb.heap.size = bx at X1 ⊢
  go_upto_region 11 with (first
    | (refine load_blk rfl (.tmp 13) rfl v2 0 rfl P2 V2.out.at ?_)
    | (go_at_call 29; with_reducible refine (RD.out _).mono ?_; rintro e wd ⟨⟨A2, e2, rfl, hT⟩, hb⟩; have Kd := Lib.hid (Kc.out.below hb); replace V1 := Lib.hid (V1.out.below hb); replace V2 := Lib.hid (V2.out.below hb); replace V3 := Lib.hid (V3.out.below hb); replace V4 := Lib.hid (V4.out.below hb); replace X1 := Lib.hid (X1.out.below hb); have T2 := Lib.hid hT; clear hb hT))
  clear Kc RD
  go_upto_region 12 with (first
    | (refine load_blk rfl (.tmp 15) rfl v3 0 rfl P3 V3.out.at ?_)
    | (go_at_call 30; with_reducible refine (RR.out _).mono ?_; rintro e we ⟨⟨A3, e3, rfl, hT⟩, hb⟩; have Ke := Lib.hid (Kd.out.below hb); replace V1 := Lib.hid (V1.out.below hb); replace V2 := Lib.hid (V2.out.below hb); replace V3 := Lib.hid (V3.out.below hb); replace V4 := Lib.hid (V4.out.below hb); replace X1 := Lib.hid (X1.out.below hb); replace T2 := Lib.hid (T2.out.below hb); have T3 := Lib.hid hT; clear hb hT))
  clear Kd RR
  go_upto_region 13 with (first
    | (refine load_blk rfl (.tmp 17) rfl v4 0 rfl P4 V4.out.at ?_)
    | (go_at_call 23; with_reducible refine (RC.out _).mono ?_; rintro e wf ⟨rfl, hb⟩; have K1f := Lib.hid (Ke.out.below hb); replace V1 := Lib.hid (V1.out.below hb); replace V2 := Lib.hid (V2.out.below hb); replace V3 := Lib.hid (V3.out.below hb); replace V4 := Lib.hid (V4.out.below hb); replace X1 := Lib.hid (X1.out.below hb); replace T2 := Lib.hid (T2.out.below hb); replace T3 := Lib.hid (T3.out.below hb); clear hb))
  clear Ke RC
  go_cut [117] from 31 to 117 (fun s117 wx => s117 = .bool false ∧ wx = wf)
  case first =>
    clear OH OD OR OC K1f V1 V2 V3 V4 X1 T2 T3
    have q1 : ((r1 == 0) == (d1 == 0)) = true := by rcases ZH.out with ⟨rfl, rfl, _⟩ | ⟨rfl, rfl⟩ <;> rfl
    have q2 : ((r2 == 0) == (d2 == 0)) = true := by rcases ZD.out with ⟨rfl, rfl, _⟩ | ⟨rfl, rfl⟩ <;> rfl
    have q3 : ((r3 == 0) == (d3 == 0)) = true := by rcases ZR.out with ⟨rfl, rfl, _⟩ | ⟨rfl, rfl⟩ <;> rfl
    have q4 : ((r4 == 0) == (d4 == 0)) = true := by rcases ZC.out with ⟨rfl, rfl, _⟩ | ⟨rfl, rfl⟩ <;> rfl
    clear ZH ZD ZR ZC
    go_wp2_with fail
    go_meet
    exact ⟨rfl, rfl⟩
  case rest =>
    obtain ⟨rfl, rfl⟩ := hcut
    go_upto_region 15 with fail
    have hgh := head_guard
    have heH := fun W => equalIn_head h h W
    simp only [decide_true] at heH
    go_cut [176] from 31 to 176 (fun s176 wx => s176 = .bool false ∧ Below wc.heap.size wc wx)
    case first =>
      clear OH OD OR OC V1 V2 V3 V4
      have SD : Hid (∀ (q : ∀ (A B : Option Addr) (c c' : Nat) (W : World), TagsAt W A l2 → TagsAt W B l → Calls Try.prog 19 #[.slice A n2 c, .slice B l.length c'] W fun e w' => e = .returned (.bool true) ∧ Below W.heap.size W w') W, More wc W → Calls Try.prog 19 #[.slice A2 n2 e2, .slice A l.length c] W fun e w' => e = .returned (.bool true) ∧ Below W.heap.size W w') := Lib.hid fun q W hW => q A2 A e2 c W (T2.out.below hW) (K1f.out.tags.below hW)
      have SR : Hid (∀ (q : ∀ (A B : Option Addr) (c c' : Nat) (W : World), NumsAt W A l3 → NumsAt W B m → Calls Try.prog 20 #[.slice A n3 c, .slice B m.length c'] W fun e w' => e = .returned (.bool true) ∧ Below W.heap.size W w') W, More wc W → Calls Try.prog 20 #[.slice A3 n3 e3, .slice B m.length c'] W fun e w' => e = .returned (.bool true) ∧ Below W.heap.size W w') := Lib.hid fun q W hW => q A3 B e3 c' W (T3.out.below hW) (K1f.out.nums.below hW)
      have HQ : Hid (∀ W, More wc W → W.cell? ⟨w.heap.size, 0, none⟩ = some (.int .u32 ((h.seq : Nat) : Int))) := Lib.hid fun W hW => (K1f.out.head.below hW).seq
      have HH : Hid (∀ W, More wc W → HAt W w.heap.size 0 h) := Lib.hid fun W hW => (K1f.out.head.below hW).at
      have HX : Hid (∀ W, More wc W → HAt W bx 0 x1) := Lib.hid fun W hW => (X1.out.below hW).at
      clear T2 T3 K1f X1
      rcases ZH.out with ⟨rfl, rfl, rfl⟩ | ⟨rfl, rfl⟩ <;> rcases ZD.out with ⟨rfl, rfl, rfl, y2⟩ | ⟨rfl, rfl⟩ <;> rcases ZR.out with ⟨rfl, rfl, rfl, y3⟩ | ⟨rfl, rfl⟩ <;> rcases ZC.out with ⟨rfl, rfl, rfl, rfl, rfl⟩ | ⟨rfl, rfl⟩
      all_goals try (have SD := Lib.hid (SD.out y2); clear y2)
      all_goals try (have SR := Lib.hid (SR.out y3); clear y3)
      all_goals clear ZH ZD ZR ZC
      all_goals as_aux_lemma => (
        refine wp_region_textJ (More wc) (Below.refl _ _) ?_
        repeat (first | go_big_quiet_skip | (go_big_quiet_want; first | (refine quiet_head (.tmp 19) rfl bx 0 (by rfl) x1 (by intro w' hw'; exact HX.out w' hw') ?_; simp only [Act.put, List.setIfInBounds_toArray, List.set_cons_zero, List.set_cons_succ]; go_big_quiet_on) | (refine quiet_head (.tmp 5) rfl w.heap.size 0 (by rfl) x1 (by intro w' hw'; exact HH.out w' hw') ?_; simp only [Act.put, List.setIfInBounds_toArray, List.set_cons_zero, List.set_cons_succ]; go_big_quiet_on) | (refine quietJ_u32 (.tmp 130) rfl ⟨w.heap.size, 0, none⟩ (by rfl) _ (by intro w' hw'; exact HQ.out w' hw') ?_; simp only [Act.put, List.setIfInBounds_toArray, List.set_cons_zero, List.set_cons_succ]; go_big_quiet_on) | (refine quietJ_u32 (.tmp 146) rfl ⟨w.heap.size, 0, none⟩ (by rfl) _ (by intro w' hw'; exact HQ.out w' hw') ?_; simp only [Act.put, List.setIfInBounds_toArray, List.set_cons_zero, List.set_cons_succ]; go_big_quiet_on) | (refine quietJ_u32 (.tmp 162) rfl ⟨w.heap.size, 0, none⟩ (by rfl) _ (by intro w' hw'; exact HQ.out w' hw') ?_; simp only [Act.put, List.setIfInBounds_toArray, List.set_cons_zero, List.set_cons_succ]; go_big_quiet_on) | (go_big_quiet_op; first | go_big_quiet_on | (apply Exists.intro; refine ⟨fun _ _ => ?_, ?_⟩; (with_reducible exact rfl); go_big_quiet_on) | go_big_quiet_call ((intro hC; first | ((with_reducible refine (SD.out _ hC).mono ?_); exact fun e w' h => ⟨h.1, hC.on h.2⟩) | ((with_reducible refine (SR.out _ hC).mono ?_); exact fun e w' h => ⟨h.1, hC.on h.2⟩))))))
        refine wpQuiet_nil ?_
        intro wx hwx
        go_wp2_with fail
        go_meet
        exact ⟨rfl, hwx⟩)
    case rest =>
      obtain ⟨rfl, hbx⟩ := hcut
      have Lw := Lib.hid (low_go K1f.out.low hbx)
      replace V1 := Lib.hid (V1.out.below hbx)
      replace V2 := Lib.hid (V2.out.below hbx)
      replace V3 := Lib.hid (V3.out.below hbx)
      replace V4 := Lib.hid (V4.out.below hbx)
      clear hbx K1f X1 T2 T3 ZH ZD ZR ZC
      go_wp2_with (first
        | (refine load_blk rfl (.tmp 11) rfl v1 0 rfl P1 V1.out.at ?_)
        | (refine load_blk_h (.tmp 13) rfl v2 0 rfl P2 V2.out.at rfl ?_)
        | (refine load_blk_h (.tmp 15) rfl v3 0 rfl P3 V3.out.at rfl ?_)
        | (refine load_blk_h (.tmp 17) rfl v4 0 rfl P4 V4.out.at rfl ?_)
        | (go_at_call 36; with_reducible refine (OH.out _).mono ?_; rintro e wg ⟨rfl, hb⟩; replace Lw := Lib.hid (low_go Lw.out hb); replace V2 := Lib.hid (V2.out.below hb); replace V3 := Lib.hid (V3.out.below hb); replace V4 := Lib.hid (V4.out.below hb); clear hb)
        | (go_at_call 36; with_reducible refine (OD.out _).mono ?_; rintro e wh ⟨rfl, hb⟩; replace Lw := Lib.hid (low_go Lw.out hb); replace V3 := Lib.hid (V3.out.below hb); replace V4 := Lib.hid (V4.out.below hb); clear hb)
        | (go_at_call 36; with_reducible refine (OR.out _).mono ?_; rintro e wi ⟨rfl, hb⟩; replace Lw := Lib.hid (low_go Lw.out hb); replace V4 := Lib.hid (V4.out.below hb); clear hb)
        | (go_at_call 36; with_reducible refine (OC.out _).mono ?_; rintro e wj ⟨rfl, hb⟩; replace Lw := Lib.hid (low_go Lw.out hb); clear hb))
      go_ret
      exact ⟨rfl, Lw.out⟩
end Go.Proofs.Ytjiooadakklmlaa
