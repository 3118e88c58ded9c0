import Derived.Test.YtamghbmeedbbgaaGeoP2
import Derived.Deep.CutBlock
namespace Go.Proofs.Ytamghbmeedbbgaa
open Go.RowKit Go.BigFrame

set_option maxRecDepth 100000 in
set_option maxHeartbeats 1000000 in
theorem iter_none (g : GeoV) (hg : g.Fits) (hm : ¬ May g) (l b0 : Nat) (W : World) (V : GVar W b0 g) : Calls Try.prog 34 #[.func (.yield l) #[] #[], .pointer (some ⟨b0, 0, none⟩)] W fun e W' => (∃ v, e = .returned v) ∧ Below W.heap.size W W' := by
  have hb : Below W.heap.size W (W.alloc (.cells #[.func (.yield l) #[] #[]] 50)) := (Below.refl _ W).alloc (Nat.le_refl _) _
  have V1 := Lib.hid (V.below hb)
  have B1 := Lib.hid hb
  have M : Hid (mayB g = false) := Lib.hid (by unfold mayB; exact decide_eq_false hm)
  have CM : Hid (∀ W, Calls Try.prog 14 #[.agg (gcs g)] W fun e w' => e = .returned (.bool false) ∧ Below W.heap.size W w') := Lib.hid fun W => (pMay g W hg).mono fun e w' q => ⟨by rw [q.1, M.out], q.2⟩
  clear V hb hg hm M
  go_enter Try.func34, Try.ntmps34
  go_wp2_with (first | (refine load_geo rfl (.tmp 1) rfl b0 0 rfl g V1.out.at ?_) | (go_at_call 14; refine (CM.out _).mono ?_; rintro e w2 ⟨rfl, hb⟩))
  refine bodyPost_ret (results_none rfl _ _ _) rfl ?_
  exact ⟨⟨_, rfl⟩, B1.out.trans (hb.mono B1.out.size)⟩

def Gone (N : Nat) (Jx : Nat → World → Prop) (W : World) : Prop := ∃ k, k < N ∧ Jx k W
def leftG (g : GeoV) : Value → Value → Nat
  | .bool true, gv => (g.gr - intOf gv).toNat + 1
  | _, _ => 0
set_option maxRecDepth 100000 in
set_option maxHeartbeats 2000000 in
theorem iter_may (g : GeoV) (hg : g.Fits) (hm : May g) (l b0 m : Nat) (J Jx : Nat → World → Prop) (W : World) (V : GVar W b0 g) (hJ : Stays W.heap.size J) (hJx : Stays W.heap.size Jx)
    (hy : ∀ k W1, k < numG g → J k W1 → YieldAt Fence.wide m Try.prog l #[.agg (pcs (partG g k))] W1 fun e W' => (e = .returned (.bool true) ∧ J (k + 1) W' ∧ Kept b0 W.heap.size W1 W') ∨ (e = .returned (.bool false) ∧ Jx k W'))
    (h0 : J 0 W) : Calls Try.prog 34 #[.func (.yield l) #[] #[], .pointer (some ⟨b0, 0, none⟩)] W fun e W' => (∃ v, e = .returned v) ∧ (J (numG g) W' ∨ ∃ k, k < numG g ∧ Jx k W') := by
  have hN : numG g = 3 + 4 * g.gr.toNat := if_pos hm
  have hgr := hm.1
  have hgr4 := hm.2.1
  have hb : Below W.heap.size W (W.alloc (.cells #[.func (.yield l) #[] #[]] 50)) := (Below.refl _ W).alloc (Nat.le_refl _) _
  have V1 := Lib.hid (V.below hb)
  have Y1 : Hid (Boxed (W.alloc (.cells #[.func (.yield l) #[] #[]] 50)) W.heap.size 50 (.func (.yield l) #[] #[])) := Lib.hid (Boxed.new _ _ _)
  have B1 := Lib.hid hb
  have M : Hid (mayB g = true) := Lib.hid (by unfold mayB; exact decide_eq_true hm)
  have CM : Hid (∀ W, Calls Try.prog 14 #[.agg (gcs g)] W fun e w' => e = .returned (.bool true) ∧ Below W.heap.size W w') := Lib.hid fun W => (pMay g W hg).mono fun e w' q => ⟨by rw [q.1, M.out], q.2⟩
  have CO : Hid (∀ W, Calls Try.prog 33 #[.agg (gcs g)] W fun e w' => e = .returned (.int .i64 (ownG g)) ∧ Below W.heap.size W w') := Lib.hid fun W => own_any g W hm.2.2.2.2.1 hm.2.2.2.2.2.1
  have hblt := V.lt
  have STEP := Lib.hid (fun (b1 : Nat) (hb1 : W.heap.size ≤ b1) (hne : b1 ≠ W.heap.size) => step_any (Jx := Jx) hm hne hblt hb1 (Nat.le_refl _) hJ hy)
  have HJ := Lib.hid hJ
  have HJX := Lib.hid hJx
  have HN := Lib.hid hN
  have HM := Lib.hid hm
  have H0 := Lib.hid h0
  have HL := Lib.hid hblt
  clear V hb hg hm M hJ hJx hy h0 hN hblt
  go_enter Try.func34, Try.ntmps34
  go_upto_region 4 with (first | (refine load_geo rfl (.tmp 1) rfl b0 0 rfl g V1.out.at ?_) | (go_at_call 14; refine (CM.out _).mono ?_; rintro e w2 ⟨rfl, hb⟩))
  have B2 := Lib.hid (B1.out.trans (hb.mono B1.out.size))
  have V2 := Lib.hid (V1.out.below hb)
  have Y2 : Hid (Boxed w2 W.heap.size 50 (.func (.yield l) #[] #[])) := Lib.hid ((hb.block _ Y1.out.lt).trans Y1.out)
  have S2 : Hid (W.heap.size < w2.heap.size) := Lib.hid Y2.out.lt
  have hb3 : Below w2.heap.size w2 (w2.alloc (.cells #[.int .i64 0] 3)) := (Below.refl _ w2).alloc (Nat.le_refl _) _
  have S0 : Hid (ST g b0 w2.heap.size W.heap.size l J 0 (w2.alloc (.cells #[.int .i64 0] 3))) := Lib.hid ⟨HJ.out _ _ _ H0.out (B2.out.trans (hb3.mono B2.out.size)), V2.out.below hb3, Boxed.new _ _ _, (hb3.block _ Y2.out.lt).trans Y2.out⟩
  have STEP2 := Lib.hid (STEP.out w2.heap.size (Nat.le_of_lt S2.out) (Nat.ne_of_gt S2.out))
  clear STEP hb hb3 V1 V2 Y1 Y2 B1 H0
  generalize w2.alloc (.cells #[.int .i64 0] 3) = w3 at S0 ⊢
  generalize w2.heap.size = b1 at S0 STEP2 S2 ⊢
  clear B2
  have NB : Hid (∀ k, k < 3 → k < numG g) := Lib.hid fun k h => by rw [HN.out]; omega
  have C0 : Hid (∀ W', Hid (ST g b0 b1 W.heap.size l J 0 W') → Calls Try.prog 35 #[.int .u8 1, .int .i64 0, .int .i64 0, .int .i64 1, .pointer (some ⟨b1, 0, none⟩), .pointer (some ⟨W.heap.size, 0, none⟩)] W' fun e W'' => (e = .returned (.bool true) ∧ ST g b0 b1 W.heap.size l J 1 W'') ∨ (e = .returned (.bool false) ∧ Jx 0 W'')) := Lib.hid fun W' h => STEP2.out 0 (NB.out 0 (by omega)) ⟨1, 0, 0, 0, 1⟩ rfl W' h.out
  have C1 : Hid (∀ W', Hid (ST g b0 b1 W.heap.size l J 1 W') → Calls Try.prog 35 #[.int .u8 2, .int .i64 0, .int .i64 0, .int .i64 1, .pointer (some ⟨b1, 0, none⟩), .pointer (some ⟨W.heap.size, 0, none⟩)] W' fun e W'' => (e = .returned (.bool true) ∧ ST g b0 b1 W.heap.size l J 2 W'') ∨ (e = .returned (.bool false) ∧ Jx 1 W'')) := Lib.hid fun W' h => STEP2.out 1 (NB.out 1 (by omega)) ⟨2, 0, 0, 1, 1⟩ rfl W' h.out
  have C2 : Hid (∀ W', Hid (ST g b0 b1 W.heap.size l J 2 W') → Calls Try.prog 35 #[.int .u8 3, .int .i64 0, .int .i64 0, .int .i64 g.jr, .pointer (some ⟨b1, 0, none⟩), .pointer (some ⟨W.heap.size, 0, none⟩)] W' fun e W'' => (e = .returned (.bool true) ∧ ST g b0 b1 W.heap.size l J 3 W'') ∨ (e = .returned (.bool false) ∧ Jx 2 W'')) := Lib.hid fun W' h => STEP2.out 2 (NB.out 2 (by omega)) ⟨3, 0, 0, 2, g.jr⟩ rfl W' h.out
  go_cut [5] from 11 to 22 (fun s5 wx => (s5 = .bool true ∧ ST g b0 b1 W.heap.size l J 3 wx) ∨ (s5 = .bool false ∧ ∃ k, k < numG g ∧ Jx k wx))
  case first =>
    go_wp2_with (first
      | (go_at_call 35; with_reducible refine (C0.out _ S0).mono ?_; rintro e w4 (⟨rfl, q1⟩ | ⟨rfl, qx⟩); have Q1 := Lib.hid q1; clear q1)
      | (go_at_call 35; with_reducible refine (C1.out _ Q1).mono ?_; rintro e w5 (⟨rfl, q2⟩ | ⟨rfl, qx⟩); have c3 := q2.geo.c3; have Q2 := Lib.hid q2; clear q2)
      | (go_at_call 35; with_reducible refine (C2.out _ Q2).mono ?_; rintro e w6 (⟨rfl, q3⟩ | ⟨rfl, qx⟩)))
    all_goals go_meet
    · exact .inl ⟨rfl, q3⟩
    · exact .inr ⟨rfl, _, NB.out 2 (by omega), qx⟩
    · exact .inr ⟨rfl, _, NB.out 1 (by omega), qx⟩
    · exact .inr ⟨rfl, _, NB.out 0 (by omega), qx⟩
  case rest =>
    clear C0 C1 C2 S0 NB
    go_wp2_with fail
    go_loopw [5, 6] (fun mv gv wr => (∃ q : Nat, (q : Int) ≤ g.gr ∧ mv = .bool true ∧ gv = .int .i64 q ∧ ST g b0 b1 W.heap.size l J (3 + 4 * q) wr) ∨ (mv = .bool false ∧ (∃ i, gv = .int .i64 i) ∧ ∃ k, k < numG g ∧ Jx k wr)) (fun mv gv _ => leftG g mv gv)
    case atStart =>
      rcases hcut with ⟨rfl, h⟩ | ⟨rfl, h⟩
      · exact .inl ⟨0, by omega, rfl, rfl, h⟩
      · exact .inr ⟨rfl, ⟨0, rfl⟩, h⟩
    case round =>
      rcases hrel with ⟨q, hq, rfl, rfl, hS⟩ | ⟨rfl, ⟨i, rfl⟩, hX⟩
      · by_cases hlt : (q : Int) < g.gr
        · have t1 : decide ((q : Int) < g.gr) = true := decide_eq_true hlt
          have hif := inG_first HM.out hq
          have o1 := hif.2.2.1
          have o2 := hif.2.2.2.1
          have o3 := hif.2.2.2.2
          clear hif
          have NQ : Hid (∀ i, i < 4 → 3 + 4 * q + i < numG g) := Lib.hid fun i hi => by rw [HN.out]; omega
          have D0 : Hid (∀ W', Hid (ST g b0 b1 W.heap.size l J (3 + 4 * q + 0) W') → Calls Try.prog 35 #[.int .u8 4, .int .i64 q, .int .i64 0, .int .i64 1, .pointer (some ⟨b1, 0, none⟩), .pointer (some ⟨W.heap.size, 0, none⟩)] W' fun e W'' => (e = .returned (.bool true) ∧ ST g b0 b1 W.heap.size l J (3 + 4 * q + 1) W'') ∨ (e = .returned (.bool false) ∧ Jx (3 + 4 * q + 0) W'')) := Lib.hid fun W' h => STEP2.out (3 + 4 * q + 0) (NQ.out 0 (by omega)) _ (partG_in g q (by omega)) W' h.out
          have D1 : Hid (∀ W', Hid (ST g b0 b1 W.heap.size l J (3 + 4 * q + 1) W') → Calls Try.prog 35 #[.int .u8 5, .int .i64 q, .int .i64 1, .int .i64 1, .pointer (some ⟨b1, 0, none⟩), .pointer (some ⟨W.heap.size, 0, none⟩)] W' fun e W'' => (e = .returned (.bool true) ∧ ST g b0 b1 W.heap.size l J (3 + 4 * q + 2) W'') ∨ (e = .returned (.bool false) ∧ Jx (3 + 4 * q + 1) W'')) := Lib.hid fun W' h => STEP2.out (3 + 4 * q + 1) (NQ.out 1 (by omega)) _ (partG_in g q (by omega)) W' h.out
          have D2 : Hid (∀ W', Hid (ST g b0 b1 W.heap.size l J (3 + 4 * q + 2) W') → Calls Try.prog 35 #[.int .u8 6, .int .i64 q, .int .i64 2, .int .i64 (ownG g - 2), .pointer (some ⟨b1, 0, none⟩), .pointer (some ⟨W.heap.size, 0, none⟩)] W' fun e W'' => (e = .returned (.bool true) ∧ ST g b0 b1 W.heap.size l J (3 + 4 * q + 3) W'') ∨ (e = .returned (.bool false) ∧ Jx (3 + 4 * q + 2) W'')) := Lib.hid fun W' h => STEP2.out (3 + 4 * q + 2) (NQ.out 2 (by omega)) _ (partG_in g q (by omega)) W' h.out
          have D3 : Hid (∀ W', Hid (ST g b0 b1 W.heap.size l J (3 + 4 * q + 3) W') → Calls Try.prog 35 #[.int .u8 7, .int .i64 q, .int .i64 (ownG g), .int .i64 (g.sz - ownG g), .pointer (some ⟨b1, 0, none⟩), .pointer (some ⟨W.heap.size, 0, none⟩)] W' fun e W'' => (e = .returned (.bool true) ∧ ST g b0 b1 W.heap.size l J (3 + 4 * q + 4) W'') ∨ (e = .returned (.bool false) ∧ Jx (3 + 4 * q + 3) W'')) := Lib.hid fun W' h => STEP2.out (3 + 4 * q + 3) (NQ.out 3 (by omega)) _ (partG_in g q (by omega)) W' h.out
          have c0 := hS.geo.c0
          have HS := Lib.hid hS
          clear hS
          go_upto_block 1 with fail
          go_cut [5] from 23 to 59 (fun s5 wx => (s5 = .bool true ∧ ST g b0 b1 W.heap.size l J (3 + 4 * q + 4) wx) ∨ (s5 = .bool false ∧ ∃ k, k < numG g ∧ Jx k wx))
          case first =>
            go_upto_region 8 with fail
            refine wp_region_ph (fun wx => ST g b0 b1 W.heap.size l J (3 + 4 * q + 0) wx) [(2, 0), (3, 0), (7, 0), (11, 0)] (by kernel_rfl) (by kernel_rfl) (HS.out.below HJ.out (Nat.le_of_lt HS.out.yld.lt) (Below.refl _ _).drew) ?_
            clear HS c0
            refine ph_seg rfl rfl rfl ?_
            simp only [Nat.reduceAdd, List.take_succ_cons, List.take_zero, List.drop_succ_cons, List.drop_zero]
            repeat (first | go_big_quiet_skip | (go_big_quiet_want; first | (refine quiet_geo _ rfl _ _ rfl g (by intro w' hw'; exact hw'.geo.at) ?_; simp only [Act.put, List.setIfInBounds_toArray, List.set_cons_zero, List.set_cons_succ]; go_big_quiet_on) | (refine quiet_int _ rfl _ rfl _ (by intro w' hw'; exact hw'.geo.c1) ?_; simp only [Act.put, List.setIfInBounds_toArray, List.set_cons_zero, List.set_cons_succ]; go_big_quiet_on) | (go_big_quiet_op; first | go_big_quiet_on | (apply Exists.intro; refine ⟨fun _ _ => ?_, ?_⟩; (with_reducible exact rfl); go_big_quiet_on) | go_big_quiet_call ((intro hC; (with_reducible refine (CO.out _).mono ?_); exact fun e w' h => ⟨h.1, hC.below HJ.out (Nat.le_of_lt hC.yld.lt) h.2⟩)))))
            refine wpQuiet_nil ?_
            intro wx hS K hK
            have HS := Lib.hid hS
            clear hS
            go_wp2_with (go_at_call 35; with_reducible refine (D0.out _ HS).mono ?_; rintro e w4 (⟨rfl, q1⟩ | ⟨rfl, qx⟩))
            rotate_left
            · refine hK _ _ (Gone (numG g) Jx) ⟨_, NQ.out 0 (by omega), qx⟩ ?_
              refine ph_seg rfl rfl rfl ?_
              simp only [Nat.reduceAdd, List.take_succ_cons, List.take_zero, List.drop_succ_cons, List.drop_zero]
              repeat (first | go_big_quiet_skip | (go_big_quiet_want; go_big_quiet_op; first | go_big_quiet_on | (apply Exists.intro; refine ⟨fun _ _ => ?_, ?_⟩; (with_reducible exact rfl); go_big_quiet_on)))
              refine wpQuiet_nil ?_
              intro wy hy K hK
              go_wp2_with fail
              refine hK _ _ (Gone (numG g) Jx) hy ?_
              skip
              refine ph_seg rfl rfl rfl ?_
              simp only [Nat.reduceAdd, List.take_succ_cons, List.take_zero, List.drop_succ_cons, List.drop_zero]
              repeat (first | go_big_quiet_skip | (go_big_quiet_want; go_big_quiet_op; first | go_big_quiet_on | (apply Exists.intro; refine ⟨fun _ _ => ?_, ?_⟩; (with_reducible exact rfl); go_big_quiet_on)))
              refine wpQuiet_nil ?_
              intro wy hy K hK
              go_wp2_with fail
              refine hK _ _ (Gone (numG g) Jx) hy ?_
              skip
              refine ph_seg rfl rfl rfl ?_
              simp only [Nat.reduceAdd, List.take_succ_cons, List.take_zero, List.drop_succ_cons, List.drop_zero]
              repeat (first | go_big_quiet_skip | (go_big_quiet_want; go_big_quiet_op; first | go_big_quiet_on | (apply Exists.intro; refine ⟨fun _ _ => ?_, ?_⟩; (with_reducible exact rfl); go_big_quiet_on)))
              refine wpQuiet_nil ?_
              intro wy hy K hK
              go_wp2_with fail
              refine hK _ _ (Gone (numG g) Jx) hy ?_
              skip
              unfold wpPh
              repeat (first | go_big_quiet_skip | (go_big_quiet_want; go_big_quiet_op; first | go_big_quiet_on | (apply Exists.intro; refine ⟨fun _ _ => ?_, ?_⟩; (with_reducible exact rfl); go_big_quiet_on)))
              refine wpQuiet_nil ?_
              intro wy hy
              go_wp2_with fail
              go_meet
              exact .inr ⟨rfl, hy⟩
            refine hK _ _ (fun wx => ST g b0 b1 W.heap.size l J (3 + 4 * q + 1) wx) q1 ?_
            clear hK q1 HS
            refine ph_seg rfl rfl rfl ?_
            simp only [Nat.reduceAdd, List.take_succ_cons, List.take_zero, List.drop_succ_cons, List.drop_zero]
            repeat (first | go_big_quiet_skip | (go_big_quiet_want; first | (refine quiet_geo _ rfl _ _ rfl g (by intro w' hw'; exact hw'.geo.at) ?_; simp only [Act.put, List.setIfInBounds_toArray, List.set_cons_zero, List.set_cons_succ]; go_big_quiet_on) | (refine quiet_int _ rfl _ rfl _ (by intro w' hw'; exact hw'.geo.c1) ?_; simp only [Act.put, List.setIfInBounds_toArray, List.set_cons_zero, List.set_cons_succ]; go_big_quiet_on) | (go_big_quiet_op; first | go_big_quiet_on | (apply Exists.intro; refine ⟨fun _ _ => ?_, ?_⟩; (with_reducible exact rfl); go_big_quiet_on) | go_big_quiet_call ((intro hC; (with_reducible refine (CO.out _).mono ?_); exact fun e w' h => ⟨h.1, hC.below HJ.out (Nat.le_of_lt hC.yld.lt) h.2⟩)))))
            refine wpQuiet_nil ?_
            intro wx hS K hK
            have HS := Lib.hid hS
            clear hS
            go_wp2_with (go_at_call 35; with_reducible refine (D1.out _ HS).mono ?_; rintro e w4 (⟨rfl, q1⟩ | ⟨rfl, qx⟩))
            rotate_left
            · refine hK _ _ (Gone (numG g) Jx) ⟨_, NQ.out 1 (by omega), qx⟩ ?_
              refine ph_seg rfl rfl rfl ?_
              simp only [Nat.reduceAdd, List.take_succ_cons, List.take_zero, List.drop_succ_cons, List.drop_zero]
              repeat (first | go_big_quiet_skip | (go_big_quiet_want; go_big_quiet_op; first | go_big_quiet_on | (apply Exists.intro; refine ⟨fun _ _ => ?_, ?_⟩; (with_reducible exact rfl); go_big_quiet_on)))
              refine wpQuiet_nil ?_
              intro wy hy K hK
              go_wp2_with fail
              refine hK _ _ (Gone (numG g) Jx) hy ?_
              skip
              refine ph_seg rfl rfl rfl ?_
              simp only [Nat.reduceAdd, List.take_succ_cons, List.take_zero, List.drop_succ_cons, List.drop_zero]
              repeat (first | go_big_quiet_skip | (go_big_quiet_want; go_big_quiet_op; first | go_big_quiet_on | (apply Exists.intro; refine ⟨fun _ _ => ?_, ?_⟩; (with_reducible exact rfl); go_big_quiet_on)))
              refine wpQuiet_nil ?_
              intro wy hy K hK
              go_wp2_with fail
              refine hK _ _ (Gone (numG g) Jx) hy ?_
              skip
              unfold wpPh
              repeat (first | go_big_quiet_skip | (go_big_quiet_want; go_big_quiet_op; first | go_big_quiet_on | (apply Exists.intro; refine ⟨fun _ _ => ?_, ?_⟩; (with_reducible exact rfl); go_big_quiet_on)))
              refine wpQuiet_nil ?_
              intro wy hy
              go_wp2_with fail
              go_meet
              exact .inr ⟨rfl, hy⟩
            refine hK _ _ (fun wx => ST g b0 b1 W.heap.size l J (3 + 4 * q + 2) wx) q1 ?_
            clear hK q1 HS
            refine ph_seg rfl rfl rfl ?_
            simp only [Nat.reduceAdd, List.take_succ_cons, List.take_zero, List.drop_succ_cons, List.drop_zero]
            repeat (first | go_big_quiet_skip | (go_big_quiet_want; first | (refine quiet_geo _ rfl _ _ rfl g (by intro w' hw'; exact hw'.geo.at) ?_; simp only [Act.put, List.setIfInBounds_toArray, List.set_cons_zero, List.set_cons_succ]; go_big_quiet_on) | (refine quiet_int _ rfl _ rfl _ (by intro w' hw'; exact hw'.geo.c1) ?_; simp only [Act.put, List.setIfInBounds_toArray, List.set_cons_zero, List.set_cons_succ]; go_big_quiet_on) | (go_big_quiet_op; first | go_big_quiet_on | (apply Exists.intro; refine ⟨fun _ _ => ?_, ?_⟩; (with_reducible exact rfl); go_big_quiet_on) | go_big_quiet_call ((intro hC; (with_reducible refine (CO.out _).mono ?_); exact fun e w' h => ⟨h.1, hC.below HJ.out (Nat.le_of_lt hC.yld.lt) h.2⟩)))))
            refine wpQuiet_nil ?_
            intro wx hS K hK
            have HS := Lib.hid hS
            clear hS
            go_wp2_with (go_at_call 35; with_reducible refine (D2.out _ HS).mono ?_; rintro e w4 (⟨rfl, q1⟩ | ⟨rfl, qx⟩))
            rotate_left
            · refine hK _ _ (Gone (numG g) Jx) ⟨_, NQ.out 2 (by omega), qx⟩ ?_
              refine ph_seg rfl rfl rfl ?_
              simp only [Nat.reduceAdd, List.take_succ_cons, List.take_zero, List.drop_succ_cons, List.drop_zero]
              repeat (first | go_big_quiet_skip | (go_big_quiet_want; go_big_quiet_op; first | go_big_quiet_on | (apply Exists.intro; refine ⟨fun _ _ => ?_, ?_⟩; (with_reducible exact rfl); go_big_quiet_on)))
              refine wpQuiet_nil ?_
              intro wy hy K hK
              go_wp2_with fail
              refine hK _ _ (Gone (numG g) Jx) hy ?_
              skip
              unfold wpPh
              repeat (first | go_big_quiet_skip | (go_big_quiet_want; go_big_quiet_op; first | go_big_quiet_on | (apply Exists.intro; refine ⟨fun _ _ => ?_, ?_⟩; (with_reducible exact rfl); go_big_quiet_on)))
              refine wpQuiet_nil ?_
              intro wy hy
              go_wp2_with fail
              go_meet
              exact .inr ⟨rfl, hy⟩
            refine hK _ _ (fun wx => ST g b0 b1 W.heap.size l J (3 + 4 * q + 3) wx) q1 ?_
            clear hK q1 HS
            refine ph_seg rfl rfl rfl ?_
            simp only [Nat.reduceAdd, List.take_succ_cons, List.take_zero, List.drop_succ_cons, List.drop_zero]
            repeat (first | go_big_quiet_skip | (go_big_quiet_want; first | (refine quiet_geo _ rfl _ _ rfl g (by intro w' hw'; exact hw'.geo.at) ?_; simp only [Act.put, List.setIfInBounds_toArray, List.set_cons_zero, List.set_cons_succ]; go_big_quiet_on) | (refine quiet_int _ rfl _ rfl _ (by intro w' hw'; exact hw'.geo.c1) ?_; simp only [Act.put, List.setIfInBounds_toArray, List.set_cons_zero, List.set_cons_succ]; go_big_quiet_on) | (go_big_quiet_op; first | go_big_quiet_on | (apply Exists.intro; refine ⟨fun _ _ => ?_, ?_⟩; (with_reducible exact rfl); go_big_quiet_on) | go_big_quiet_call ((intro hC; (with_reducible refine (CO.out _).mono ?_); exact fun e w' h => ⟨h.1, hC.below HJ.out (Nat.le_of_lt hC.yld.lt) h.2⟩)))))
            refine wpQuiet_nil ?_
            intro wx hS K hK
            have HS := Lib.hid hS
            clear hS
            go_wp2_with (go_at_call 35; with_reducible refine (D3.out _ HS).mono ?_; rintro e w4 (⟨rfl, q1⟩ | ⟨rfl, qx⟩))
            rotate_left
            · refine hK _ _ (Gone (numG g) Jx) ⟨_, NQ.out 3 (by omega), qx⟩ ?_
              unfold wpPh
              repeat (first | go_big_quiet_skip | (go_big_quiet_want; go_big_quiet_op; first | go_big_quiet_on | (apply Exists.intro; refine ⟨fun _ _ => ?_, ?_⟩; (with_reducible exact rfl); go_big_quiet_on)))
              refine wpQuiet_nil ?_
              intro wy hy
              go_wp2_with fail
              go_meet
              exact .inr ⟨rfl, hy⟩
            refine hK _ _ (fun wx => ST g b0 b1 W.heap.size l J (3 + 4 * q + 4) wx) q1 ?_
            clear hK q1 HS
            unfold wpPh
            repeat (first | go_big_quiet_skip | (go_big_quiet_want; go_big_quiet_op; first | go_big_quiet_on | (apply Exists.intro; refine ⟨fun _ _ => ?_, ?_⟩; (with_reducible exact rfl); go_big_quiet_on)))
            refine wpQuiet_nil ?_
            intro wy hy
            go_wp2_with fail
            go_meet
            exact .inl ⟨rfl, hy⟩
          case rest =>
            clear D0 D1 D2 D3 HS c0
            go_wp2_with fail
            rcases hcut with ⟨rfl, h⟩ | ⟨rfl, h⟩
            · refine ⟨.inl ⟨q + 1, by omega, rfl, by go_num, h⟩, ?_⟩
              simp [leftG, intOf]; omega
            · exact ⟨.inr ⟨rfl, ⟨_, rfl⟩, h⟩, by simp [leftG]⟩
        · have t1 : decide ((q : Int) < g.gr) = false := decide_eq_false hlt
          have c0 := hS.geo.c0
          have HS := Lib.hid hS
          clear hS
          go_wp2_with fail
          refine bodyPost_end (results_none rfl _ _ _) rfl ?_
          exact ⟨⟨_, rfl⟩, .inl (by rw [HN.out, show 3 + 4 * g.gr.toNat = 3 + 4 * q by omega]; exact HS.out.j)⟩
      · have HX := Lib.hid hX
        clear hX
        go_wp2_with fail
        refine bodyPost_end (results_none rfl _ _ _) rfl ?_
        exact ⟨⟨_, rfl⟩, .inr HX.out⟩
end Go.Proofs.Ytamghbmeedbbgaa
