import Derived.Test.YtjiooadakklmlaaJbP4
namespace Go.Proofs.Ytjiooadakklmlaa
open Go.RowKit

/-! The landed code: a list written into a block (numbers). -/
theorem BVar.keepB {w w' : World} {b : Nat} {X : Blk} (h : BVar w b X) (hk : w'.heap[b]? = w.heap[b]?) : BVar w' b X := hk.trans h
/-- What lies in memory while a list is written: the answer's block, the block, its rows and their boxes. -/
structure WN (w0 w : World) (X : Blk) (r p : Nat) : Prop where
  res : BVar w w0.heap.size .zero
  blk : BVar w (w0.heap.size + 1) X
  row : NRow w r p
  box : PBox w p (w0.heap.size + 1)
  low : Below w0.heap.size w0 w
  pr : w0.heap.size + 1 < p
  rr : w0.heap.size + 1 < r
section
variable {w0 w w' : World} {X Y : Blk} {r p : Nat}
theorem WN.below (h : WN w0 w X r p) (hb : Below w.heap.size w w') : WN w0 w' X r p := ⟨h.res.below hb, h.blk.below hb, h.row.below hb, h.box.below hb, low_go h.low hb, h.pr, h.rr⟩
theorem WN.only (h : WN w0 w X r p) (ho : Only (w0.heap.size + 1) w w') (hY : BVar w' (w0.heap.size + 1) Y) : WN w0 w' Y r p := ⟨ho.blk (by omega) h.res, hY, h.row.only ho (by have := h.rr; omega), h.box.only ho (by have := h.pr; omega), low_only h.low ho (by omega), h.pr, h.rr⟩
theorem WN.set (h : WN w0 w X r p) (Y : Blk) : WN w0 (w.setRow (w0.heap.size + 1) (arr Y)) Y r p := ⟨h.res.keepB (setRow_other _ _ _ _ (by omega)), row_heap _ _ _ _ h.blk, h.row.keep (setRow_other _ _ _ _ (by have := h.rr; omega)), h.box.keep (setRow_other _ _ _ _ (by have := h.pr; omega)), row_low h.low (by omega) _, h.pr, h.rr⟩
end
theorem revoke_begun {s : Nat} {l : List Nat} (h : MayR s l) (hl : Small32 l) : listB (begunL 3 s l.length) = partB (revokeL s l) (4 + 0) := num_ext fun j hj => by
  have := h.seq.le
  have := h.hi
  rw [num_list (begunL_lt (by omega) (by omega) (by omega)) hj, partB_num (revokeL_lt h hl) hj]
  by_cases q : j < 4
  · rw [if_pos q]; unfold revokeL; rw [getD_app0 (by show j < 4; exact q)]; rfl
  · rw [if_neg q]; exact getD_past (by show 4 ≤ j; omega)
theorem revoke_next {s : Nat} {l : List Nat} (h : MayR s l) (hl : Small32 l) {k v : Nat} (hk : l[k]? = some v) : putB32 (partB (revokeL s l) (4 + k)) (4 * (4 + k)) v = partB (revokeL s l) (4 + (k + 1)) := by
  have hlt : k < l.length := by
    rcases Nat.lt_or_ge k l.length with q | q
    · exact q
    · rw [List.getElem?_eq_none q] at hk; cases hk
  have e := partB_next (revokeL_lt h hl) (k := 4 + k) (by have := h.hi; omega)
  have g : (revokeL s l).getD (4 + k) 0 = v := by
    unfold revokeL
    rw [getD_app (by show 4 ≤ 4 + k; omega), show 4 + k - [magic, 3, s, l.length].length = k by show 4 + k - 4 = k; omega, List.getD_eq_getElem?_getD, hk]; rfl
  rw [g] at e
  exact e
theorem revoke_last {s : Nat} {l : List Nat} (h : MayR s l) (hl : Small32 l) : partB (revokeL s l) (4 + l.length) = listB (revokeL s l) := by
  rw [← partB_end (revokeL_lt h hl)]
  congr 1
  unfold revokeL
  rw [List.length_append]; rfl
theorem WN.first {w w1 w2 : World} (L : w.heap.size + 1 < w1.heap.size) (P : PBox w2 w1.heap.size (w.heap.size + 1)) (R : BVar w2 w.heap.size .zero) (V : BVar w2 (w.heap.size + 1) .zero) (B : Below w.heap.size w w2) : WN w ((w2.alloc (.cells rw0 102)).setRow w2.heap.size (nrw w1.heap.size)) .zero w2.heap.size w1.heap.size :=
  ⟨(R.below (below_new w2 _)).keepB (setRow_other _ _ _ _ (by have := R.lt; omega)), (V.below (below_new w2 _)).keepB (setRow_other _ _ _ _ (by have := V.lt; omega)), nrow_set (heap_alloc_new w2 _), (P.below (below_new w2 _)).keep (setRow_other _ _ _ _ (by have := P.lt; omega)), row_low (low_go B (below_new w2 _)) B.size _, L, V.lt⟩
set_option maxRecDepth 100000 in
set_option maxHeartbeats 4000000 in
theorem pWriteListN (s : Nat) (A : Option Addr) (c : Nat) (l : List Nat) (w : World) (hl : l.length ≤ 1000) (hs : Small32 l) (hN : NumsAt w A l) : Calls Try.prog 43 #[.int .u32 (s : Int), .slice A l.length c, .func (.func 44) #[] #[]] w fun e w' => e = .returned (.tuple #[.agg (arr (writeJR s l).1), .int .i64 (writeJR s l).2]) ∧ Below w.heap.size w w' := by
  have hz := fun W => zero_blk W
  have hn := fun W => zero_nrw W
  have R := Lib.hid (show BVar ((w.alloc (.cells (arr .zero) 28)).alloc (.cells (arr .zero) 28)) w.heap.size .zero from BVar.below (heap_alloc_new w _) (below_new _ _))
  have V := Lib.hid (show BVar ((w.alloc (.cells (arr .zero) 28)).alloc (.cells (arr .zero) 28)) (w.heap.size + 1) .zero from heap_alloc2_new w _ _)
  have B := Lib.hid (show Below w.heap.size w ((w.alloc (.cells (arr .zero) 28)).alloc (.cells (arr .zero) 28)) from low_go (below_new w _) (below_new _ _))
  have LB := Lib.hid (show w.heap.size + 1 < ((w.alloc (.cells (arr .zero) 28)).alloc (.cells (arr .zero) 28)).heap.size by rw [World.size_alloc, World.size_alloc]; omega)
  have CN := Lib.hid fun W => pNumbersIn (w.heap.size + 1) W
  have CS := Lib.hid fun W => pMaySeq s W
  have CR := Lib.hid fun W (h : NumsAt W A l) => pRiseN A c l W hl h
  have H := Lib.hid hN
  have HS := Lib.hid hs
  clear hN hs
  by_cases h1 : MaySeq s
  rotate_left
  · have E := Lib.hid (writeJR_no fun q : MayR s l => h1 q.seq)
    rw [decide_eq_false h1] at CS
    clear h1 CR
    go_enter Try.func43, Try.ntmps43
    go_upto_region 2 with fail
    generalize (w.alloc (.cells (arr .zero) 28)).alloc (.cells (arr .zero) 28) = w1 at R V B LB ⊢
    go_upto_region 3 with (first
      | (go_at_call 44; with_reducible refine (CN.out _).mono ?_; rintro e w2 ⟨rfl, hp, hb⟩; have P2 := Lib.hid hp; have R2 := Lib.hid (R.out.below hb); have V2 := Lib.hid (V.out.below hb); have B2 := Lib.hid (low_go B.out hb); clear hp hb)
      | (refine store_nrw rfl (.tmp 9) (.tmp 13) rfl w2.heap.size w1.heap.size rfl rfl (heap_alloc_new w2 _) ?_))
    have K := Lib.hid (WN.first LB.out P2.out R2.out V2.out B2.out)
    have LR := Lib.hid (show w.heap.size + 1 < w2.heap.size from V2.out.lt)
    clear R V B LB P2 R2 V2 B2 hz hn CN
    generalize (w2.alloc (.cells rw0 102)).setRow w2.heap.size (nrw w1.heap.size) = w4 at K ⊢
    generalize w2.heap.size = r at K LR ⊢
    generalize w1.heap.size = p at K ⊢
    go_wp2_with (first
      | (go_at_call 37; with_reducible refine (CS.out _).mono ?_; rintro e w5 ⟨rfl, rfl⟩)
      | (go_at_call 59; with_reducible refine (CR.out _ (H.out.below K.out.low)).mono ?_; rintro e w6 ⟨rfl, hb⟩; have K := Lib.hid (K.out.below hb); clear hb)
      | (refine build_zeroB rfl rfl ?_)
      | (refine store_row rfl (.tmp 6) (.tmp 36) rfl w.heap.size .zero .zero 28 rfl rfl K.out.res ?_))
    exact bodyPost_ret (res_blk2 Try.results43 _ _ w.heap.size .zero (.int .i64 2) _ rfl rfl (row_heap _ _ _ _ K.out.res)) rfl ⟨by rw [E.out], row_low K.out.low (Nat.le_refl _) _⟩
  rw [decide_eq_true h1] at CS
  by_cases h2 : 1 ≤ l.length
  rotate_left
  · have E := Lib.hid (writeJR_no fun q : MayR s l => h2 q.lo)
    have d2 : decide ((l.length : Int) < 1) = true := by simp; omega
    have e2 : (l.length : Int) < 1 := by omega
    clear h1 h2 CR
    go_enter Try.func43, Try.ntmps43
    go_upto_region 2 with fail
    generalize (w.alloc (.cells (arr .zero) 28)).alloc (.cells (arr .zero) 28) = w1 at R V B LB ⊢
    go_upto_region 3 with (first
      | (go_at_call 44; with_reducible refine (CN.out _).mono ?_; rintro e w2 ⟨rfl, hp, hb⟩; have P2 := Lib.hid hp; have R2 := Lib.hid (R.out.below hb); have V2 := Lib.hid (V.out.below hb); have B2 := Lib.hid (low_go B.out hb); clear hp hb)
      | (refine store_nrw rfl (.tmp 9) (.tmp 13) rfl w2.heap.size w1.heap.size rfl rfl (heap_alloc_new w2 _) ?_))
    have K := Lib.hid (WN.first LB.out P2.out R2.out V2.out B2.out)
    have LR := Lib.hid (show w.heap.size + 1 < w2.heap.size from V2.out.lt)
    clear R V B LB P2 R2 V2 B2 hz hn CN
    generalize (w2.alloc (.cells rw0 102)).setRow w2.heap.size (nrw w1.heap.size) = w4 at K ⊢
    generalize w2.heap.size = r at K LR ⊢
    generalize w1.heap.size = p at K ⊢
    go_wp2_with (first
      | (go_at_call 37; with_reducible refine (CS.out _).mono ?_; rintro e w5 ⟨rfl, rfl⟩)
      | (go_at_call 59; with_reducible refine (CR.out _ (H.out.below K.out.low)).mono ?_; rintro e w6 ⟨rfl, hb⟩; have K := Lib.hid (K.out.below hb); clear hb)
      | (refine build_zeroB rfl rfl ?_)
      | (refine store_row rfl (.tmp 6) (.tmp 36) rfl w.heap.size .zero .zero 28 rfl rfl K.out.res ?_))
    exact bodyPost_ret (res_blk2 Try.results43 _ _ w.heap.size .zero (.int .i64 2) _ rfl rfl (row_heap _ _ _ _ K.out.res)) rfl ⟨by rw [E.out], row_low K.out.low (Nat.le_refl _) _⟩
  have d2 : decide ((l.length : Int) < 1) = false := by simp; omega
  have e2 : ¬ (l.length : Int) < 1 := by omega
  by_cases h3 : l.length ≤ 60
  rotate_left
  · have E := Lib.hid (writeJR_no fun q : MayR s l => h3 q.hi)
    have d3 : decide ((60 : Int) < (l.length : Int)) = true := by simp; omega
    have e3 : (60 : Int) < (l.length : Int) := by omega
    clear h1 h2 h3 CR
    go_enter Try.func43, Try.ntmps43
    go_upto_region 2 with fail
    generalize (w.alloc (.cells (arr .zero) 28)).alloc (.cells (arr .zero) 28) = w1 at R V B LB ⊢
    go_upto_region 3 with (first
      | (go_at_call 44; with_reducible refine (CN.out _).mono ?_; rintro e w2 ⟨rfl, hp, hb⟩; have P2 := Lib.hid hp; have R2 := Lib.hid (R.out.below hb); have V2 := Lib.hid (V.out.below hb); have B2 := Lib.hid (low_go B.out hb); clear hp hb)
      | (refine store_nrw rfl (.tmp 9) (.tmp 13) rfl w2.heap.size w1.heap.size rfl rfl (heap_alloc_new w2 _) ?_))
    have K := Lib.hid (WN.first LB.out P2.out R2.out V2.out B2.out)
    have LR := Lib.hid (show w.heap.size + 1 < w2.heap.size from V2.out.lt)
    clear R V B LB P2 R2 V2 B2 hz hn CN
    generalize (w2.alloc (.cells rw0 102)).setRow w2.heap.size (nrw w1.heap.size) = w4 at K ⊢
    generalize w2.heap.size = r at K LR ⊢
    generalize w1.heap.size = p at K ⊢
    have c1 := K.out.row.c1
    go_wp2_with (first
      | (go_at_call 37; with_reducible refine (CS.out _).mono ?_; rintro e w5 ⟨rfl, rfl⟩)
      | (go_at_call 59; with_reducible refine (CR.out _ (H.out.below K.out.low)).mono ?_; rintro e w6 ⟨rfl, hb⟩; have K := Lib.hid (K.out.below hb); clear hb)
      | (refine build_zeroB rfl rfl ?_)
      | (refine store_row rfl (.tmp 6) (.tmp 36) rfl w.heap.size .zero .zero 28 rfl rfl K.out.res ?_))
    exact bodyPost_ret (res_blk2 Try.results43 _ _ w.heap.size .zero (.int .i64 2) _ rfl rfl (row_heap _ _ _ _ K.out.res)) rfl ⟨by rw [E.out], row_low K.out.low (Nat.le_refl _) _⟩
  have d3 : decide ((60 : Int) < (l.length : Int)) = false := by simp; omega
  have e3 : ¬ (60 : Int) < (l.length : Int) := by omega
  by_cases h4 : Rise l
  rotate_left
  · have E := Lib.hid (writeJR_no fun q : MayR s l => h4 q.rise)
    rw [decide_eq_false h4] at CR
    clear h1 h2 h3 h4
    go_enter Try.func43, Try.ntmps43
    go_upto_region 2 with fail
    generalize (w.alloc (.cells (arr .zero) 28)).alloc (.cells (arr .zero) 28) = w1 at R V B LB ⊢
    go_upto_region 3 with (first
      | (go_at_call 44; with_reducible refine (CN.out _).mono ?_; rintro e w2 ⟨rfl, hp, hb⟩; have P2 := Lib.hid hp; have R2 := Lib.hid (R.out.below hb); have V2 := Lib.hid (V.out.below hb); have B2 := Lib.hid (low_go B.out hb); clear hp hb)
      | (refine store_nrw rfl (.tmp 9) (.tmp 13) rfl w2.heap.size w1.heap.size rfl rfl (heap_alloc_new w2 _) ?_))
    have K := Lib.hid (WN.first LB.out P2.out R2.out V2.out B2.out)
    have LR := Lib.hid (show w.heap.size + 1 < w2.heap.size from V2.out.lt)
    clear R V B LB P2 R2 V2 B2 hz hn CN
    generalize (w2.alloc (.cells rw0 102)).setRow w2.heap.size (nrw w1.heap.size) = w4 at K ⊢
    generalize w2.heap.size = r at K LR ⊢
    generalize w1.heap.size = p at K ⊢
    have c1 := K.out.row.c1
    have c2 := K.out.row.c2
    go_wp2_with (first
      | (go_at_call 37; with_reducible refine (CS.out _).mono ?_; rintro e w5 ⟨rfl, rfl⟩)
      | (go_at_call 59; with_reducible refine (CR.out _ (H.out.below K.out.low)).mono ?_; rintro e w6 ⟨rfl, hb⟩; have K := Lib.hid (K.out.below hb); clear hb)
      | (refine build_zeroB rfl rfl ?_)
      | (refine store_row rfl (.tmp 6) (.tmp 36) rfl w.heap.size .zero .zero 28 rfl rfl K.out.res ?_))
    exact bodyPost_ret (res_blk2 Try.results43 _ _ w.heap.size .zero (.int .i64 2) _ rfl rfl (row_heap _ _ _ _ K.out.res)) rfl ⟨by rw [E.out], row_low K.out.low (Nat.le_refl _) _⟩
  rw [decide_eq_true h4] at CR
  have MR : MayR s l := ⟨h1, h2, h3, h4⟩
  have E := Lib.hid (writeJR_yes MR)
  have BG := Lib.hid (revoke_begun MR HS.out)
  have NX := Lib.hid (fun (k : Nat) (v : Nat) => revoke_next MR HS.out (k := k) (v := v))
  have LA := Lib.hid (revoke_last MR HS.out)
  have CB : Hid (∀ W, Calls Try.prog 38 #[.int .u8 3, .int .u32 (s : Int), .int .u32 (l.length : Int)] W fun e w' => e = .returned (.agg (arr (listB (begunL 3 s l.length)))) ∧ Below W.heap.size W w') := Lib.hid fun W => pBegun 3 s l.length W (by omega) (by have := h1.le; omega) (by omega)
  have w32 : IntKind.u32.wrap (l.length : Int) = (l.length : Int) := by rw [IntKind.wrap_u32]; omega
  have L60 := Lib.hid h3
  clear MR h1 h2 h3 h4
  go_enter Try.func43, Try.ntmps43
  go_upto_region 2 with fail
  generalize (w.alloc (.cells (arr .zero) 28)).alloc (.cells (arr .zero) 28) = w1 at R V B LB ⊢
  go_upto_region 3 with (first
    | (go_at_call 44; with_reducible refine (CN.out _).mono ?_; rintro e w2 ⟨rfl, hp, hb⟩; have P2 := Lib.hid hp; have R2 := Lib.hid (R.out.below hb); have V2 := Lib.hid (V.out.below hb); have B2 := Lib.hid (low_go B.out hb); clear hp hb)
    | (refine store_nrw rfl (.tmp 9) (.tmp 13) rfl w2.heap.size w1.heap.size rfl rfl (heap_alloc_new w2 _) ?_))
  have K := Lib.hid (WN.first LB.out P2.out R2.out V2.out B2.out)
  have LR := Lib.hid (show w.heap.size + 1 < w2.heap.size from V2.out.lt)
  clear R V B LB P2 R2 V2 B2 hz hn CN
  generalize (w2.alloc (.cells rw0 102)).setRow w2.heap.size (nrw w1.heap.size) = w4 at K ⊢
  generalize w2.heap.size = r at K LR ⊢
  generalize w1.heap.size = p at K ⊢
  have c1 := K.out.row.c1
  have c2 := K.out.row.c2
  go_upto_region 5 with (first
      | (go_at_call 37; with_reducible refine (CS.out _).mono ?_; rintro e w5 ⟨rfl, rfl⟩)
      | (go_at_call 59; with_reducible refine (CR.out _ (H.out.below K.out.low)).mono ?_; rintro e w6 ⟨rfl, hb⟩; have K6 := Lib.hid (K.out.below hb); clear hb))
  clear K c1 c2 CS CR d2 d3 e2 e3
  have c0 := K6.out.row.c0
  go_upto_region 6 with (first
      | (go_at_call 38; with_reducible refine (CB.out _).mono ?_; rintro e w7 ⟨rfl, hb⟩; have K7 := Lib.hid (K6.out.below hb); clear hb)
      | (refine store_row rfl (.tmp 8) (.tmp 43) rfl (w.heap.size + 1) (listB (begunL 3 s l.length)) .zero 28 rfl rfl K7.out.blk ?_))
  have K8 := Lib.hid (K7.out.set (listB (begunL 3 s l.length)))
  generalize w7.setRow (w.heap.size + 1) (arr (listB (begunL 3 s l.length))) = w8 at K8 ⊢
  rw [BG.out] at K8
  generalize arr (listB (begunL 3 s l.length)) = zb
  clear K6 c0 K7 BG CB
  simp only [Act.put]
  go_wp2_with fail
  go_loopw [46] (fun kv wr => ∃ k : Nat, k ≤ l.length ∧ kv = .int .i64 k ∧ Hid (WN w wr (partB (revokeL s l) (4 + k)) r p)) (fun kv _ => l.length - (intOf kv).toNat)
  case atStart => exact ⟨0, Nat.zero_le _, rfl, K8⟩
  case round =>
    obtain ⟨k, hk, rfl, K2⟩ := hrel
    clear K8
    have l60 := L60.out
    by_cases hlt : k < l.length
    rotate_left
    · obtain rfl : k = l.length := by omega
      have kl : ¬ (l.length : Int) < (l.length : Int) := by omega
      have K3 := Lib.hid K2.out
      rw [LA.out] at K3
      clear K2
      go_wp2_with (first
        | (refine load_blk rfl (.tmp 8) rfl (w.heap.size + 1) 0 rfl _ K3.out.blk.at ?_)
        | (refine store_row rfl (.tmp 6) (.tmp 57) rfl w.heap.size (listB (revokeL s l)) .zero 28 rfl rfl K3.out.res ?_))
      exact bodyPost_ret (res_blk2 Try.results43 _ _ w.heap.size (listB (revokeL s l)) (.int .i64 0) _ rfl rfl (row_heap _ _ _ _ K3.out.res)) rfl ⟨by rw [E.out], row_low K3.out.low (Nat.le_refl _) _⟩
    obtain ⟨b, o, rfl, hb, hc⟩ := (H.out.below K2.out.low) (by omega)
    obtain ⟨v, hv⟩ : ∃ v, l[k]? = some v := ⟨l[k], List.getElem?_eq_getElem hlt⟩
    have PN := Lib.hid (NX.out k v hv)
    have kl : (k : Int) < (l.length : Int) := by omega
    have k0 : (0 : Int) ≤ (k : Int) := by omega
    have w2 : IntKind.i64.wrap ((k : Int) + 1) = (k : Int) + 1 := by rw [IntKind.wrap_i64]; omega
    have c4 := K2.out.row.c4
    have d0 := hc k v hv
    have CP := Lib.hid (fun W (h : WN w W (partB (revokeL s l) (4 + k)) r p) => pN3 p (w.heap.size + 1) k v _ W h.box h.blk (by omega) (HS.out v (List.mem_of_getElem? hv)))
    clear hc hv hb
    go_wp2_with (go_at_call 62; with_reducible refine (CP.out _ K2.out).mono ?_; rintro e w9 ⟨rfl, hv, ho⟩; have K9 := Lib.hid (K2.out.only ho hv); rw [PN.out] at K9; clear hv ho)
    go_roundw
    case rel => exact ⟨k + 1, by omega, by congr 1, K9⟩
    case measure => simp [intOf]; omega
end Go.Proofs.Ytjiooadakklmlaa
