import Derived.Test.YtjiooadakklmlaaJbP5
namespace Go.Proofs.Ytjiooadakklmlaa
open Go.RowKit

/-! The landed code: a list written into a block (tags). -/
/-- What lies in memory while a list is written: the answer's block, the block, its rows and their boxes. -/
structure WG (w0 w : World) (X : Blk) (r q p : Nat) : Prop where
  res : BVar w w0.heap.size .zero
  blk : BVar w (w0.heap.size + 1) X
  row : TRow w r q p
  box : PBox w p (w0.heap.size + 1)
  low : Below w0.heap.size w0 w
  pr : w0.heap.size + 1 < p
  rr : w0.heap.size + 1 < r
  fun_ : FBox w q
  qr : w0.heap.size + 1 < q
section
variable {w0 w w' : World} {X Y : Blk} {r q p : Nat}
theorem WG.below (h : WG w0 w X r q p) (hb : Below w.heap.size w w') : WG w0 w' X r q p := ⟨h.res.below hb, h.blk.below hb, h.row.below hb, h.box.below hb, low_go h.low hb, h.pr, h.rr, h.fun_.below hb, h.qr⟩
theorem WG.only (h : WG w0 w X r q p) (ho : Only (w0.heap.size + 1) w w') (hY : BVar w' (w0.heap.size + 1) Y) : WG w0 w' Y r q p := ⟨ho.blk (by omega) h.res, hY, h.row.only ho (by have := h.rr; omega), h.box.only ho (by have := h.pr; omega), low_only h.low ho (by omega), h.pr, h.rr, h.fun_.only ho (by have := h.qr; omega), h.qr⟩
theorem WG.set (h : WG w0 w X r q p) (Y : Blk) : WG w0 (w.setRow (w0.heap.size + 1) (arr Y)) Y r q p := ⟨h.res.keepB (setRow_other _ _ _ _ (by omega)), row_heap _ _ _ _ h.blk, h.row.keep (setRow_other _ _ _ _ (by have := h.rr; omega)), h.box.keep (setRow_other _ _ _ _ (by have := h.pr; omega)), row_low h.low (by omega) _, h.pr, h.rr, h.fun_.keep (setRow_other _ _ _ _ (by have := h.qr; omega)), h.qr⟩
end
theorem tags_begun {s : Nat} {l : List TagV} (h : MayT s l) (hl : SmallT l) : listB (begunL 1 s l.length) = partB (tagsL s l) (4 + 2 * 0) := num_ext fun j hj => by
  have := h.seq.le
  have := h.hi
  rw [num_list (begunL_lt (by omega) (by omega) (by omega)) hj, partB_num (tagsL_lt h hl) hj]
  by_cases q : j < 4
  · rw [if_pos q]; unfold tagsL; rw [getD_app0 (by show j < 4; exact q)]; rfl
  · rw [if_neg q]; exact getD_past (by show 4 ≤ j; omega)
theorem put_nought {X : Blk} {i : Nat} (hi : i < 64) (h : num X i = 0) : putB32 X (4 * i) 0 = X := num_ext fun j hj => by
  rw [num_put hi (by omega)]
  by_cases e : j = i
  · subst e; rw [if_pos rfl, h]
  · rw [if_neg e]
theorem tags_next {s : Nat} {l : List TagV} (h : MayT s l) (hl : SmallT l) {k : Nat} {t : TagV} (hk : l[k]? = some t) : putT (partB (tagsL s l) (4 + 2 * k)) k t = partB (tagsL s l) (4 + 2 * (k + 1)) := by
  have hlt : k < l.length := by
    rcases Nat.lt_or_ge k l.length with q | q
    · exact q
    · rw [List.getElem?_eq_none q] at hk; cases hk
  have h30 := h.hi
  have S := tagsL_lt h hl
  have e1 := partB_next S (k := 4 + 2 * k) (by omega)
  have e2 := partB_next S (k := 5 + 2 * k) (by omega)
  obtain ⟨f1, f2⟩ := flatT_get hk
  have g1 : (tagsL s l).getD (4 + 2 * k) 0 = t.1 := by
    unfold tagsL
    rw [getD_app (by show 4 ≤ 4 + 2 * k; omega), show 4 + 2 * k - [magic, 1, s, l.length].length = 2 * k by show 4 + 2 * k - 4 = 2 * k; omega, f1]
  have g2 : (tagsL s l).getD (5 + 2 * k) 0 = flag t.2 := by
    unfold tagsL
    rw [getD_app (by show 4 ≤ 5 + 2 * k; omega), show 5 + 2 * k - [magic, 1, s, l.length].length = 2 * k + 1 by show 5 + 2 * k - 4 = 2 * k + 1; omega, f2]
  rw [g1] at e1
  rw [g2] at e2
  rw [show 4 + 2 * (k + 1) = 5 + 2 * k + 1 by omega, ← e2, show 5 + 2 * k = 4 + 2 * k + 1 by omega, ← e1]
  unfold putT
  rw [show 4 + 2 * k + 1 = 5 + 2 * k by omega]
  cases hb : t.2
  · rw [if_neg (by simp)]
    refine (put_nought (i := 5 + 2 * k) (by omega) ?_).symm
    rw [num_put (by omega) (hl t (List.mem_of_getElem? hk)), if_neg (by omega), partB_num S (by omega), if_neg (by omega)]
  · rw [if_pos rfl]; rfl
theorem tags_last {s : Nat} {l : List TagV} (h : MayT s l) (hl : SmallT l) : partB (tagsL s l) (4 + 2 * l.length) = listB (tagsL s l) := by
  rw [← partB_end (tagsL_lt h hl)]
  congr 1
  unfold tagsL
  rw [List.length_append, flatT_length]; rfl
theorem WG.first {w w1 w2 : World} {q p : Nat} (F : FBox w2 q) (lq : w1.heap.size ≤ q) (lp : w1.heap.size ≤ p) (L : w.heap.size + 1 < w1.heap.size) (P : PBox w2 p (w.heap.size + 1)) (R : BVar w2 w.heap.size .zero) (V : BVar w2 (w.heap.size + 1) .zero) (B : Below w.heap.size w w2) : WG w ((w2.alloc (.cells rw0 94)).setRow w2.heap.size (trw q p)) .zero w2.heap.size q p :=
  ⟨(R.below (below_new w2 _)).keepB (setRow_other _ _ _ _ (by have := R.lt; omega)), (V.below (below_new w2 _)).keepB (setRow_other _ _ _ _ (by have := V.lt; omega)), trow_set (heap_alloc_new w2 _), (P.below (below_new w2 _)).keep (setRow_other _ _ _ _ (by have := P.lt; omega)), row_low (low_go B (below_new w2 _)) B.size _, by omega, V.lt, (F.below (below_new w2 _)).keep (setRow_other _ _ _ _ (by have := F.lt; omega)), by omega⟩
set_option maxRecDepth 100000 in
set_option maxHeartbeats 4000000 in
theorem pWriteListT (s : Nat) (A : Option Addr) (c : Nat) (l : List TagV) (w : World) (hl : l.length ≤ 1000) (hs : SmallT l) (hN : TagsAt w A l) : Calls Try.prog 41 #[.int .u32 (s : Int), .slice A l.length c, .func (.func 42) #[] #[]] w fun e w' => e = .returned (.tuple #[.agg (arr (writeJT s l).1), .int .i64 (writeJT s l).2]) ∧ Below w.heap.size w w' := by
  have hz := fun W => zero_blk W
  have hn := fun W => zero_trw W
  have R := Lib.hid (show BVar ((w.alloc (.cells (arr .zero) 28)).alloc (.cells (arr .zero) 28)) w.heap.size .zero from BVar.below (heap_alloc_new w _) (below_new _ _))
  have V := Lib.hid (show BVar ((w.alloc (.cells (arr .zero) 28)).alloc (.cells (arr .zero) 28)) (w.heap.size + 1) .zero from heap_alloc2_new w _ _)
  have B := Lib.hid (show Below w.heap.size w ((w.alloc (.cells (arr .zero) 28)).alloc (.cells (arr .zero) 28)) from low_go (below_new w _) (below_new _ _))
  have LB := Lib.hid (show w.heap.size + 1 < ((w.alloc (.cells (arr .zero) 28)).alloc (.cells (arr .zero) 28)).heap.size by rw [World.size_alloc, World.size_alloc]; omega)
  have CN := Lib.hid fun W => pTagsIn (w.heap.size + 1) W
  have CS := Lib.hid fun W => pMaySeq s W
  have CR := Lib.hid fun W (h : TagsAt W A l) => pRiseT A c l W hl h
  have H := Lib.hid hN
  have HS := Lib.hid hs
  clear hN hs
  by_cases h1 : MaySeq s
  rotate_left
  · have E := Lib.hid (writeJT_no fun q : MayT s l => h1 q.seq)
    rw [decide_eq_false h1] at CS
    clear h1 CR
    go_enter Try.func41, Try.ntmps41
    go_upto_region 2 with fail
    generalize (w.alloc (.cells (arr .zero) 28)).alloc (.cells (arr .zero) 28) = w1 at R V B LB ⊢
    go_upto_region 3 with (first
      | (go_at_call 42; with_reducible refine (CN.out _).mono ?_; rintro e w2 ⟨q, p, rfl, lq, lp, hf, hp, hb⟩; have F2 := Lib.hid hf; have QP := Lib.hid (And.intro lq lp); clear hf lq lp; have P2 := Lib.hid hp; have R2 := Lib.hid (R.out.below hb); have V2 := Lib.hid (V.out.below hb); have B2 := Lib.hid (low_go B.out hb); clear hp hb)
      | (refine store_trw rfl (.tmp 9) (.tmp 13) rfl w2.heap.size q p rfl rfl (heap_alloc_new w2 _) ?_))
    have K := Lib.hid (WG.first F2.out QP.out.1 QP.out.2 LB.out P2.out R2.out V2.out B2.out)
    have LR := Lib.hid (show w.heap.size + 1 < w2.heap.size from V2.out.lt)
    clear R V B LB P2 R2 V2 B2 hz hn CN F2 QP
    generalize (w2.alloc (.cells rw0 94)).setRow w2.heap.size (trw q p) = w4 at K ⊢
    generalize w2.heap.size = r at K LR ⊢
    go_wp2_with (first
      | (go_at_call 37; with_reducible refine (CS.out _).mono ?_; rintro e w5 ⟨rfl, rfl⟩)
      | (go_at_call 54; with_reducible refine (CR.out _ (H.out.below K.out.low)).mono ?_; rintro e w6 ⟨rfl, hb⟩; have K := Lib.hid (K.out.below hb); clear hb)
      | (refine build_zeroB rfl rfl ?_)
      | (refine store_row rfl (.tmp 6) (.tmp 36) rfl w.heap.size .zero .zero 28 rfl rfl K.out.res ?_))
    exact bodyPost_ret (res_blk2 Try.results41 _ _ w.heap.size .zero (.int .i64 2) _ rfl rfl (row_heap _ _ _ _ K.out.res)) rfl ⟨by rw [E.out], row_low K.out.low (Nat.le_refl _) _⟩
  rw [decide_eq_true h1] at CS
  by_cases h2 : 1 ≤ l.length
  rotate_left
  · have E := Lib.hid (writeJT_no fun q : MayT s l => h2 q.lo)
    have d2 : decide ((l.length : Int) < 1) = true := by simp; omega
    have e2 : (l.length : Int) < 1 := by omega
    clear h1 h2 CR
    go_enter Try.func41, Try.ntmps41
    go_upto_region 2 with fail
    generalize (w.alloc (.cells (arr .zero) 28)).alloc (.cells (arr .zero) 28) = w1 at R V B LB ⊢
    go_upto_region 3 with (first
      | (go_at_call 42; with_reducible refine (CN.out _).mono ?_; rintro e w2 ⟨q, p, rfl, lq, lp, hf, hp, hb⟩; have F2 := Lib.hid hf; have QP := Lib.hid (And.intro lq lp); clear hf lq lp; have P2 := Lib.hid hp; have R2 := Lib.hid (R.out.below hb); have V2 := Lib.hid (V.out.below hb); have B2 := Lib.hid (low_go B.out hb); clear hp hb)
      | (refine store_trw rfl (.tmp 9) (.tmp 13) rfl w2.heap.size q p rfl rfl (heap_alloc_new w2 _) ?_))
    have K := Lib.hid (WG.first F2.out QP.out.1 QP.out.2 LB.out P2.out R2.out V2.out B2.out)
    have LR := Lib.hid (show w.heap.size + 1 < w2.heap.size from V2.out.lt)
    clear R V B LB P2 R2 V2 B2 hz hn CN F2 QP
    generalize (w2.alloc (.cells rw0 94)).setRow w2.heap.size (trw q p) = w4 at K ⊢
    generalize w2.heap.size = r at K LR ⊢
    go_wp2_with (first
      | (go_at_call 37; with_reducible refine (CS.out _).mono ?_; rintro e w5 ⟨rfl, rfl⟩)
      | (go_at_call 54; with_reducible refine (CR.out _ (H.out.below K.out.low)).mono ?_; rintro e w6 ⟨rfl, hb⟩; have K := Lib.hid (K.out.below hb); clear hb)
      | (refine build_zeroB rfl rfl ?_)
      | (refine store_row rfl (.tmp 6) (.tmp 36) rfl w.heap.size .zero .zero 28 rfl rfl K.out.res ?_))
    exact bodyPost_ret (res_blk2 Try.results41 _ _ w.heap.size .zero (.int .i64 2) _ rfl rfl (row_heap _ _ _ _ K.out.res)) rfl ⟨by rw [E.out], row_low K.out.low (Nat.le_refl _) _⟩
  have d2 : decide ((l.length : Int) < 1) = false := by simp; omega
  have e2 : ¬ (l.length : Int) < 1 := by omega
  by_cases h3 : l.length ≤ 30
  rotate_left
  · have E := Lib.hid (writeJT_no fun q : MayT s l => h3 q.hi)
    have d3 : decide ((30 : Int) < (l.length : Int)) = true := by simp; omega
    have e3 : (30 : Int) < (l.length : Int) := by omega
    clear h1 h2 h3 CR
    go_enter Try.func41, Try.ntmps41
    go_upto_region 2 with fail
    generalize (w.alloc (.cells (arr .zero) 28)).alloc (.cells (arr .zero) 28) = w1 at R V B LB ⊢
    go_upto_region 3 with (first
      | (go_at_call 42; with_reducible refine (CN.out _).mono ?_; rintro e w2 ⟨q, p, rfl, lq, lp, hf, hp, hb⟩; have F2 := Lib.hid hf; have QP := Lib.hid (And.intro lq lp); clear hf lq lp; have P2 := Lib.hid hp; have R2 := Lib.hid (R.out.below hb); have V2 := Lib.hid (V.out.below hb); have B2 := Lib.hid (low_go B.out hb); clear hp hb)
      | (refine store_trw rfl (.tmp 9) (.tmp 13) rfl w2.heap.size q p rfl rfl (heap_alloc_new w2 _) ?_))
    have K := Lib.hid (WG.first F2.out QP.out.1 QP.out.2 LB.out P2.out R2.out V2.out B2.out)
    have LR := Lib.hid (show w.heap.size + 1 < w2.heap.size from V2.out.lt)
    clear R V B LB P2 R2 V2 B2 hz hn CN F2 QP
    generalize (w2.alloc (.cells rw0 94)).setRow w2.heap.size (trw q p) = w4 at K ⊢
    generalize w2.heap.size = r at K LR ⊢
    have c1 := K.out.row.c1
    go_wp2_with (first
      | (go_at_call 37; with_reducible refine (CS.out _).mono ?_; rintro e w5 ⟨rfl, rfl⟩)
      | (go_at_call 54; with_reducible refine (CR.out _ (H.out.below K.out.low)).mono ?_; rintro e w6 ⟨rfl, hb⟩; have K := Lib.hid (K.out.below hb); clear hb)
      | (refine build_zeroB rfl rfl ?_)
      | (refine store_row rfl (.tmp 6) (.tmp 36) rfl w.heap.size .zero .zero 28 rfl rfl K.out.res ?_))
    exact bodyPost_ret (res_blk2 Try.results41 _ _ w.heap.size .zero (.int .i64 2) _ rfl rfl (row_heap _ _ _ _ K.out.res)) rfl ⟨by rw [E.out], row_low K.out.low (Nat.le_refl _) _⟩
  have d3 : decide ((30 : Int) < (l.length : Int)) = false := by simp; omega
  have e3 : ¬ (30 : Int) < (l.length : Int) := by omega
  by_cases h4 : Rise (l.map Prod.fst)
  rotate_left
  · have E := Lib.hid (writeJT_no fun q : MayT s l => h4 q.rise)
    rw [decide_eq_false h4] at CR
    clear h1 h2 h3 h4
    go_enter Try.func41, Try.ntmps41
    go_upto_region 2 with fail
    generalize (w.alloc (.cells (arr .zero) 28)).alloc (.cells (arr .zero) 28) = w1 at R V B LB ⊢
    go_upto_region 3 with (first
      | (go_at_call 42; with_reducible refine (CN.out _).mono ?_; rintro e w2 ⟨q, p, rfl, lq, lp, hf, hp, hb⟩; have F2 := Lib.hid hf; have QP := Lib.hid (And.intro lq lp); clear hf lq lp; have P2 := Lib.hid hp; have R2 := Lib.hid (R.out.below hb); have V2 := Lib.hid (V.out.below hb); have B2 := Lib.hid (low_go B.out hb); clear hp hb)
      | (refine store_trw rfl (.tmp 9) (.tmp 13) rfl w2.heap.size q p rfl rfl (heap_alloc_new w2 _) ?_))
    have K := Lib.hid (WG.first F2.out QP.out.1 QP.out.2 LB.out P2.out R2.out V2.out B2.out)
    have LR := Lib.hid (show w.heap.size + 1 < w2.heap.size from V2.out.lt)
    clear R V B LB P2 R2 V2 B2 hz hn CN F2 QP
    generalize (w2.alloc (.cells rw0 94)).setRow w2.heap.size (trw q p) = w4 at K ⊢
    generalize w2.heap.size = r at K LR ⊢
    have c1 := K.out.row.c1
    have c2 := K.out.row.c2
    go_wp2_with (first
      | (go_at_call 37; with_reducible refine (CS.out _).mono ?_; rintro e w5 ⟨rfl, rfl⟩)
      | (go_at_call 54; with_reducible refine (CR.out _ (H.out.below K.out.low)).mono ?_; rintro e w6 ⟨rfl, hb⟩; have K := Lib.hid (K.out.below hb); clear hb)
      | (refine build_zeroB rfl rfl ?_)
      | (refine store_row rfl (.tmp 6) (.tmp 36) rfl w.heap.size .zero .zero 28 rfl rfl K.out.res ?_))
    exact bodyPost_ret (res_blk2 Try.results41 _ _ w.heap.size .zero (.int .i64 2) _ rfl rfl (row_heap _ _ _ _ K.out.res)) rfl ⟨by rw [E.out], row_low K.out.low (Nat.le_refl _) _⟩
  rw [decide_eq_true h4] at CR
  have MR : MayT s l := ⟨h1, h2, h3, h4⟩
  have E := Lib.hid (writeJT_yes MR)
  have BG := Lib.hid (tags_begun MR HS.out)
  have NX := Lib.hid (fun (k : Nat) (v : TagV) => tags_next MR HS.out (k := k) (t := v))
  have LA := Lib.hid (tags_last MR HS.out)
  have CB : Hid (∀ W, Calls Try.prog 38 #[.int .u8 1, .int .u32 (s : Int), .int .u32 (l.length : Int)] W fun e w' => e = .returned (.agg (arr (listB (begunL 1 s l.length)))) ∧ Below W.heap.size W w') := Lib.hid fun W => pBegun 1 s l.length W (by omega) (by have := h1.le; omega) (by omega)
  have w32 : IntKind.u32.wrap (l.length : Int) = (l.length : Int) := by rw [IntKind.wrap_u32]; omega
  have L60 := Lib.hid h3
  clear MR h1 h2 h3 h4
  go_enter Try.func41, Try.ntmps41
  go_upto_region 2 with fail
  generalize (w.alloc (.cells (arr .zero) 28)).alloc (.cells (arr .zero) 28) = w1 at R V B LB ⊢
  go_upto_region 3 with (first
    | (go_at_call 42; with_reducible refine (CN.out _).mono ?_; rintro e w2 ⟨q, p, rfl, lq, lp, hf, hp, hb⟩; have F2 := Lib.hid hf; have QP := Lib.hid (And.intro lq lp); clear hf lq lp; have P2 := Lib.hid hp; have R2 := Lib.hid (R.out.below hb); have V2 := Lib.hid (V.out.below hb); have B2 := Lib.hid (low_go B.out hb); clear hp hb)
    | (refine store_trw rfl (.tmp 9) (.tmp 13) rfl w2.heap.size q p rfl rfl (heap_alloc_new w2 _) ?_))
  have K := Lib.hid (WG.first F2.out QP.out.1 QP.out.2 LB.out P2.out R2.out V2.out B2.out)
  have LR := Lib.hid (show w.heap.size + 1 < w2.heap.size from V2.out.lt)
  clear R V B LB P2 R2 V2 B2 hz hn CN F2 QP
  generalize (w2.alloc (.cells rw0 94)).setRow w2.heap.size (trw q p) = w4 at K ⊢
  generalize w2.heap.size = r at K LR ⊢
  have c1 := K.out.row.c1
  have c2 := K.out.row.c2
  go_upto_region 5 with (first
      | (go_at_call 37; with_reducible refine (CS.out _).mono ?_; rintro e w5 ⟨rfl, rfl⟩)
      | (go_at_call 54; with_reducible refine (CR.out _ (H.out.below K.out.low)).mono ?_; rintro e w6 ⟨rfl, hb⟩; have K6 := Lib.hid (K.out.below hb); clear hb))
  clear K c1 c2 CS CR d2 d3 e2 e3
  have c0 := K6.out.row.c0
  go_upto_region 6 with (first
      | (go_at_call 38; with_reducible refine (CB.out _).mono ?_; rintro e w7 ⟨rfl, hb⟩; have K7 := Lib.hid (K6.out.below hb); clear hb)
      | (refine store_row rfl (.tmp 8) (.tmp 43) rfl (w.heap.size + 1) (listB (begunL 1 s l.length)) .zero 28 rfl rfl K7.out.blk ?_))
  have K8 := Lib.hid (K7.out.set (listB (begunL 1 s l.length)))
  generalize w7.setRow (w.heap.size + 1) (arr (listB (begunL 1 s l.length))) = w8 at K8 ⊢
  rw [BG.out] at K8
  generalize arr (listB (begunL 1 s l.length)) = zb
  clear K6 c0 K7 BG CB
  simp only [Act.put]
  go_wp2_with fail
  go_loopw [46] (fun kv wr => ∃ k : Nat, k ≤ l.length ∧ kv = .int .i64 k ∧ Hid (WG w wr (partB (tagsL s l) (4 + 2 * k)) r q p)) (fun kv _ => l.length - (intOf kv).toNat)
  case atStart => exact ⟨0, Nat.zero_le _, rfl, K8⟩
  case round =>
    obtain ⟨k, hk, rfl, K2⟩ := hrel
    clear K8
    have l60 := L60.out
    by_cases hlt : k < l.length
    rotate_left
    · obtain rfl : k = l.length := by omega
      have kl : ¬ (l.length : Int) < (l.length : Int) := by omega
      have K3 := Lib.hid K2.out
      rw [LA.out] at K3
      clear K2
      go_wp2_with (first
        | (refine load_blk rfl (.tmp 8) rfl (w.heap.size + 1) 0 rfl _ K3.out.blk.at ?_)
        | (refine store_row rfl (.tmp 6) (.tmp 57) rfl w.heap.size (listB (tagsL s l)) .zero 28 rfl rfl K3.out.res ?_))
      exact bodyPost_ret (res_blk2 Try.results41 _ _ w.heap.size (listB (tagsL s l)) (.int .i64 0) _ rfl rfl (row_heap _ _ _ _ K3.out.res)) rfl ⟨by rw [E.out], row_low K3.out.low (Nat.le_refl _) _⟩
    obtain ⟨b, o, rfl, hb, hc⟩ := tagsAt_here (H.out.below K2.out.low) (by omega)
    obtain ⟨v, hv⟩ : ∃ v, l[k]? = some v := ⟨l[k], List.getElem?_eq_getElem hlt⟩
    have PN := Lib.hid (NX.out k v hv)
    have kl : (k : Int) < (l.length : Int) := by omega
    have k0 : (0 : Int) ≤ (k : Int) := by omega
    have w2 : IntKind.i64.wrap ((k : Int) + 1) = (k : Int) + 1 := by rw [IntKind.wrap_i64]; omega
    have c4 := K2.out.row.c4
    have d0 := Lib.hid (hc k v hv)
    have CP := Lib.hid (fun W (h : WG w W (partB (tagsL s l) (4 + 2 * k)) r q p) => pT4 q p (w.heap.size + 1) k v _ W h.fun_ h.box h.blk (by omega) (HS.out v (List.mem_of_getElem? hv)) (by have := h.qr; omega) (by have := h.pr; omega))
    have ht := fun W => zero_tag W
    clear hc hv hb
    go_upto_region 8 with fail
    go_upto_region 9 with (first
      | (refine load_tag rfl (.tmp 49) rfl b (o + k * 2) rfl v d0.out ?_)
      | (refine store_tagv rfl (.tmp 11) (.tmp 50) rfl wr.heap.size v (0, false) rfl rfl (heap_alloc_new wr _) ?_))
    have K5 := Lib.hid (K2.out.below (row_low (below_new wr (.cells (tcs (0, false)) 62)) (Nat.le_refl _) (tcs v)))
    have T5 := Lib.hid (TVar.set (show TVar (wr.alloc (.cells (tcs (0, false)) 62)) wr.heap.size (0, false) from heap_alloc_new wr _) v)
    generalize wr.heap.size = bt at K5 T5 ⊢
    generalize (wr.alloc (.cells (tcs (0, false)) 62)).setRow bt (tcs v) = w6 at K5 T5 ⊢
    clear ht c4
    have c4 := K5.out.row.c4
    simp only [Act.put]
    go_wp2_with (first
      | (refine load_tag rfl (.tmp 11) rfl bt 0 rfl v T5.out.at ?_)
      | (go_at_call 58; with_reducible refine (CP.out _ K5.out).mono ?_; rintro e w9 ⟨rfl, hv, ho⟩; have K9 := Lib.hid (K5.out.only ho hv); rw [PN.out] at K9; clear hv ho))
    go_roundw
    case rel => exact ⟨k + 1, by omega, by congr 1, K9⟩
    case measure => simp [intOf]; omega
end Go.Proofs.Ytjiooadakklmlaa
