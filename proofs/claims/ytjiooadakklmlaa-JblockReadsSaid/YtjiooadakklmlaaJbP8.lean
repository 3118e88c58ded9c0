import Derived.Test.YtjiooadakklmlaaJbP7
namespace Go.Proofs.Ytjiooadakklmlaa
open Go.RowKit

/-! The landed code: a list read from a block (tags). -/
def TArr (w : World) (g : Nat) (l : List TagV) : Prop := w.heap[g]? = some (.cells (tC l).toArray 62 (0, 0))
theorem tC_set : ∀ (l : List TagV) (i : Nat) (t : TagV), ((tC l).set (i * 2) (.int .u32 ((t.1 : Nat) : Int))).set (i * 2 + 1) (.bool t.2) = tC (l.set i t)
  | [], i, t => by simp [tC]
  | q :: l, 0, t => by simp [tC, tcs]
  | q :: l, i + 1, t => by
    have := tC_set l i t
    simp only [tC, tcs, List.set_cons_succ, List.cons_append, List.nil_append, show (i + 1) * 2 = i * 2 + 1 + 1 by omega]
    rw [← this]
section
variable {w w' : World} {g : Nat} {l : List TagV}
theorem TArr.lt (h : TArr w g l) : g < w.heap.size := (Array.getElem?_eq_some_iff.1 h).1
theorem TArr.below (h : TArr w g l) (hb : Below w.heap.size w w') : TArr w' g l := (hb.block _ h.lt).trans h
theorem TArr.here (h : TArr w g l) {i : Nat} {t : TagV} (hi : l[i]? = some t) : TAt w g (i * 2) t := fun j v hv => by
  have hj : j < 2 := by
    rcases Nat.lt_or_ge j 2 with q | q
    · exact q
    · rw [List.getElem?_eq_none (by simp [tcs]; omega)] at hv; cases hv
  rw [cell_of_row w g _ _ _ _ h]
  have := tC_get hi hj
  rw [← Array.getElem?_toList]
  show (tC l)[i * 2 + j]? = some v
  rw [this, ← hv, Array.getElem?_toList]
theorem TArr.set (h : TArr w g l) (i : Nat) (t : TagV) : TArr (w.setCells g (i * 2) (tcs t).toList) g (l.set i t) := by
  unfold TArr at *
  show ((w.setCell ⟨g, i * 2, none⟩ (.int .u32 ((t.1 : Nat) : Int))).setCell ⟨g, i * 2 + 1, none⟩ (.bool t.2)).heap[g]? = _
  rw [heap_setCell_same _ g (i * 2 + 1) _ _ _ (heap_setCell_same w g (i * 2) _ _ _ h), ← tC_set l i t]
  simp
theorem TArr.at (h : TArr w g l) : TagsAt w (some ⟨g, 0, none⟩) l := fun _ => ⟨g, 0, rfl, h.lt, fun i v hv => by rw [Nat.zero_add]; exact h.here hv⟩
theorem TArr.own (h : TArr w g l) {base n : Nat} (hb : base ≤ g) (hn : n = l.length) (hm : n ≤ 1000) : w.ownsRow base 62 2 (.slice (some ⟨g, 0, none⟩) n n) n (tC l) :=
  ⟨by rw [tC_length, hn], .inr ⟨g, n, _, rfl, hb, h, Nat.le_refl _, by simp only [maxLen]; omega, by simp [tC_length, hn], by rw [List.take_of_length_le (by simp [tC_length, hn])]⟩⟩
theorem made_tags (n : Nat) : (madeCells (Value.agg #[.int .u32 0, .bool false]).cells (n * 2)).toList = tC (List.replicate n (0, false)) := by
  apply List.ext_getElem?
  intro i
  by_cases h : i < n * 2
  · have e := tC_get (l := List.replicate n (0, false)) (k := i / 2) (j := i % 2) (t := (0, false)) (by rw [List.getElem?_replicate, if_pos (by omega)]) (Nat.mod_lt _ (by omega))
    rw [show i / 2 * 2 + i % 2 = i by omega] at e
    rw [e]
    have : i % 2 = 0 ∨ i % 2 = 1 := by omega
    unfold madeCells
    simp only [Array.toList_map, List.getElem?_map, Array.toList_range, List.getElem?_range h, Option.map_some]
    show some ((#[Value.int .u32 0, .bool false] : Array Value)[i % 2]!) = _
    rcases this with q | q <;> rw [q] <;> rfl
  · rw [List.getElem?_eq_none (by simp [madeCells]; omega), List.getElem?_eq_none (by rw [tC_length]; simp; omega)]
theorem TArr.made {base n : Nat} {A : Nat} {cs : List Value} (h : w.ownsRow base 62 2 (.slice (some ⟨A, 0, none⟩) n n) n cs) (hc : cs = tC (List.replicate n (0, false))) : TArr w A (List.replicate n (0, false)) := by
  rcases h.2 with ⟨e, _⟩ | ⟨g, cap, cur, e, hb, hg, h1, h2, h3, h4⟩
  · cases e
  · injection e with e1 e2 e3
    injection e1 with e1
    injection e1 with e1
    subst e1 e3
    unfold TArr
    rw [hg]
    rw [List.take_of_length_le (by simp; omega)] at h4
    congr 2
    apply Array.ext'
    rw [h4, hc]
theorem TArr.there (h : TArr w g l) {i : Nat} {t : TagV} (hi : l[i]? = some t) : w.there g (i * 2) 2 := fun j hj => by
  refine ⟨?_, by simp [World.frozen?, show w.heap[g]? = _ from h]⟩
  match j, hj with
  | 0, _ => rw [Nat.add_zero, (h.here hi).blk]; rfl
  | 1, _ => rw [(h.here hi).esc]; rfl
theorem store_tagm {ops : Array Oper} {rest : List Oper} {op : Oper} {a : Act} {w : World} {Q : Exit → Act → World → Prop} (hgd : op.guard = none) (x y : Operand) (ho : op.op = .store 62 x y) (b o : Nat) (t : TagV) (hx : a.eval x = .pointer (some ⟨b, o, none⟩)) (hy : a.eval y = .agg (tcs t)) (ht : w.there b o 2)
    (h : wpList Try.prog ops Q rest (a.put op.dst undef) (w.setCells b o (tcs t).toList)) : wpList Try.prog ops Q (op :: rest) a w :=
  wpList_store_mid hgd 62 x y ho b o (tcs t) hx hy ht tag_size2 (tcs_one t) h
theorem setCells_onlyT (w : World) (g o : Nat) (t : TagV) : Only g w (w.setCells g o (tcs t).toList) := (Only.set w g o _).trans (Only.set _ g (o + 1) _)
end
/-- What lies in memory while a list is read. -/
structure RG (w0 w : World) (X : Blk) (r q p : Nat) : Prop where
  blk : BVar w w0.heap.size X
  row : TRow w r q p
  box : PBox w p w0.heap.size
  low : Below w0.heap.size w0 w
  fun_ : FBox w q
structure AG (w0 w : World) (X : Blk) (r q p g : Nat) (l : List TagV) : Prop extends RG w0 w X r q p where
  arr : TArr w g l
  gr : w0.heap.size < g ∧ r < g ∧ p < g ∧ q < g
section
variable {w0 w w' : World} {X : Blk} {r q p g : Nat} {l : List TagV}
theorem RG.below (h : RG w0 w X r q p) (hb : Below w.heap.size w w') : RG w0 w' X r q p := ⟨h.blk.below hb, h.row.below hb, h.box.below hb, low_go h.low hb, h.fun_.below hb⟩
theorem AG.below (h : AG w0 w X r q p g l) (hb : Below w.heap.size w w') : AG w0 w' X r q p g l := ⟨h.toRG.below hb, h.arr.below hb, h.gr⟩
theorem AG.only (h : AG w0 w X r q p g l) (ho : Only g w w') {m : List TagV} (hm : TArr w' g m) : AG w0 w' X r q p g m :=
  ⟨⟨ho.blk (by have := h.gr; omega) h.blk, h.row.only ho (by have := h.gr; omega), h.box.only ho (by have := h.gr; omega), low_only h.low ho (by have := h.gr; omega), h.fun_.only ho (by have := h.gr; omega)⟩, hm, h.gr⟩
theorem AG.start (h : RG w0 w X r q p) (hg : w.grownBy w' none) (ha : TArr w' w.heap.size l) : AG w0 w' X r q p w.heap.size l := by
  have hb : Below w.heap.size w w' := (Below.refl w.heap.size w).grown hg (Nat.le_refl _) (fun k e => by cases e)
  exact ⟨h.below hb, ha, h.blk.lt, h.row.lt, h.box.lt, h.fun_.lt⟩
end
theorem RG.first {w w2 : World} {X : Blk} {q p : Nat} (F : FBox w2 q) (P : PBox w2 p w.heap.size) (V : BVar w2 w.heap.size X) (B : Below w.heap.size w w2) : RG w ((w2.alloc (.cells rw0 94)).setRow w2.heap.size (trw q p)) X w2.heap.size q p :=
  ⟨(V.below (below_new w2 _)).keepB (setRow_other _ _ _ _ (by have := V.lt; omega)), trow_set (heap_alloc_new w2 _), (P.below (below_new w2 _)).keep (setRow_other _ _ _ _ (by have := P.lt; omega)), row_low (low_go B (below_new w2 _)) B.size _, (F.below (below_new w2 _)).keep (setRow_other _ _ _ _ (by have := F.lt; omega))⟩
set_option maxRecDepth 100000 in
set_option maxHeartbeats 4000000 in
theorem pReadListT (X : Blk) (w : World) : Calls Try.prog 51 #[.agg (arr X), .func (.func 42) #[] #[]] w fun e w' => ReadT X w.heap.size e w' ∧ Below w.heap.size w w' := by
  have hz := fun W => zero_blk W
  have hn := fun W => zero_trw W
  have V := Lib.hid (show BVar (w.alloc (.cells (arr X) 28)) w.heap.size X from heap_alloc_new w _)
  have B := Lib.hid (below_new w (.cells (arr X) 28))
  have CN := Lib.hid fun W => pTagsIn w.heap.size W
  have C2 : Hid (∀ W, BVar W w.heap.size X → Calls Try.prog 46 #[.pointer (some ⟨w.heap.size, 0, none⟩), .int .i64 8] W fun e w' => e = .returned (.int .u32 ((num X 2 : Nat) : Int)) ∧ w' = W) := Lib.hid fun W h => pNum _ 2 X W h (by omega)
  have C3 : Hid (∀ W, BVar W w.heap.size X → Calls Try.prog 46 #[.pointer (some ⟨w.heap.size, 0, none⟩), .int .i64 12] W fun e w' => e = .returned (.int .u32 ((num X 3 : Nat) : Int)) ∧ w' = W) := Lib.hid fun W h => pNum _ 3 X W h (by omega)
  obtain ⟨n3, hn3⟩ : ∃ n3, num X 3 = n3 := ⟨_, rfl⟩
  obtain ⟨s2, hs2⟩ : ∃ s2, num X 2 = s2 := ⟨_, rfl⟩
  rw [hn3] at C3
  rw [hs2] at C2
  have N3 := Lib.hid hn3
  have S2 := Lib.hid hs2
  have w60 : IntKind.u32.wrap 30 = 30 := by decide
  by_cases h3 : n3 ≤ 30
  rotate_left
  · have NR := Lib.hid fun q : IsJT X => h3 (by rw [← hn3]; exact q.hi)
    have d3 : decide ((30 : Int) < (n3 : Int)) = true := by simp; omega
    have e3 : (30 : Int) < (n3 : Int) := by omega
    clear h3 hn3 hs2
    go_enter Try.func51, Try.ntmps51
    go_upto_region 1 with fail
    generalize w.alloc (.cells (arr X) 28) = w1 at V B ⊢
    go_upto_region 2 with (first
      | (go_at_call 42; with_reducible refine (CN.out _).mono ?_; rintro e w2 ⟨q, p, rfl, lq, lp, hf, hp, hb⟩; have F2 := Lib.hid hf; clear hf lq lp; have P2 := Lib.hid hp; have V2 := Lib.hid (V.out.below hb); have B2 := Lib.hid (low_go B.out hb); clear hp hb)
      | (refine store_trw rfl (.tmp 7) (.tmp 15) rfl w2.heap.size q p rfl rfl (heap_alloc_new w2 _) ?_))
    have K := Lib.hid (RG.first F2.out P2.out V2.out B2.out)
    clear V B P2 V2 B2 hn CN F2
    generalize (w2.alloc (.cells rw0 94)).setRow w2.heap.size (trw q p) = w4 at K ⊢
    generalize w2.heap.size = r at K ⊢
    go_upto_region 3 with (first
      | (go_at_call 46; with_reducible refine (C2.out _ K.out.blk).mono ?_; rintro e w5 ⟨rfl, rfl⟩)
      | (go_at_call 46; with_reducible refine (C3.out _ K.out.blk).mono ?_; rintro e w6 ⟨rfl, rfl⟩))
    have c1 := K.out.row.c1
    go_wp2_with fail
    go_ret3
    exact ⟨.inr ⟨NR.out, rfl⟩, K.out.low⟩
  have d3 : decide ((30 : Int) < (n3 : Int)) = false := by simp; omega
  have e3 : ¬ (30 : Int) < (n3 : Int) := by omega
  have L60 := Lib.hid h3
  have CW := Lib.hid fun W g (h : TagsAt W (some ⟨g, 0, none⟩) (tagsOf X n3)) => pWriteListT s2 (some ⟨g, 0, none⟩) n3 (tagsOf X n3) W (by rw [tagsOf_length]; omega) (tagsOf_small X n3) h
  simp only [tagsOf_length] at CW
  have FE : Hid (fillL (tagAt X) (0, false) n3 n3 = tagsOf X n3) := Lib.hid (fillL_end _ _ _)
  have FS : Hid (∀ i, i < n3 → (fillL (tagAt X) (0, false) n3 i).set i (tagAt X i) = fillL (tagAt X) (0, false) n3 (i + 1)) := Lib.hid fun i _ => fillL_set _ _ n3 i
  have F0 := Lib.hid (fillL_0 (tagAt X) (0, false) n3)
  have IR : Hid (IsJT X → MayT s2 (tagsOf X n3) ∧ listB (tagsL s2 (tagsOf X n3)) = X) := Lib.hid fun q => by have := is_tags q; rwa [hn3, hs2] at this
  have RI : Hid (MayT s2 (tagsOf X n3) → listB (tagsL s2 (tagsOf X n3)) = X → IsJT X) := Lib.hid fun q e => by have := tags_is q (tagsOf_small X n3); rwa [e] at this
  obtain ⟨i0, hi0, hzz⟩ := Option.map_eq_some_iff.1 tag_info
  simp only [Prod.mk.injEq] at hzz
  obtain ⟨hz0, hz1, hz2⟩ := hzz
  have HZ0 := Lib.hid hz0
  have HZ1 := Lib.hid hz1
  have HZ2 := Lib.hid hz2
  have HI0 := Lib.hid hi0
  clear hz0 hz1 hz2 hi0 h3 hn3 hs2
  go_enter Try.func51, Try.ntmps51
  go_upto_region 1 with fail
  generalize w.alloc (.cells (arr X) 28) = w1 at V B ⊢
  go_upto_region 2 with (first
    | (go_at_call 42; with_reducible refine (CN.out _).mono ?_; rintro e w2 ⟨q, p, rfl, lq, lp, hf, hp, hb⟩; have F2 := Lib.hid hf; clear hf lq lp; have P2 := Lib.hid hp; have V2 := Lib.hid (V.out.below hb); have B2 := Lib.hid (low_go B.out hb); clear hp hb)
    | (refine store_trw rfl (.tmp 7) (.tmp 15) rfl w2.heap.size q p rfl rfl (heap_alloc_new w2 _) ?_))
  have K := Lib.hid (RG.first F2.out P2.out V2.out B2.out)
  clear V B P2 V2 B2 hn CN F2
  generalize (w2.alloc (.cells rw0 94)).setRow w2.heap.size (trw q p) = w4 at K ⊢
  generalize w2.heap.size = r at K ⊢
  go_upto_region 3 with (first
    | (go_at_call 46; with_reducible refine (C2.out _ K.out.blk).mono ?_; rintro e w5 ⟨rfl, rfl⟩)
    | (go_at_call 46; with_reducible refine (C3.out _ K.out.blk).mono ?_; rintro e w6 ⟨rfl, rfl⟩))
  have c1 := K.out.row.c1
  go_upto_region 5 with fail
  clear c1 d3 e3 w60 C2 C3
  have l60 := L60.out
  go_upto_region 6 with (at_make; refine wpList_make_full _ rfl (.tmp 23) (.tmp 23) 25 rfl w.heap.size 62 i0 _ 2 Try.underlying25 HI0.out HZ0.out HZ1.out .u32 .u32 (n3 : Int) (n3 : Int) n3 rfl rfl rfl rfl (by rw [HZ2.out]; omega) (by simp only [maxLen]; omega) K.out.low.size ?_; intro w7 hown hgrow; have K7 := Lib.hid (AG.start K.out hgrow (TArr.made hown (made_tags n3))); rw [← F0.out] at K7; clear hown hgrow)
  clear K F0
  generalize w6.heap.size = g at K7 ⊢
  go_wp2_with fail
  go_loopw [27] (fun kv wr => ∃ k : Nat, k ≤ n3 ∧ kv = .int .i64 k ∧ Hid (AG w wr X r q p g (fillL (tagAt X) (0, false) n3 k))) (fun kv _ => n3 - (intOf kv).toNat)
  case atStart => exact ⟨0, Nat.zero_le _, rfl, K7⟩
  case round =>
    obtain ⟨k, hk, rfl, K2⟩ := hrel
    clear K7
    by_cases hlt : k < n3
    · have k0 : (0 : Int) ≤ (k : Int) := by omega
      have kl : (k : Int) < (n3 : Int) := by omega
      have w2 : IntKind.i64.wrap ((k : Int) + 1) = (k : Int) + 1 := by rw [IntKind.wrap_i64]; omega
      have c3 := K2.out.row.c3
      have ft := Lib.hid (fillL_at (tagAt X) (0, false) hlt)
      have CR := Lib.hid (fun W (h : AG w W X r q p g (fillL (tagAt X) (0, false) n3 k)) => pT3 q p w.heap.size k X W h.fun_ h.box h.blk (by omega))
      have FK := Lib.hid (FS.out k hlt)
      generalize tagAt X k = t at CR FK
      go_upto_region 10 with (first
        | (go_at_call 57; with_reducible refine (CR.out _ K2.out).mono ?_; rintro e w9 ⟨rfl, hb⟩; have K9 := Lib.hid (K2.out.below hb); clear hb)
        | (refine store_tagm rfl (.tmp 36) (.tmp 35) rfl g (k * 2) t rfl rfl (K9.out.arr.there ft.out) ?_))
      have K10 := Lib.hid (K9.out.only (setCells_onlyT w9 g (k * 2) t) (K9.out.arr.set k t))
      rw [FK.out] at K10
      generalize w9.setCells g (k * 2) (tcs t).toList = w10 at K10 ⊢
      clear K9 c3
      simp only [Act.put]
      go_wp2_with fail
      go_roundw
      case rel => exact ⟨k + 1, by omega, by congr 1, K10⟩
      case measure => simp [intOf]; omega
    obtain rfl : k = n3 := by omega
    have kl : ¬ (k : Int) < (k : Int) := by omega
    rw [FE.out] at K2
    clear FE FS hk hlt
    have CG := Lib.hid (CW.out wr g K2.out.arr.at)
    clear CW
    by_cases hm : MayT s2 (tagsOf X k)
    · rw [writeJT_yes hm] at CG
      obtain ⟨Y, hY⟩ : ∃ Y, listB (tagsL s2 (tagsOf X k)) = Y := ⟨_, rfl⟩
      rw [hY] at CG IR RI
      have hg := blk_guard
      have he := fun W => equalIn_blk Y X W
      by_cases e : Y = X
      · have YES := Lib.hid (RI.out hm e)
        rw [decide_eq_true e] at he
        clear IR RI hY hm e
        go_upto_region 12 with (first
          | (go_at_call 41; with_reducible refine (CG.out).mono ?_; rintro e w9 ⟨rfl, hb⟩)
          | (refine store_newJ rfl (.tmp 12) (.tmp 43) rfl Y rfl rfl ?_))
        have K9 := Lib.hid ((K2.out.below hb).below (newB_low w9 Y))
        have Y9 := Lib.hid (newB_var w9 Y)
        clear hb K2 CG hz
        generalize newB w9 Y = w10 at K9 Y9 ⊢
        generalize w9.heap.size = yb at Y9 ⊢
        go_wp2_with (first
          | (refine load_blk_w (by with_unfolding_all rfl) (.tmp 12) rfl yb 0 rfl Y Y9.out.at ?_)
          | (refine load_blk_w (by with_unfolding_all rfl) (.tmp 2) rfl w.heap.size 0 rfl X K9.out.blk.at ?_))
        go_ret3
        exact ⟨.inl ⟨YES.out, .slice (some ⟨g, 0, none⟩) k k, by rw [S2.out]; rfl, by rw [N3.out]; exact K9.out.arr.own (by have := K9.out.gr; omega) (tagsOf_length X k).symm (by omega)⟩, K9.out.low⟩
      · have NR := Lib.hid (fun q : IsJT X => e (IR.out q).2)
        rw [decide_eq_false e] at he
        clear IR RI hY hm e
        go_upto_region 12 with (first
          | (go_at_call 41; with_reducible refine (CG.out).mono ?_; rintro e w9 ⟨rfl, hb⟩)
          | (refine store_newJ rfl (.tmp 12) (.tmp 43) rfl Y rfl rfl ?_))
        have K9 := Lib.hid ((K2.out.below hb).below (newB_low w9 Y))
        have Y9 := Lib.hid (newB_var w9 Y)
        clear hb K2 CG hz
        generalize newB w9 Y = w10 at K9 Y9 ⊢
        generalize w9.heap.size = yb at Y9 ⊢
        go_wp2_with (first
          | (refine load_blk_w (by with_unfolding_all rfl) (.tmp 12) rfl yb 0 rfl Y Y9.out.at ?_)
          | (refine load_blk_w (by with_unfolding_all rfl) (.tmp 2) rfl w.heap.size 0 rfl X K9.out.blk.at ?_))
        go_ret3
        exact ⟨.inr ⟨NR.out, rfl⟩, K9.out.low⟩
    · rw [writeJT_no hm] at CG
      have NR := Lib.hid (fun q : IsJT X => hm (IR.out q).1)
      clear IR RI hm
      go_upto_region 12 with (first
        | (go_at_call 41; with_reducible refine (CG.out).mono ?_; rintro e w9 ⟨rfl, hb⟩)
        | (refine store_newJ rfl (.tmp 12) (.tmp 43) rfl .zero rfl rfl ?_))
      have K9 := Lib.hid ((K2.out.below hb).below (newB_low w9 .zero))
      clear hb K2 CG hz
      generalize newB w9 .zero = w10 at K9 ⊢
      go_wp2_with fail
      go_ret3
      exact ⟨.inr ⟨NR.out, rfl⟩, K9.out.low⟩
end Go.Proofs.Ytjiooadakklmlaa
