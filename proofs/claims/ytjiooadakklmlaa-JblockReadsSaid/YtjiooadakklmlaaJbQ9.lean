import Derived.Test.YtjiooadakklmlaaJbQ8
namespace Go.Proofs.Ytjiooadakklmlaa
open Go.RowKit

/-! The document's own WriteDesc. -/
def headT (s : Nat) (l : List TagV) : List Nat := [magic, 1, s, l.length]
theorem flatT_app (l m : List TagV) : flatT (l ++ m) = flatT l ++ flatT m := by
  induction l with
  | nil => rfl
  | cons t l ih => show _ :: _ :: flatT (l ++ m) = _ :: _ :: (flatT l ++ flatT m); rw [ih]
theorem flatT_next {l : List TagV} {i : Nat} {t : TagV} (h : l[i]? = some t) : flatT (l.take (i + 1)) = flatT (l.take i) ++ [t.1, flag t.2] := by
  rw [List.take_add_one, h, flatT_app]; rfl
theorem flatT_len (l : List TagV) : (flatT l).length = 2 * l.length := by
  induction l with
  | nil => rfl
  | cons t l ih => show (flatT l).length + 1 + 1 = _; rw [ih, List.length_cons]; omega
theorem tagsL_len (s : Nat) (l : List TagV) : (tagsL s l).length = 4 + 2 * l.length := by
  unfold tagsL; rw [List.length_append, flatT_len]; rfl
theorem fst_at {l : List TagV} {i x : Nat} {e : Bool} (h : l[i]? = some (x, e)) : (l.map Prod.fst).getD i 0 = x := by
  rw [List.getD_eq_getElem?_getD, List.getElem?_map, h]; rfl
theorem head_next {s : Nat} {l : List TagV} {i x : Nat} {e : Bool} (h : l[i]? = some (x, e)) : nC (headT s l ++ flatT (l.take i)) ++ nC [x, flag e] = nC (headT s l ++ flatT (l.take (i + 1))) := by
  rw [flatT_next h, ← List.append_assoc, nC_append (headT s l ++ flatT (l.take i))]
/-- What WriteDesc keeps in memory. -/
structure WT (w0 : World) (s : Nat) (l : List TagV) (v : Value) (i : Nat) (w : World) : Prop where
  res : BVar w w0.heap.size .zero
  own : w.ownsRow (w0.heap.size + 1) 22 1 v (4 + 2 * i) (nC (headT s l ++ flatT (l.take i)))
  low : Below w0.heap.size w0 w
theorem WT.below {w0 w w' : World} {s : Nat} {l : List TagV} {v : Value} {i : Nat} (h : WT w0 s l v i w) (hb : Below w.heap.size w w') : WT w0 s l v i w' := ⟨h.res.below hb, own_keep h.own hb, low_go h.low hb⟩
theorem WT.app {w0 w w1 : World} {s : Nat} {l : List TagV} {v v' : Value} {i : Nat} {xs : List Value} (h : WT w0 s l v i w) (o : Obj) (hown : w1.ownsRow (w0.heap.size + 1) 22 1 v' (4 + 2 * i + 2) xs) (hx : xs = nC (headT s l ++ flatT (l.take (i + 1)))) (hgrow : (w.alloc o).grownBy w1 v.ownBlock) : WT w0 s l v' (i + 1) w1 := by
  have ha := h.below (below_new w o)
  refine ⟨(hgrow.block w0.heap.size ha.res.lt (fun e => ?_)).trans ha.res, by rw [← hx]; exact hown, ha.low.grown hgrow ha.low.size (fun k e => by have := (h.own.lt k e).1; omega)⟩
  have := (h.own.lt _ e.symm).1
  omega
set_option maxRecDepth 100000 in
set_option maxHeartbeats 8000000 in
theorem rWriteDesc (s : Nat) (A : Option Addr) (c : Nat) (l : List TagV) (w : World) (hl : l.length ≤ 1000) (hs : SmallT l) (hN : TagsAt w A l) : Calls Try.prog 14 #[.int .u32 (s : Int), .slice A l.length c] w fun e w' => e = .returned (.tuple #[.agg (arr (writeJT s l).1), .int .i64 (writeJT s l).2]) ∧ Below w.heap.size w w' := by
  have hz := fun W => zero_blk W
  have R := Lib.hid (show BVar (w.alloc (.cells (arr .zero) 28)) w.heap.size .zero from heap_alloc_new w _)
  have B := Lib.hid (below_new w (.cells (arr .zero) 28))
  have CS := Lib.hid fun W => rSeq s W
  have H := Lib.hid hN
  have HS := Lib.hid hs
  clear hN hs
  by_cases h1 : MaySeq s
  rotate_left
  · have E := Lib.hid (writeJT_no fun q : MayT s l => h1 q.seq)
    rw [decide_eq_false h1] at CS
    clear h1
    go_enter Try.func14, Try.ntmps14
    go_upto_region 1 with fail
    generalize w.alloc (.cells (arr .zero) 28) = w1 at R B ⊢
    clear hz
    go_wp2_with (first
      | (go_at_call 39; with_reducible refine (CS.out _).mono ?_; rintro e w2 ⟨rfl, rfl⟩)
      | (refine build_zeroB rfl rfl ?_)
      | (refine store_row rfl (.tmp 4) (.tmp 22) rfl w.heap.size .zero .zero 28 rfl rfl R.out ?_))
    exact bodyPost_ret (res_blk2 Try.results14 _ _ w.heap.size .zero (.int .i64 2) _ rfl rfl (row_heap _ _ _ _ R.out)) rfl ⟨by rw [E.out], row_low B.out (Nat.le_refl _) _⟩
  rw [decide_eq_true h1] at CS
  by_cases h2 : 1 ≤ l.length
  rotate_left
  · have E := Lib.hid (writeJT_no fun q : MayT s l => h2 q.lo)
    have d2 : decide ((l.length : Int) < 1) = true := by simp; omega
    have e2 : (l.length : Int) < 1 := by omega
    clear h1 h2
    go_enter Try.func14, Try.ntmps14
    go_upto_region 1 with fail
    generalize w.alloc (.cells (arr .zero) 28) = w1 at R B ⊢
    clear hz
    go_wp2_with (first
      | (go_at_call 39; with_reducible refine (CS.out _).mono ?_; rintro e w2 ⟨rfl, rfl⟩)
      | (refine build_zeroB rfl rfl ?_)
      | (refine store_row rfl (.tmp 4) (.tmp 22) rfl w.heap.size .zero .zero 28 rfl rfl R.out ?_))
    exact bodyPost_ret (res_blk2 Try.results14 _ _ w.heap.size .zero (.int .i64 2) _ rfl rfl (row_heap _ _ _ _ R.out)) rfl ⟨by rw [E.out], row_low B.out (Nat.le_refl _) _⟩
  have d2 : decide ((l.length : Int) < 1) = false := by simp; omega
  have e2 : ¬ (l.length : Int) < 1 := by omega
  by_cases h3 : l.length ≤ 30
  rotate_left
  · have E := Lib.hid (writeJT_no fun q : MayT s l => h3 q.hi)
    have d3 : decide ((30 : Int) < (l.length : Int)) = true := by simp; omega
    have e3 : (30 : Int) < (l.length : Int) := by omega
    clear h1 h2 h3
    go_enter Try.func14, Try.ntmps14
    go_upto_region 1 with fail
    generalize w.alloc (.cells (arr .zero) 28) = w1 at R B ⊢
    clear hz
    go_wp2_with (first
      | (go_at_call 39; with_reducible refine (CS.out _).mono ?_; rintro e w2 ⟨rfl, rfl⟩)
      | (refine build_zeroB rfl rfl ?_)
      | (refine store_row rfl (.tmp 4) (.tmp 22) rfl w.heap.size .zero .zero 28 rfl rfl R.out ?_))
    exact bodyPost_ret (res_blk2 Try.results14 _ _ w.heap.size .zero (.int .i64 2) _ rfl rfl (row_heap _ _ _ _ R.out)) rfl ⟨by rw [E.out], row_low B.out (Nat.le_refl _) _⟩
  have d3 : decide ((30 : Int) < (l.length : Int)) = false := by simp; omega
  have e3 : ¬ (30 : Int) < (l.length : Int) := by omega
  have MR : Hid (Rise (l.map Prod.fst) → MayT s l) := Lib.hid fun q => ⟨h1, h2, h3, q⟩
  have L1 := Lib.hid h2
  have L30 := Lib.hid h3
  have w32 : IntKind.u32.wrap (l.length : Int) = (l.length : Int) := by rw [IntKind.wrap_u32]; omega
  clear h1
  obtain ⟨i0, hi0, hzz⟩ := Option.map_eq_some_iff.1 u32_info
  simp only [Prod.mk.injEq] at hzz
  obtain ⟨hz0, hz1, hz2⟩ := hzz
  have HZ0 := Lib.hid hz0
  have HZ1 := Lib.hid hz1
  have HZ2 := Lib.hid hz2
  have HI0 := Lib.hid hi0
  clear hz0 hz1 hz2 hi0
  go_enter Try.func14, Try.ntmps14
  go_upto_region 1 with fail
  generalize w.alloc (.cells (arr .zero) 28) = w1 at R B ⊢
  clear hz
  go_upto_region 4 with (first
    | (go_at_call 39; with_reducible refine (CS.out _).mono ?_; rintro e w2 ⟨rfl, rfl⟩)
    | (refine build_nums4 rfl (.const (.int .u32 1280199249)) (.const (.int .u32 1)) (.tmp 23) (.tmp 26) rfl 1280199249 1 s l.length rfl rfl rfl rfl ?_))
  have K : Hid (WT w s l (.slice (some ⟨w2.heap.size, 0, none⟩) 4 4) 0 (w2.alloc (.cells #[.int .u32 ((1280199249 : Nat) : Int), .int .u32 ((1 : Nat) : Int), .int .u32 ((s : Nat) : Int), .int .u32 ((l.length : Nat) : Int)] 22))) := Lib.hid ⟨R.out.below (below_new _ _), nums_own [magic, 1, s, l.length] _ rfl (by have := R.out.lt; omega) (by simp only [maxLen]; show 4 ≤ _; omega), low_go B.out (below_new _ _)⟩
  clear CS d2 d3 R B
  generalize w2.alloc _ = w4 at K ⊢
  generalize (Value.slice (some ⟨w2.heap.size, 0, none⟩) 4 4) = v4 at K ⊢
  go_wp2_with fail
  go_loopw [6, 7] (fun lv iv wr => ∃ (i : Nat) (v : Value), i ≤ l.length ∧ lv = v ∧ iv = .int .i64 i ∧ Hid (WT w s l v i wr) ∧ Hid (RiseTo (l.map Prod.fst) i)) (fun _ iv _ => l.length - (intOf iv).toNat)
  case atStart => exact ⟨0, _, Nat.zero_le _, rfl, rfl, K, Lib.hid fun j h => by omega⟩
  case round =>
    obtain ⟨i, v, hi, rfl, rfl, K2, RT⟩ := hrel
    clear K
    have l30 := L30.out
    obtain ⟨b, o, rfl, hb, hc⟩ := (H.out.below K2.out.low) (by omega)
    by_cases hlt : i < l.length
    rotate_left
    · obtain rfl : i = l.length := by omega
      have g1 : ¬ (l.length : Int) < (l.length : Int) := by omega
      have hmr := MR.out (fun j hj => RT.out j (by rwa [List.length_map] at hj))
      have E := Lib.hid (writeJT_yes hmr)
      obtain ⟨A', c', hv, _, _⟩ := own_numsN K2.out.own (by rw [List.length_append, flatT_len, List.take_length]; rfl)
      subst hv
      have CB := Lib.hid (block_own K2.out.own (tagsL s l) (by rw [List.take_length]; rfl) (tagsL_len s l).symm (by rw [tagsL_len]; omega) (tagsL_lt hmr HS.out))
      clear hmr hc hb hlt hi
      go_wp2_with (first
        | (go_at_call 40; with_reducible refine (CB.out).mono ?_; rintro e w9 ⟨rfl, hb⟩; have K9 := Lib.hid (K2.out.below hb); clear hb)
        | (refine store_row rfl (.tmp 4) (.tmp 66) rfl w.heap.size (listB (tagsL s l)) .zero 28 rfl rfl K9.out.res ?_))
      exact bodyPost_ret (res_blk2 Try.results14 _ _ w.heap.size (listB (tagsL s l)) (.int .i64 0) _ rfl rfl (row_heap _ _ _ _ K9.out.res)) rfl ⟨by rw [E.out], row_low K9.out.low (Nat.le_refl _) _⟩
    have g1 : (i : Int) < (l.length : Int) := by omega
    have i0' : (0 : Int) ≤ (i : Int) := by omega
    obtain ⟨⟨x, e⟩, ht⟩ : ∃ t, l[i]? = some t := ⟨l[i], List.getElem?_eq_getElem hlt⟩
    have HT := Lib.hid ht
    have tt := hc i _ ht
    have DT : Hid (∀ W, Below wr.heap.size wr W → TAt W b (o + i * 2) (x, e)) := Lib.hid fun W h => tt.below h hb
    go_upto_region 7 with fail
    by_cases i1 : i = 0
    · have d0 : decide ((0 : Int) < (i : Int)) = false := by simp; omega
      have d1 : ¬ (0 : Int) < (i : Int) := by omega
      have d3 : decide (0 < i) = false := by simp; omega
      have RT2 : Hid (RiseTo (l.map Prod.fst) (i + 1)) := Lib.hid fun j hj => by omega
      clear i1 hc tt ht
      refine wp_region_class (More wr) (by kernel_rfl) (by kernel_rfl) (More.drew _) ?_
      repeat (first | go_big_quiet_skip | (go_big_quiet_want; first | (go_big_quiet_op; first | go_big_quiet_on | (apply Exists.intro; refine ⟨fun _ _ => ?_, ?_⟩; (with_reducible exact rfl); go_big_quiet_on))))
      refine wpQuiet_nil ?_
      intro w5 hw5
      have K5 := Lib.hid (K2.out.below hw5)
      have dt := (DT.out w5 hw5).blk
      have de := (DT.out w5 hw5).esc
      clear hw5 K2
      rcases e with _ | _
      · go_wp2_with (first
          | (refine build_nums2 rfl (.tmp 61) (.tmp 62) rfl x 0 rfl rfl ?_)
          | (at_builtin; refine wpList_append_lies _ rfl (.tmp 56) (.tmp 63) 26 rfl (w.heap.size + 1) 22 i0 _ 1 4 Try.underlying26 HI0.out HZ0.out HZ1.out HZ2.out (by rfl) (by omega) _ (4 + 2 * i) (nC (headT s l ++ flatT (l.take i))) (by rfl) (K5.out.below (below_new _ _)).own ⟨w5.heap.size, 0, none⟩ 2 2 (nC [x, 0]) (by rfl) (by rfl) (World.news_of_block (heap_alloc_new w5 _)) (nC_one _) (by omega) (by simp only [maxLen]; omega) (by omega) (by have := K5.out.low.size; have := K5.out.res.lt; simp; omega) (w5.heap.size + 1) (by simp) ?_; intro gg cap w8 hown hgrow hat hlt2; have K8 := Lib.hid (K5.out.app _ hown (head_next HT.out) hgrow); clear hown hgrow hat hlt2))
        go_roundw
        case rel => exact ⟨i + 1, _, by omega, rfl, by congr 1, K8, RT2⟩
        case measure => simp [intOf]; omega
      · go_wp2_with (first
          | (refine build_nums2 rfl (.tmp 61) (.tmp 62) rfl x 1 rfl rfl ?_)
          | (at_builtin; refine wpList_append_lies _ rfl (.tmp 56) (.tmp 63) 26 rfl (w.heap.size + 1) 22 i0 _ 1 4 Try.underlying26 HI0.out HZ0.out HZ1.out HZ2.out (by rfl) (by omega) _ (4 + 2 * i) (nC (headT s l ++ flatT (l.take i))) (by rfl) (K5.out.below (below_new _ _)).own ⟨w5.heap.size, 0, none⟩ 2 2 (nC [x, 1]) (by rfl) (by rfl) (World.news_of_block (heap_alloc_new w5 _)) (nC_one _) (by omega) (by simp only [maxLen]; omega) (by omega) (by have := K5.out.low.size; have := K5.out.res.lt; simp; omega) (w5.heap.size + 1) (by simp) ?_; intro gg cap w8 hown hgrow hat hlt2; have K8 := Lib.hid (K5.out.app _ hown (head_next HT.out) hgrow); clear hown hgrow hat hlt2))
        go_roundw
        case rel => exact ⟨i + 1, _, by omega, rfl, by congr 1, K8, RT2⟩
        case measure => simp [intOf]; omega
    obtain ⟨m, hm⟩ : ∃ m, i = m + 1 := ⟨i - 1, by omega⟩
    have d0 : decide ((0 : Int) < (i : Int)) = true := by simp; omega
    have d1 : (0 : Int) < (i : Int) := by omega
    have d3 : decide (0 < i) = true := by simp; omega
    obtain ⟨⟨u, eu⟩, hu⟩ : ∃ t, l[m]? = some t := ⟨l[m]'(by omega), List.getElem?_eq_getElem (by omega)⟩
    have tu := hc m _ hu
    have DU : Hid (∀ W, Below wr.heap.size wr W → W.cell? ⟨b, o + m * 2, none⟩ = some (.int .u32 (u : Int))) := Lib.hid fun W h => (tu.below h hb).blk
    have gv : (l.map Prod.fst).getD (m + 1) 0 = x := by rw [← hm]; exact fst_at ht
    have gu : (l.map Prod.fst).getD m 0 = u := fst_at hu
    have wq : IntKind.i64.wrap ((i : Int) - 1) = (m : Int) := by rw [IntKind.wrap_i64]; omega
    have m0 : (0 : Int) ≤ (m : Int) := by omega
    have m1 : (m : Int) < (l.length : Int) := by omega
    by_cases q : x ≤ u
    · have s1 : decide ((x : Int) ≤ (u : Int)) = true := by simp; omega
      have s2 : (x : Int) ≤ (u : Int) := by omega
      have s3 : decide (x ≤ u) = true := by simp; omega
      have E := Lib.hid (writeJT_no fun r : MayT s l => by have := r.rise m (by rw [List.length_map]; omega); rw [gv, gu] at this; omega)
      clear hc tt ht tu hu gv gu i1 q hm
      refine wp_region_class (More wr) (by kernel_rfl) (by kernel_rfl) (More.drew _) ?_
      repeat (first | go_big_quiet_skip | (go_big_quiet_want; first | (refine quietJ_u32 (.tmp 40) rfl ⟨b, o + i * 2, none⟩ rfl _ (by intro w' hw'; exact (DT.out w' hw').blk) ?_; simp only [Act.put, List.setIfInBounds_toArray, List.set_cons_zero, List.set_cons_succ]; go_big_quiet_on) | (refine quietJ_u32 (.tmp 46) rfl ⟨b, o + m * 2, none⟩ rfl _ (by intro w' hw'; exact DU.out w' hw') ?_; simp only [Act.put, List.setIfInBounds_toArray, List.set_cons_zero, List.set_cons_succ]; go_big_quiet_on) | (go_big_quiet_op; first | go_big_quiet_on | (apply Exists.intro; refine ⟨fun _ _ => ?_, ?_⟩; (with_reducible exact rfl); go_big_quiet_on))))
      refine wpQuiet_nil ?_
      intro w5 hw5
      have K5 := Lib.hid (K2.out.below hw5)
      have dt := (DT.out w5 hw5).blk
      have de := (DT.out w5 hw5).esc
      clear hw5 K2
      go_wp2_with (first
        | (refine build_zeroB rfl rfl ?_)
        | (refine store_row rfl (.tmp 4) (.tmp 50) rfl w.heap.size .zero .zero 28 rfl rfl K5.out.res ?_))
      exact bodyPost_ret (res_blk2 Try.results14 _ _ w.heap.size .zero (.int .i64 2) _ rfl rfl (row_heap _ _ _ _ K5.out.res)) rfl ⟨by rw [E.out], row_low K5.out.low (Nat.le_refl _) _⟩
    · have s1 : decide ((x : Int) ≤ (u : Int)) = false := by simp; omega
      have s2 : ¬ (x : Int) ≤ (u : Int) := by omega
      have s3 : decide (x ≤ u) = false := by simp; omega
      have RT2 : Hid (RiseTo (l.map Prod.fst) (i + 1)) := Lib.hid (by
        have := RT.out
        rw [hm] at this ⊢
        exact this.next (by rw [gv, gu]; omega))
      clear hc tt ht tu hu gv gu i1 q hm
      refine wp_region_class (More wr) (by kernel_rfl) (by kernel_rfl) (More.drew _) ?_
      repeat (first | go_big_quiet_skip | (go_big_quiet_want; first | (refine quietJ_u32 (.tmp 40) rfl ⟨b, o + i * 2, none⟩ rfl _ (by intro w' hw'; exact (DT.out w' hw').blk) ?_; simp only [Act.put, List.setIfInBounds_toArray, List.set_cons_zero, List.set_cons_succ]; go_big_quiet_on) | (refine quietJ_u32 (.tmp 46) rfl ⟨b, o + m * 2, none⟩ rfl _ (by intro w' hw'; exact DU.out w' hw') ?_; simp only [Act.put, List.setIfInBounds_toArray, List.set_cons_zero, List.set_cons_succ]; go_big_quiet_on) | (go_big_quiet_op; first | go_big_quiet_on | (apply Exists.intro; refine ⟨fun _ _ => ?_, ?_⟩; (with_reducible exact rfl); go_big_quiet_on))))
      refine wpQuiet_nil ?_
      intro w5 hw5
      have K5 := Lib.hid (K2.out.below hw5)
      have dt := (DT.out w5 hw5).blk
      have de := (DT.out w5 hw5).esc
      clear hw5 K2
      rcases e with _ | _
      · go_wp2_with (first
          | (refine build_nums2 rfl (.tmp 61) (.tmp 62) rfl x 0 rfl rfl ?_)
          | (at_builtin; refine wpList_append_lies _ rfl (.tmp 56) (.tmp 63) 26 rfl (w.heap.size + 1) 22 i0 _ 1 4 Try.underlying26 HI0.out HZ0.out HZ1.out HZ2.out (by rfl) (by omega) _ (4 + 2 * i) (nC (headT s l ++ flatT (l.take i))) (by rfl) (K5.out.below (below_new _ _)).own ⟨w5.heap.size, 0, none⟩ 2 2 (nC [x, 0]) (by rfl) (by rfl) (World.news_of_block (heap_alloc_new w5 _)) (nC_one _) (by omega) (by simp only [maxLen]; omega) (by omega) (by have := K5.out.low.size; have := K5.out.res.lt; simp; omega) (w5.heap.size + 1) (by simp) ?_; intro gg cap w8 hown hgrow hat hlt2; have K8 := Lib.hid (K5.out.app _ hown (head_next HT.out) hgrow); clear hown hgrow hat hlt2))
        go_roundw
        case rel => exact ⟨i + 1, _, by omega, rfl, by congr 1, K8, RT2⟩
        case measure => simp [intOf]; omega
      · go_wp2_with (first
          | (refine build_nums2 rfl (.tmp 61) (.tmp 62) rfl x 1 rfl rfl ?_)
          | (at_builtin; refine wpList_append_lies _ rfl (.tmp 56) (.tmp 63) 26 rfl (w.heap.size + 1) 22 i0 _ 1 4 Try.underlying26 HI0.out HZ0.out HZ1.out HZ2.out (by rfl) (by omega) _ (4 + 2 * i) (nC (headT s l ++ flatT (l.take i))) (by rfl) (K5.out.below (below_new _ _)).own ⟨w5.heap.size, 0, none⟩ 2 2 (nC [x, 1]) (by rfl) (by rfl) (World.news_of_block (heap_alloc_new w5 _)) (nC_one _) (by omega) (by simp only [maxLen]; omega) (by omega) (by have := K5.out.low.size; have := K5.out.res.lt; simp; omega) (w5.heap.size + 1) (by simp) ?_; intro gg cap w8 hown hgrow hat hlt2; have K8 := Lib.hid (K5.out.app _ hown (head_next HT.out) hgrow); clear hown hgrow hat hlt2))
        go_roundw
        case rel => exact ⟨i + 1, _, by omega, rfl, by congr 1, K8, RT2⟩
        case measure => simp [intOf]; omega
end Go.Proofs.Ytjiooadakklmlaa
