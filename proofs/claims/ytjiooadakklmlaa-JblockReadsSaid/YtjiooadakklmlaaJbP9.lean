import Derived.Test.YtjiooadakklmlaaJbP8
namespace Go.Proofs.Ytjiooadakklmlaa
open Go.RowKit

/-! The landed code: heads and commits written; lists written. -/
set_option maxRecDepth 100000 in
set_option maxHeartbeats 2000000 in
theorem pWriteHead (x : HeadV) (w : World) : Calls Try.prog 11 #[.agg (hcs x)] w fun e w' => e = .returned (.tuple #[.agg (arr (writeJH x).1), .int .i64 (writeJH x).2]) ∧ Below w.heap.size w w' := by
  have hz := fun W => zero_blk W
  have HV := Lib.hid (show HVar ((w.alloc (.cells (hcs x) 24)).alloc (.cells (arr .zero) 28)) w.heap.size x from HVar.below (heap_alloc_new w _) (below_new _ _))
  have R := Lib.hid (show BVar ((w.alloc (.cells (hcs x) 24)).alloc (.cells (arr .zero) 28)) (w.heap.size + 1) .zero from heap_alloc2_new w _ _)
  have B := Lib.hid (show Below w.heap.size w ((w.alloc (.cells (hcs x) 24)).alloc (.cells (arr .zero) 28)) from low_go (below_new w _) (below_new _ _))
  have CS := Lib.hid fun W => pMaySeq x.seq W
  by_cases h1 : MaySeq x.seq
  rotate_left
  · have E := Lib.hid (writeJH_no fun q : MayH x => h1 q.seq)
    rw [decide_eq_false h1] at CS
    clear h1
    go_enter Try.func11, Try.ntmps11
    go_upto_region 1 with fail
    generalize (w.alloc (.cells (hcs x) 24)).alloc (.cells (arr .zero) 28) = w1 at HV R B ⊢
    clear hz
    have cs : w1.cell? ⟨w.heap.size, 0, none⟩ = some (.int .u32 ((x.seq : Nat) : Int)) := HV.out.seq
    have ct : w1.cell? ⟨w.heap.size, 1, none⟩ = some (.int .i64 x.start) := HV.out.start
    go_wp2_with (first
      | (go_at_call 37; with_reducible refine (CS.out _).mono ?_; rintro e w5 ⟨rfl, rfl⟩)
      | (refine build_zeroB rfl rfl ?_)
      | (refine store_row rfl (.tmp 2) (.tmp 18) rfl (w.heap.size + 1) .zero .zero 28 rfl rfl R.out ?_))
    exact bodyPost_ret (res_blk2 Try.results11 _ _ (w.heap.size + 1) .zero (.int .i64 2) _ rfl rfl (row_heap _ _ _ _ R.out)) rfl ⟨by rw [E.out], row_low B.out (by omega) _⟩
  rw [decide_eq_true h1] at CS
  by_cases h2 : 0 ≤ x.start
  rotate_left
  · have E := Lib.hid (writeJH_no fun q : MayH x => h2 q.lo)
    have d2 : decide (x.start < 0) = true := by simp; omega
    have e2 : x.start < 0 := by omega
    clear h1 h2
    go_enter Try.func11, Try.ntmps11
    go_upto_region 1 with fail
    generalize (w.alloc (.cells (hcs x) 24)).alloc (.cells (arr .zero) 28) = w1 at HV R B ⊢
    clear hz
    have cs : w1.cell? ⟨w.heap.size, 0, none⟩ = some (.int .u32 ((x.seq : Nat) : Int)) := HV.out.seq
    have ct : w1.cell? ⟨w.heap.size, 1, none⟩ = some (.int .i64 x.start) := HV.out.start
    go_wp2_with (first
      | (go_at_call 37; with_reducible refine (CS.out _).mono ?_; rintro e w5 ⟨rfl, rfl⟩)
      | (refine build_zeroB rfl rfl ?_)
      | (refine store_row rfl (.tmp 2) (.tmp 18) rfl (w.heap.size + 1) .zero .zero 28 rfl rfl R.out ?_))
    exact bodyPost_ret (res_blk2 Try.results11 _ _ (w.heap.size + 1) .zero (.int .i64 2) _ rfl rfl (row_heap _ _ _ _ R.out)) rfl ⟨by rw [E.out], row_low B.out (by omega) _⟩
  have d2 : decide (x.start < 0) = false := by simp; omega
  have e2 : ¬ x.start < 0 := by omega
  by_cases h3 : x.start ≤ 255
  rotate_left
  · have E := Lib.hid (writeJH_no fun q : MayH x => h3 q.hi)
    have d3 : decide (256 ≤ x.start) = true := by simp; omega
    have e3 : 256 ≤ x.start := by omega
    clear h1 h2 h3
    go_enter Try.func11, Try.ntmps11
    go_upto_region 1 with fail
    generalize (w.alloc (.cells (hcs x) 24)).alloc (.cells (arr .zero) 28) = w1 at HV R B ⊢
    clear hz
    have cs : w1.cell? ⟨w.heap.size, 0, none⟩ = some (.int .u32 ((x.seq : Nat) : Int)) := HV.out.seq
    have ct : w1.cell? ⟨w.heap.size, 1, none⟩ = some (.int .i64 x.start) := HV.out.start
    go_wp2_with (first
      | (go_at_call 37; with_reducible refine (CS.out _).mono ?_; rintro e w5 ⟨rfl, rfl⟩)
      | (refine build_zeroB rfl rfl ?_)
      | (refine store_row rfl (.tmp 2) (.tmp 18) rfl (w.heap.size + 1) .zero .zero 28 rfl rfl R.out ?_))
    exact bodyPost_ret (res_blk2 Try.results11 _ _ (w.heap.size + 1) .zero (.int .i64 2) _ rfl rfl (row_heap _ _ _ _ R.out)) rfl ⟨by rw [E.out], row_low B.out (by omega) _⟩
  have d3 : decide (256 ≤ x.start) = false := by simp; omega
  have e3 : ¬ 256 ≤ x.start := by omega
  have E := Lib.hid (writeJH_yes (show MayH x from ⟨h1, h2, h3⟩))
  have w32 : IntKind.u32.wrap x.start = x.start := by rw [IntKind.wrap_u32]; omega
  have CB : Hid (∀ W, Calls Try.prog 38 #[.int .u8 4, .int .u32 ((x.seq : Nat) : Int), .int .u32 x.start] W fun e w' => e = .returned (.agg (arr (listB (headL x)))) ∧ Below W.heap.size W w') := Lib.hid fun W => by
    have := pBegun 4 x.seq x.start.toNat W (by omega) (by have := h1.le; omega) (by omega)
    rwa [show ((x.start.toNat : Nat) : Int) = x.start by omega] at this
  clear h1 h2 h3
  go_enter Try.func11, Try.ntmps11
  go_upto_region 1 with fail
  generalize (w.alloc (.cells (hcs x) 24)).alloc (.cells (arr .zero) 28) = w1 at HV R B ⊢
  clear hz
  have cs : w1.cell? ⟨w.heap.size, 0, none⟩ = some (.int .u32 ((x.seq : Nat) : Int)) := HV.out.seq
  have ct : w1.cell? ⟨w.heap.size, 1, none⟩ = some (.int .i64 x.start) := HV.out.start
  go_wp2_with (first
    | (go_at_call 37; with_reducible refine (CS.out _).mono ?_; rintro e w5 ⟨rfl, rfl⟩)
    | (go_at_call 38; with_reducible refine (CB.out _).mono ?_; rintro e w6 ⟨rfl, hb⟩; have R6 := Lib.hid (R.out.below hb); have B6 := Lib.hid (low_go B.out hb); clear hb)
    | (refine store_row rfl (.tmp 2) (.tmp 24) rfl (w.heap.size + 1) (listB (headL x)) .zero 28 rfl rfl R6.out ?_))
  exact bodyPost_ret (res_blk2 Try.results11 _ _ (w.heap.size + 1) (listB (headL x)) (.int .i64 0) _ rfl rfl (row_heap _ _ _ _ R6.out)) rfl ⟨by rw [E.out], row_low B6.out (by omega) _⟩
theorem commit_put {s : Nat} {c : Int} {m : Nat} (h : MayC s c) (hm : m < 4294967296) : putB32 (listB (begunL 2 s c.toNat)) 16 m = listB (commitL s c m) := num_ext fun j hj => by
  have := h.seq.le
  have := h.hi
  rw [show (16 : Nat) = 4 * 4 by rfl, num_put (by omega) hm, num_list (begunL_lt (by omega) (by omega) (by omega)) hj, commit_num h hm hj]
  by_cases e : j = 4
  · subst e; rfl
  · rw [if_neg e]
    by_cases q : j < 4
    · rcases (by omega : j = 0 ∨ j = 1 ∨ j = 2 ∨ j = 3) with rfl | rfl | rfl | rfl <;> rfl
    · rw [getD_past (by show 4 ≤ j; omega), getD_past (by show 5 ≤ j; omega)]
set_option maxRecDepth 100000 in
set_option maxHeartbeats 2000000 in
theorem pWriteCommit (s : Nat) (ct : Int) (sm : Nat) (w : World) (hsm : sm < 4294967296) : Calls Try.prog 17 #[.int .u32 (s : Int), .int .i64 ct, .int .u32 (sm : Int)] w fun e w' => e = .returned (.tuple #[.agg (arr (writeJC s ct sm).1), .int .i64 (writeJC s ct sm).2]) ∧ Below w.heap.size w w' := by
  have hz := fun W => zero_blk W
  have R := Lib.hid (show BVar (w.alloc (.cells (arr .zero) 28)) w.heap.size .zero from heap_alloc_new w _)
  have B := Lib.hid (below_new w (.cells (arr .zero) 28))
  have CS := Lib.hid fun W => pMaySeq s W
  by_cases h1 : MaySeq s
  rotate_left
  · have E := Lib.hid (writeJC_no (m := sm) fun q : MayC s ct => h1 q.seq)
    rw [decide_eq_false h1] at CS
    clear h1
    go_enter Try.func17, Try.ntmps17
    go_upto_region 1 with fail
    generalize w.alloc (.cells (arr .zero) 28) = w1 at R B ⊢
    go_wp2_with (first
      | (go_at_call 37; with_reducible refine (CS.out _).mono ?_; rintro e w5 ⟨rfl, rfl⟩)
      | (refine build_zeroB rfl rfl ?_)
      | (refine store_row rfl (.tmp 6) (.tmp 20) rfl w.heap.size .zero .zero 28 rfl rfl R.out ?_))
    exact bodyPost_ret (res_blk2 Try.results17 _ _ w.heap.size .zero (.int .i64 2) _ rfl rfl (row_heap _ _ _ _ R.out)) rfl ⟨by rw [E.out], row_low B.out (by omega) _⟩
  rw [decide_eq_true h1] at CS
  by_cases h2 : 1 ≤ ct
  rotate_left
  · have E := Lib.hid (writeJC_no (m := sm) fun q : MayC s ct => h2 q.lo)
    have d2 : decide (ct < 1) = true := by simp; omega
    have e2 : ct < 1 := by omega
    clear h1 h2
    go_enter Try.func17, Try.ntmps17
    go_upto_region 1 with fail
    generalize w.alloc (.cells (arr .zero) 28) = w1 at R B ⊢
    go_wp2_with (first
      | (go_at_call 37; with_reducible refine (CS.out _).mono ?_; rintro e w5 ⟨rfl, rfl⟩)
      | (refine build_zeroB rfl rfl ?_)
      | (refine store_row rfl (.tmp 6) (.tmp 20) rfl w.heap.size .zero .zero 28 rfl rfl R.out ?_))
    exact bodyPost_ret (res_blk2 Try.results17 _ _ w.heap.size .zero (.int .i64 2) _ rfl rfl (row_heap _ _ _ _ R.out)) rfl ⟨by rw [E.out], row_low B.out (by omega) _⟩
  have d2 : decide (ct < 1) = false := by simp; omega
  have e2 : ¬ ct < 1 := by omega
  by_cases h3 : ct ≤ 256
  rotate_left
  · have E := Lib.hid (writeJC_no (m := sm) fun q : MayC s ct => h3 q.hi)
    have d3 : decide (256 < ct) = true := by simp; omega
    have e3 : 256 < ct := by omega
    clear h1 h2 h3
    go_enter Try.func17, Try.ntmps17
    go_upto_region 1 with fail
    generalize w.alloc (.cells (arr .zero) 28) = w1 at R B ⊢
    go_wp2_with (first
      | (go_at_call 37; with_reducible refine (CS.out _).mono ?_; rintro e w5 ⟨rfl, rfl⟩)
      | (refine build_zeroB rfl rfl ?_)
      | (refine store_row rfl (.tmp 6) (.tmp 20) rfl w.heap.size .zero .zero 28 rfl rfl R.out ?_))
    exact bodyPost_ret (res_blk2 Try.results17 _ _ w.heap.size .zero (.int .i64 2) _ rfl rfl (row_heap _ _ _ _ R.out)) rfl ⟨by rw [E.out], row_low B.out (by omega) _⟩
  have d3 : decide (256 < ct) = false := by simp; omega
  have e3 : ¬ 256 < ct := by omega
  have MC : MayC s ct := ⟨h1, h2, h3⟩
  have E := Lib.hid (writeJC_yes (m := sm) MC)
  have w32 : IntKind.u32.wrap ct = ct := by rw [IntKind.wrap_u32]; omega
  have CB : Hid (∀ W, Calls Try.prog 38 #[.int .u8 2, .int .u32 (s : Int), .int .u32 ct] W fun e w' => e = .returned (.agg (arr (listB (begunL 2 s ct.toNat)))) ∧ Below W.heap.size W w') := Lib.hid fun W => by
    have := pBegun 2 s ct.toNat W (by omega) (by have := h1.le; omega) (by omega)
    rwa [show ((ct.toNat : Nat) : Int) = ct by omega] at this
  have CP : Hid (∀ W b, BVar W b (listB (begunL 2 s ct.toNat)) → Calls Try.prog 45 #[.pointer (some ⟨b, 0, none⟩), .int .i64 16, .int .u32 (sm : Int)] W fun e w' => e = .returned (.tuple #[]) ∧ BVar w' b (listB (commitL s ct sm)) ∧ Only b W w') := Lib.hid fun W b h => by
    have := pPut b 16 sm _ W h (by omega) hsm
    rwa [commit_put MC hsm] at this
  generalize listB (begunL 2 s ct.toNat) = G at CB CP
  clear MC h1 h2 h3
  go_enter Try.func17, Try.ntmps17
  go_upto_region 1 with fail
  generalize w.alloc (.cells (arr .zero) 28) = w1 at R B ⊢
  go_upto_region 4 with (first
    | (go_at_call 37; with_reducible refine (CS.out _).mono ?_; rintro e w5 ⟨rfl, rfl⟩)
    | (go_at_call 38; with_reducible refine (CB.out _).mono ?_; rintro e w6 ⟨rfl, hb⟩)
    | (refine store_newJ rfl (.tmp 8) (.tmp 24) rfl G rfl rfl ?_))
  have R6 := Lib.hid ((R.out.below hb).below (newB_low w6 G))
  have B6 := Lib.hid (newB_go (low_go B.out hb) G)
  have V6 := Lib.hid (newB_var w6 G)
  have NE := Lib.hid (show w.heap.size ≠ w6.heap.size from fun e => by have := (R.out.below hb).lt; omega)
  have LE := Lib.hid (show w.heap.size ≤ w6.heap.size by have := (R.out.below hb).lt; omega)
  clear hb R B CS CB d2 e2 d3 e3
  generalize newB w6 G = w7 at R6 B6 V6 ⊢
  generalize w6.heap.size = g at V6 NE LE ⊢
  go_upto_region 5 with (go_at_call 45; with_reducible refine (CP.out _ _ V6.out).mono ?_; rintro e w8 ⟨rfl, hv, ho⟩)
  have V8 := Lib.hid hv
  have R8 := Lib.hid (ho.blk NE.out R6.out)
  have B8 := Lib.hid (low_only B6.out ho LE.out)
  clear hv ho CP V6 R6 B6
  go_wp2_with (first
    | (refine load_blk rfl (.tmp 8) rfl g 0 rfl _ V8.out.at ?_)
    | (refine store_row rfl (.tmp 6) (.tmp 27) rfl w.heap.size (listB (commitL s ct sm)) .zero 28 rfl rfl R8.out ?_))
  exact bodyPost_ret (res_blk2 Try.results17 _ _ w.heap.size (listB (commitL s ct sm)) (.int .i64 0) _ rfl rfl (row_heap _ _ _ _ R8.out)) rfl ⟨by rw [E.out], row_low B8.out (by omega) _⟩
set_option maxRecDepth 100000 in
set_option maxHeartbeats 2000000 in
theorem pWriteRevoke (s : Nat) (A : Option Addr) (c : Nat) (l : List Nat) (w : World) (hl : l.length ≤ 1000) (hs : Small32 l) (hN : NumsAt w A l) : Calls Try.prog 15 #[.int .u32 (s : Int), .slice A l.length c] w fun e w' => e = .returned (.tuple #[.agg (arr (writeJR s l).1), .int .i64 (writeJR s l).2]) ∧ Below w.heap.size w w' := by
  have hz := fun W => zero_blk W
  have R := Lib.hid (show BVar (w.alloc (.cells (arr .zero) 28)) w.heap.size .zero from heap_alloc_new w _)
  have B := Lib.hid (below_new w (.cells (arr .zero) 28))
  have CW := Lib.hid fun W (h : NumsAt W A l) => pWriteListN s A c l W hl hs h
  have H := Lib.hid hN
  obtain ⟨Y, hY⟩ : ∃ Y, (writeJR s l).1 = Y := ⟨_, rfl⟩
  obtain ⟨y, hy⟩ : ∃ y, (writeJR s l).2 = y := ⟨_, rfl⟩
  rw [hY, hy] at CW ⊢
  clear hN hs hY hy
  go_enter Try.func15, Try.ntmps15
  go_upto_region 1 with fail
  generalize w.alloc (.cells (arr .zero) 28) = w1 at R B ⊢
  go_wp2_with (first
    | (go_at_call 43; with_reducible refine (CW.out _ (H.out.below B.out)).mono ?_; rintro e w2 ⟨rfl, hb⟩; have R2 := Lib.hid (R.out.below hb); have B2 := Lib.hid (low_go B.out hb); clear hb)
    | (refine store_row rfl (.tmp 4) (.tmp 9) rfl w.heap.size Y .zero 28 rfl rfl R2.out ?_))
  exact bodyPost_ret (res_blk2 Try.results15 _ _ w.heap.size Y (.int .i64 y) _ rfl rfl (row_heap _ _ _ _ R2.out)) rfl ⟨rfl, row_low B2.out (Nat.le_refl _) _⟩
set_option maxRecDepth 100000 in
set_option maxHeartbeats 2000000 in
theorem pWriteDesc (s : Nat) (A : Option Addr) (c : Nat) (l : List TagV) (w : World) (hl : l.length ≤ 1000) (hs : SmallT l) (hN : TagsAt w A l) : Calls Try.prog 13 #[.int .u32 (s : Int), .slice A l.length c] w fun e w' => e = .returned (.tuple #[.agg (arr (writeJT s l).1), .int .i64 (writeJT s l).2]) ∧ Below w.heap.size w w' := by
  have hz := fun W => zero_blk W
  have R := Lib.hid (show BVar (w.alloc (.cells (arr .zero) 28)) w.heap.size .zero from heap_alloc_new w _)
  have B := Lib.hid (below_new w (.cells (arr .zero) 28))
  have CW := Lib.hid fun W (h : TagsAt W A l) => pWriteListT s A c l W hl hs h
  have H := Lib.hid hN
  obtain ⟨Y, hY⟩ : ∃ Y, (writeJT s l).1 = Y := ⟨_, rfl⟩
  obtain ⟨y, hy⟩ : ∃ y, (writeJT s l).2 = y := ⟨_, rfl⟩
  rw [hY, hy] at CW ⊢
  clear hN hs hY hy
  go_enter Try.func13, Try.ntmps13
  go_upto_region 1 with fail
  generalize w.alloc (.cells (arr .zero) 28) = w1 at R B ⊢
  go_wp2_with (first
    | (go_at_call 41; with_reducible refine (CW.out _ (H.out.below B.out)).mono ?_; rintro e w2 ⟨rfl, hb⟩; have R2 := Lib.hid (R.out.below hb); have B2 := Lib.hid (low_go B.out hb); clear hb)
    | (refine store_row rfl (.tmp 4) (.tmp 9) rfl w.heap.size Y .zero 28 rfl rfl R2.out ?_))
  exact bodyPost_ret (res_blk2 Try.results13 _ _ w.heap.size Y (.int .i64 y) _ rfl rfl (row_heap _ _ _ _ R2.out)) rfl ⟨rfl, row_low B2.out (Nat.le_refl _) _⟩
theorem ReadR.mono {X : Blk} {b b' : Nat} {e : Ending} {w : World} (h : ReadR X b e w) (hb : b' ≤ b) : ReadR X b' e w := by
  rcases h with ⟨h1, v, h2, h3⟩ | h
  · exact .inl ⟨h1, v, h2, own_monoJ h3 hb⟩
  · exact .inr h
set_option maxRecDepth 100000 in
set_option maxHeartbeats 2000000 in
theorem pReadRevoke (X : Blk) (w : World) : Calls Try.prog 30 #[.agg (arr X)] w fun e w' => ReadR X w.heap.size e w' ∧ Below w.heap.size w w' := by
  have V := Lib.hid (show BVar (w.alloc (.cells (arr X) 28)) w.heap.size X from heap_alloc_new w _)
  have B := Lib.hid (below_new w (.cells (arr X) 28))
  have CW := Lib.hid fun W => pReadListN X W
  go_enter Try.func30, Try.ntmps30
  go_upto_region 1 with fail
  generalize w.alloc (.cells (arr X) 28) = w1 at V B ⊢
  go_wp2_with (first
    | (refine load_blk rfl (.tmp 1) rfl w.heap.size 0 rfl X V.out.at ?_)
    | (go_at_call 52; (with_reducible refine (CW.out _).mono ?_); rintro e w2 ⟨hr, hb⟩; have HR := Lib.hid (hr.mono (show w.heap.size ≤ w1.heap.size from B.out.size)); have B2 := Lib.hid (low_go B.out hb); clear hr hb; rcases HR.out with ⟨hi, v, rfl, ho⟩ | ⟨hi, rfl⟩))
  all_goals go_ret3
  · exact ⟨.inl ⟨hi, v, rfl, ho⟩, B2.out⟩
  · exact ⟨.inr ⟨hi, rfl⟩, B2.out⟩
theorem ReadT.mono {X : Blk} {b b' : Nat} {e : Ending} {w : World} (h : ReadT X b e w) (hb : b' ≤ b) : ReadT X b' e w := by
  rcases h with ⟨h1, v, h2, h3⟩ | h
  · exact .inl ⟨h1, v, h2, own_monoJ h3 hb⟩
  · exact .inr h
set_option maxRecDepth 100000 in
set_option maxHeartbeats 2000000 in
theorem pReadDesc (X : Blk) (w : World) : Calls Try.prog 29 #[.agg (arr X)] w fun e w' => ReadT X w.heap.size e w' ∧ Below w.heap.size w w' := by
  have V := Lib.hid (show BVar (w.alloc (.cells (arr X) 28)) w.heap.size X from heap_alloc_new w _)
  have B := Lib.hid (below_new w (.cells (arr X) 28))
  have CW := Lib.hid fun W => pReadListT X W
  go_enter Try.func29, Try.ntmps29
  go_upto_region 1 with fail
  generalize w.alloc (.cells (arr X) 28) = w1 at V B ⊢
  go_wp2_with (first
    | (refine load_blk rfl (.tmp 1) rfl w.heap.size 0 rfl X V.out.at ?_)
    | (go_at_call 51; (with_reducible refine (CW.out _).mono ?_); rintro e w2 ⟨hr, hb⟩; have HR := Lib.hid (hr.mono (show w.heap.size ≤ w1.heap.size from B.out.size)); have B2 := Lib.hid (low_go B.out hb); clear hr hb; rcases HR.out with ⟨hi, v, rfl, ho⟩ | ⟨hi, rfl⟩))
  all_goals go_ret3
  · exact ⟨.inl ⟨hi, v, rfl, ho⟩, B2.out⟩
  · exact ⟨.inr ⟨hi, rfl⟩, B2.out⟩
end Go.Proofs.Ytjiooadakklmlaa
