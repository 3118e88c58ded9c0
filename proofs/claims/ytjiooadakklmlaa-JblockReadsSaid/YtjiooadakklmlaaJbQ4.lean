import Derived.Test.YtjiooadakklmlaaJbQ3
namespace Go.Proofs.Ytjiooadakklmlaa
open Go.RowKit

/-! The document's own WriteCommit. -/
set_option maxRecDepth 100000 in
set_option maxHeartbeats 4000000 in
theorem rWriteCommit (s : Nat) (ct : Int) (sm : Nat) (w : World) (hsm : sm < 4294967296) : Calls Try.prog 18 #[.int .u32 (s : Int), .int .i64 ct, .int .u32 (sm : Int)] w fun e w' => e = .returned (.tuple #[.agg (arr (writeJC s ct sm).1), .int .i64 (writeJC s ct sm).2]) ∧ Below w.heap.size w w' := by
  have hz := fun W => zero_blk W
  have R := Lib.hid (show BVar (w.alloc (.cells (arr .zero) 28)) w.heap.size .zero from heap_alloc_new w _)
  have B := Lib.hid (below_new w (.cells (arr .zero) 28))
  have CS := Lib.hid fun W => rSeq s W
  by_cases h1 : MaySeq s
  rotate_left
  · have E := Lib.hid (writeJC_no (m := sm) fun q : MayC s ct => h1 q.seq)
    rw [decide_eq_false h1] at CS
    clear h1
    go_enter Try.func18, Try.ntmps18
    go_upto_region 1 with fail
    generalize w.alloc (.cells (arr .zero) 28) = w1 at R B ⊢
    clear hz
    go_wp2_with (first
      | (go_at_call 39; with_reducible refine (CS.out _).mono ?_; rintro e w2 ⟨rfl, rfl⟩)
      | (refine build_zeroB rfl rfl ?_)
      | (refine store_row rfl (.tmp 6) (.tmp 19) rfl w.heap.size .zero .zero 28 rfl rfl R.out ?_))
    exact bodyPost_ret (res_blk2 Try.results18 _ _ w.heap.size .zero (.int .i64 2) _ rfl rfl (row_heap _ _ _ _ R.out)) rfl ⟨by rw [E.out], row_low B.out (Nat.le_refl _) _⟩
  rw [decide_eq_true h1] at CS
  by_cases h2 : 1 ≤ ct
  rotate_left
  · have E := Lib.hid (writeJC_no (m := sm) fun q : MayC s ct => h2 q.lo)
    have d2 : decide (ct < 1) = true := by simp; omega
    have e2 : ct < 1 := by omega
    clear h1 h2
    go_enter Try.func18, Try.ntmps18
    go_upto_region 1 with fail
    generalize w.alloc (.cells (arr .zero) 28) = w1 at R B ⊢
    clear hz
    go_wp2_with (first
      | (go_at_call 39; with_reducible refine (CS.out _).mono ?_; rintro e w2 ⟨rfl, rfl⟩)
      | (refine build_zeroB rfl rfl ?_)
      | (refine store_row rfl (.tmp 6) (.tmp 19) rfl w.heap.size .zero .zero 28 rfl rfl R.out ?_))
    exact bodyPost_ret (res_blk2 Try.results18 _ _ w.heap.size .zero (.int .i64 2) _ rfl rfl (row_heap _ _ _ _ R.out)) rfl ⟨by rw [E.out], row_low B.out (Nat.le_refl _) _⟩
  have d2 : decide (ct < 1) = false := by simp; omega
  have e2 : ¬ ct < 1 := by omega
  by_cases h3 : ct ≤ 256
  rotate_left
  · have E := Lib.hid (writeJC_no (m := sm) fun q : MayC s ct => h3 q.hi)
    have d3 : decide (256 < ct) = true := by simp; omega
    have e3 : 256 < ct := by omega
    clear h1 h2 h3
    go_enter Try.func18, Try.ntmps18
    go_upto_region 1 with fail
    generalize w.alloc (.cells (arr .zero) 28) = w1 at R B ⊢
    clear hz
    go_wp2_with (first
      | (go_at_call 39; with_reducible refine (CS.out _).mono ?_; rintro e w2 ⟨rfl, rfl⟩)
      | (refine build_zeroB rfl rfl ?_)
      | (refine store_row rfl (.tmp 6) (.tmp 19) rfl w.heap.size .zero .zero 28 rfl rfl R.out ?_))
    exact bodyPost_ret (res_blk2 Try.results18 _ _ w.heap.size .zero (.int .i64 2) _ rfl rfl (row_heap _ _ _ _ R.out)) rfl ⟨by rw [E.out], row_low B.out (Nat.le_refl _) _⟩
  have d3 : decide (256 < ct) = false := by simp; omega
  have e3 : ¬ 256 < ct := by omega
  have hm : MayC s ct := ⟨h1, h2, h3⟩
  have E := Lib.hid (writeJC_yes (m := sm) hm)
  have LT := Lib.hid (commitL_lt hm hsm)
  obtain ⟨st, rfl⟩ : ∃ st : Nat, ct = (st : Int) := ⟨ct.toNat, by omega⟩
  have w32 : IntKind.u32.wrap (st : Int) = (st : Int) := by rw [IntKind.wrap_u32]; omega
  have HLst : Hid (commitL s (st : Int) sm = [magic, 2, s, st, sm]) := Lib.hid rfl
  obtain ⟨CL, hCL⟩ : ∃ CL, commitL s (st : Int) sm = CL := ⟨_, rfl⟩
  rw [hCL] at E LT HLst
  have CB : Hid (∀ W, Calls Try.prog 40 #[.slice (some ⟨W.heap.size, 0, none⟩) 5 5] (W.alloc (.cells #[.int .u32 1280199249, .int .u32 2, .int .u32 ((s : Nat) : Int), .int .u32 ((st : Nat) : Int), .int .u32 ((sm : Nat) : Int)] 22)) fun e w' => e = .returned (.agg (arr (listB CL))) ∧ Below W.heap.size W w') := Lib.hid fun W => by
    have h := rBlock (some ⟨W.heap.size, 0, none⟩) 5 CL (W.alloc (.cells #[.int .u32 1280199249, .int .u32 2, .int .u32 ((s : Nat) : Int), .int .u32 ((st : Nat) : Int), .int .u32 ((sm : Nat) : Int)] 22)) (by rw [HLst.out]; show 5 ≤ 64; omega) LT.out (nums_new _ _ (by rw [HLst.out]; rfl))
    rw [show CL.length = 5 by rw [HLst.out]; rfl] at h
    exact h.mono fun e w' q => ⟨q.1, low_go (below_new W _) q.2⟩
  clear h1 h2 h3 hm LT hCL
  go_enter Try.func18, Try.ntmps18
  go_upto_region 1 with fail
  generalize w.alloc (.cells (arr .zero) 28) = w1 at R B ⊢
  clear hz
  go_wp2_with (first
    | (go_at_call 39; with_reducible refine (CS.out _).mono ?_; rintro e w2 ⟨rfl, rfl⟩)
    | (refine build_nums5 rfl (.const (.int .u32 1280199249)) (.const (.int .u32 2)) (.tmp 20) (.tmp 22) (.tmp 23) rfl 1280199249 2 s st sm rfl rfl rfl rfl rfl ?_)
    | (go_at_call 40; with_reducible refine (CB.out _).mono ?_; rintro e w3 ⟨rfl, hb⟩; have R3 := Lib.hid (R.out.below hb))
    | (refine store_row rfl (.tmp 6) (.tmp 25) rfl w.heap.size (listB CL) .zero 28 rfl rfl R3.out ?_))
  exact bodyPost_ret (res_blk2 Try.results18 _ _ w.heap.size (listB CL) (.int .i64 0) _ rfl rfl (row_heap _ _ _ _ R3.out)) rfl ⟨by rw [E.out], row_low (low_go B.out hb) (Nat.le_refl _) _⟩
end Go.Proofs.Ytjiooadakklmlaa
