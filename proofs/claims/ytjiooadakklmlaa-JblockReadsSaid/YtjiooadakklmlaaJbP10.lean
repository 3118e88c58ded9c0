import Derived.Test.YtjiooadakklmlaaJbP9
namespace Go.Proofs.Ytjiooadakklmlaa
open Go.RowKit

/-! The landed code: heads and commits read; kinds; copies; all of it. -/
theorem build_head0 {ops : Array Oper} {rest : List Oper} {op : Oper} {a : Act} {w : World} {Q : Exit → Act → World → Prop} (hgd : op.guard = none) (ho : op.op = .build 24 #[])
    (h : wpList Try.prog ops Q rest (a.put op.dst (.agg (hcs .zero))) w) : wpList Try.prog ops Q (op :: rest) a w :=
  wpList_plain hgd fun _ hK => wp_build 24 #[] ho (by simp [head_built0]) (hK _ _ (by simpa [head_built0] using h))
def newHp (w : World) (x : HeadV) : World := (w.alloc (.cells (hcs .zero) 24)).setRow w.heap.size (hcs x)
theorem newHp_var (w : World) (x : HeadV) : HVar (newHp w x) w.heap.size x := HVar.setRow (show HVar (w.alloc (.cells (hcs .zero) 24)) w.heap.size .zero from heap_alloc_new w _) x
theorem newHp_low (w : World) (x : HeadV) : Below w.heap.size w (newHp w x) := row_low (below_new w _) (Nat.le_refl _) _
theorem store_newHp {ops : Array Oper} {rest : List Oper} {op : Oper} {a : Act} {w : World} {Q : Exit → Act → World → Prop} (hgd : op.guard = none) (x y : Operand) (ho : op.op = .store 24 x y) (s : HeadV) (hx : a.eval x = .pointer (some ⟨w.heap.size, 0, none⟩)) (hy : a.eval y = .agg (hcs s))
    (h : wpList Try.prog ops Q rest (a.put op.dst undef) (newHp w s)) : wpList Try.prog ops Q (op :: rest) a (w.alloc (.cells (hcs .zero) 24)) :=
  store_headv hgd x y ho w.heap.size s .zero hx hy (heap_alloc_new w _) h
set_option maxRecDepth 100000 in
set_option maxHeartbeats 2000000 in
theorem pReadHead (X : Blk) (w : World) : Calls Try.prog 21 #[.agg (arr X)] w fun e w' => e = .returned (.tuple #[.agg (hcs (readJH X).1), .int .i64 (readJH X).2]) ∧ Below w.heap.size w w' := by
  have hz := fun W => zero_head W
  have hz2 := fun W => zero_blk W
  have V := Lib.hid (show BVar ((w.alloc (.cells (arr X) 28)).alloc (.cells (hcs .zero) 24)) w.heap.size X from BVar.below (heap_alloc_new w _) (below_new _ _))
  have R := Lib.hid (show HVar ((w.alloc (.cells (arr X) 28)).alloc (.cells (hcs .zero) 24)) (w.heap.size + 1) .zero from heap_alloc2_new w _ _)
  have B := Lib.hid (show Below w.heap.size w ((w.alloc (.cells (arr X) 28)).alloc (.cells (hcs .zero) 24)) from low_go (below_new w _) (below_new _ _))
  have C2 : Hid (∀ W, BVar W w.heap.size X → Calls Try.prog 46 #[.pointer (some ⟨w.heap.size, 0, none⟩), .int .i64 8] W fun e w' => e = .returned (.int .u32 ((num X 2 : Nat) : Int)) ∧ w' = W) := Lib.hid fun W h => pNum _ 2 X W h (by omega)
  have C3 : Hid (∀ W, BVar W w.heap.size X → Calls Try.prog 46 #[.pointer (some ⟨w.heap.size, 0, none⟩), .int .i64 12] W fun e w' => e = .returned (.int .u32 ((num X 3 : Nat) : Int)) ∧ w' = W) := Lib.hid fun W h => pNum _ 3 X W h (by omega)
  have CW := Lib.hid fun W => pWriteHead (headOf X) W
  have IH : Hid (IsJH X → MayH (headOf X) ∧ listB (headL (headOf X)) = X) := Lib.hid is_head
  have HI : Hid (MayH (headOf X) → listB (headL (headOf X)) = X → IsJH X) := Lib.hid fun q e => by have := head_is q; rwa [e] at this
  have HO : Hid (headOf X = ⟨num X 2, ((num X 3 : Nat) : Int)⟩) := Lib.hid rfl
  have n3lt := num_lt X 3
  obtain ⟨n2, hn2⟩ : ∃ n2, num X 2 = n2 := ⟨_, rfl⟩
  obtain ⟨n3, hn3⟩ : ∃ n3, num X 3 = n3 := ⟨_, rfl⟩
  rw [hn2] at C2 HO
  rw [hn3] at C3 HO n3lt
  have w64 : IntKind.i64.wrap (n3 : Int) = (n3 : Int) := by rw [IntKind.wrap_i64]; omega
  have HX := Lib.hid HO.out
  rw [HO.out] at CW IH HI
  clear HO hn2 hn3 n3lt
  by_cases hm : MayH ⟨n2, (n3 : Int)⟩
  rotate_left
  · have E := Lib.hid (readJH_no fun q : IsJH X => hm (IH.out q).1)
    rw [writeJH_no hm] at CW
    clear IH HI hm HX
    go_enter Try.func21, Try.ntmps21
    go_upto_region 1 with fail
    generalize (w.alloc (.cells (arr X) 28)).alloc (.cells (hcs .zero) 24) = w1 at V R B ⊢
    go_upto_region 2 with (first
      | (go_at_call 46; with_reducible refine (C2.out _ V.out).mono ?_; rintro e w2 ⟨rfl, rfl⟩)
      | (go_at_call 46; with_reducible refine (C3.out _ V.out).mono ?_; rintro e w3 ⟨rfl, rfl⟩)
      | (refine build_headJ rfl (.tmp 7) (.tmp 9) rfl ⟨n2, (n3 : Int)⟩ rfl rfl ?_)
      | (refine store_newHp rfl (.tmp 4) (.tmp 10) rfl ⟨n2, (n3 : Int)⟩ rfl rfl ?_))
    have V3 := Lib.hid (V.out.below (newHp_low w3 ⟨n2, (n3 : Int)⟩))
    have R3 := Lib.hid (R.out.below (newHp_low w3 ⟨n2, (n3 : Int)⟩))
    have B3 := Lib.hid (low_go B.out (newHp_low w3 ⟨n2, (n3 : Int)⟩))
    have H3 := Lib.hid (newHp_var w3 ⟨n2, (n3 : Int)⟩)
    clear V R B C2 C3 hz w64
    generalize newHp w3 ⟨n2, (n3 : Int)⟩ = w4 at V3 R3 B3 H3 ⊢
    generalize w3.heap.size = bh at H3 ⊢
    go_upto_region 3 with (first
      | (refine load_head rfl (.tmp 4) rfl bh 0 rfl ⟨n2, (n3 : Int)⟩ H3.out.at ?_)
      | (go_at_call 11; with_reducible refine (CW.out _).mono ?_; rintro e w5 ⟨rfl, hb⟩)
      | (refine store_newJ rfl (.tmp 5) (.tmp 14) rfl .zero rfl rfl ?_))
    have V5 := Lib.hid ((V3.out.below hb).below (newB_low w5 .zero))
    have R5 := Lib.hid ((R3.out.below hb).below (newB_low w5 .zero))
    have H5 := Lib.hid ((H3.out.below hb).below (newB_low w5 .zero))
    have B5 := Lib.hid (newB_go (low_go B3.out hb) .zero)
    have Y5 := Lib.hid (newB_var w5 .zero)
    clear hb V3 R3 B3 H3 CW hz2
    generalize newB w5 .zero = w6 at V5 R5 H5 B5 Y5 ⊢
    generalize w5.heap.size = yb at Y5 ⊢
    go_wp2_with (first
      | (refine load_blk_w (by with_unfolding_all rfl) (.tmp 5) rfl yb 0 rfl .zero Y5.out.at ?_)
      | (refine load_blk_w (by with_unfolding_all rfl) (.tmp 1) rfl w.heap.size 0 rfl X V5.out.at ?_)
      | (refine build_head0 rfl rfl ?_)
      | (refine store_headv rfl (.tmp 2) (.tmp 23) rfl (w.heap.size + 1) .zero .zero rfl rfl R5.out ?_))
    exact bodyPost_ret (res_head Try.results21 _ _ (w.heap.size + 1) .zero (.int .i64 90) rfl rfl (R5.out.setRow .zero)) rfl ⟨by rw [E.out], row_low B5.out (by omega) _⟩
  obtain ⟨Y, hY⟩ : ∃ Y, listB (headL ⟨n2, (n3 : Int)⟩) = Y := ⟨_, rfl⟩
  rw [writeJH_yes hm, hY] at CW
  rw [hY] at IH HI
  have hg := blk_guard
  have he := fun W => equalIn_blk Y X W
  by_cases e : Y = X
  rotate_left
  · have E := Lib.hid (readJH_no fun q : IsJH X => e (IH.out q).2)
    rw [decide_eq_false e] at he
    clear IH HI hm HX e hY
    go_enter Try.func21, Try.ntmps21
    go_upto_region 1 with fail
    generalize (w.alloc (.cells (arr X) 28)).alloc (.cells (hcs .zero) 24) = w1 at V R B ⊢
    go_upto_region 2 with (first
      | (go_at_call 46; with_reducible refine (C2.out _ V.out).mono ?_; rintro e w2 ⟨rfl, rfl⟩)
      | (go_at_call 46; with_reducible refine (C3.out _ V.out).mono ?_; rintro e w3 ⟨rfl, rfl⟩)
      | (refine build_headJ rfl (.tmp 7) (.tmp 9) rfl ⟨n2, (n3 : Int)⟩ rfl rfl ?_)
      | (refine store_newHp rfl (.tmp 4) (.tmp 10) rfl ⟨n2, (n3 : Int)⟩ rfl rfl ?_))
    have V3 := Lib.hid (V.out.below (newHp_low w3 ⟨n2, (n3 : Int)⟩))
    have R3 := Lib.hid (R.out.below (newHp_low w3 ⟨n2, (n3 : Int)⟩))
    have B3 := Lib.hid (low_go B.out (newHp_low w3 ⟨n2, (n3 : Int)⟩))
    have H3 := Lib.hid (newHp_var w3 ⟨n2, (n3 : Int)⟩)
    clear V R B C2 C3 hz w64
    generalize newHp w3 ⟨n2, (n3 : Int)⟩ = w4 at V3 R3 B3 H3 ⊢
    generalize w3.heap.size = bh at H3 ⊢
    go_upto_region 3 with (first
      | (refine load_head rfl (.tmp 4) rfl bh 0 rfl ⟨n2, (n3 : Int)⟩ H3.out.at ?_)
      | (go_at_call 11; with_reducible refine (CW.out _).mono ?_; rintro e w5 ⟨rfl, hb⟩)
      | (refine store_newJ rfl (.tmp 5) (.tmp 14) rfl Y rfl rfl ?_))
    have V5 := Lib.hid ((V3.out.below hb).below (newB_low w5 Y))
    have R5 := Lib.hid ((R3.out.below hb).below (newB_low w5 Y))
    have H5 := Lib.hid ((H3.out.below hb).below (newB_low w5 Y))
    have B5 := Lib.hid (newB_go (low_go B3.out hb) Y)
    have Y5 := Lib.hid (newB_var w5 Y)
    clear hb V3 R3 B3 H3 CW hz2
    generalize newB w5 Y = w6 at V5 R5 H5 B5 Y5 ⊢
    generalize w5.heap.size = yb at Y5 ⊢
    go_wp2_with (first
      | (refine load_blk_w (by with_unfolding_all rfl) (.tmp 5) rfl yb 0 rfl Y Y5.out.at ?_)
      | (refine load_blk_w (by with_unfolding_all rfl) (.tmp 1) rfl w.heap.size 0 rfl X V5.out.at ?_)
      | (refine build_head0 rfl rfl ?_)
      | (refine store_headv rfl (.tmp 2) (.tmp 23) rfl (w.heap.size + 1) .zero .zero rfl rfl R5.out ?_))
    exact bodyPost_ret (res_head Try.results21 _ _ (w.heap.size + 1) .zero (.int .i64 90) rfl rfl (R5.out.setRow .zero)) rfl ⟨by rw [E.out], row_low B5.out (by omega) _⟩
  · have E := Lib.hid (readJH_yes (HI.out hm e))
    rw [HX.out] at E
    rw [decide_eq_true e] at he
    clear IH HI hm HX e hY
    go_enter Try.func21, Try.ntmps21
    go_upto_region 1 with fail
    generalize (w.alloc (.cells (arr X) 28)).alloc (.cells (hcs .zero) 24) = w1 at V R B ⊢
    go_upto_region 2 with (first
      | (go_at_call 46; with_reducible refine (C2.out _ V.out).mono ?_; rintro e w2 ⟨rfl, rfl⟩)
      | (go_at_call 46; with_reducible refine (C3.out _ V.out).mono ?_; rintro e w3 ⟨rfl, rfl⟩)
      | (refine build_headJ rfl (.tmp 7) (.tmp 9) rfl ⟨n2, (n3 : Int)⟩ rfl rfl ?_)
      | (refine store_newHp rfl (.tmp 4) (.tmp 10) rfl ⟨n2, (n3 : Int)⟩ rfl rfl ?_))
    have V3 := Lib.hid (V.out.below (newHp_low w3 ⟨n2, (n3 : Int)⟩))
    have R3 := Lib.hid (R.out.below (newHp_low w3 ⟨n2, (n3 : Int)⟩))
    have B3 := Lib.hid (low_go B.out (newHp_low w3 ⟨n2, (n3 : Int)⟩))
    have H3 := Lib.hid (newHp_var w3 ⟨n2, (n3 : Int)⟩)
    clear V R B C2 C3 hz w64
    generalize newHp w3 ⟨n2, (n3 : Int)⟩ = w4 at V3 R3 B3 H3 ⊢
    generalize w3.heap.size = bh at H3 ⊢
    go_upto_region 3 with (first
      | (refine load_head rfl (.tmp 4) rfl bh 0 rfl ⟨n2, (n3 : Int)⟩ H3.out.at ?_)
      | (go_at_call 11; with_reducible refine (CW.out _).mono ?_; rintro e w5 ⟨rfl, hb⟩)
      | (refine store_newJ rfl (.tmp 5) (.tmp 14) rfl Y rfl rfl ?_))
    have V5 := Lib.hid ((V3.out.below hb).below (newB_low w5 Y))
    have R5 := Lib.hid ((R3.out.below hb).below (newB_low w5 Y))
    have H5 := Lib.hid ((H3.out.below hb).below (newB_low w5 Y))
    have B5 := Lib.hid (newB_go (low_go B3.out hb) Y)
    have Y5 := Lib.hid (newB_var w5 Y)
    clear hb V3 R3 B3 H3 CW hz2
    generalize newB w5 Y = w6 at V5 R5 H5 B5 Y5 ⊢
    generalize w5.heap.size = yb at Y5 ⊢
    go_wp2_with (first
      | (refine load_blk_w (by with_unfolding_all rfl) (.tmp 5) rfl yb 0 rfl Y Y5.out.at ?_)
      | (refine load_blk_w (by with_unfolding_all rfl) (.tmp 1) rfl w.heap.size 0 rfl X V5.out.at ?_)
      | (refine load_head rfl (.tmp 4) rfl bh 0 rfl ⟨n2, (n3 : Int)⟩ H5.out.at ?_)
      | (refine store_headv rfl (.tmp 2) (.tmp 24) rfl (w.heap.size + 1) ⟨n2, (n3 : Int)⟩ .zero rfl rfl R5.out ?_))
    exact bodyPost_ret (res_head Try.results21 _ _ (w.heap.size + 1) ⟨n2, (n3 : Int)⟩ (.int .i64 0) rfl rfl (R5.out.setRow ⟨n2, (n3 : Int)⟩)) rfl ⟨by rw [E.out], row_low B5.out (by omega) _⟩
set_option maxRecDepth 100000 in
set_option maxHeartbeats 2000000 in
theorem pReadCommit (X : Blk) (w : World) : Calls Try.prog 23 #[.agg (arr X)] w fun e w' => e = .returned (tup4 (readJC X)) ∧ Below w.heap.size w w' := by
  have hz2 := fun W => zero_blk W
  have V := Lib.hid (show BVar (w.alloc (.cells (arr X) 28)) w.heap.size X from heap_alloc_new w _)
  have B := Lib.hid (below_new w (.cells (arr X) 28))
  have C2 : Hid (∀ W, BVar W w.heap.size X → Calls Try.prog 46 #[.pointer (some ⟨w.heap.size, 0, none⟩), .int .i64 8] W fun e w' => e = .returned (.int .u32 ((num X 2 : Nat) : Int)) ∧ w' = W) := Lib.hid fun W h => pNum _ 2 X W h (by omega)
  have C3 : Hid (∀ W, BVar W w.heap.size X → Calls Try.prog 46 #[.pointer (some ⟨w.heap.size, 0, none⟩), .int .i64 12] W fun e w' => e = .returned (.int .u32 ((num X 3 : Nat) : Int)) ∧ w' = W) := Lib.hid fun W h => pNum _ 3 X W h (by omega)
  have C4 : Hid (∀ W, BVar W w.heap.size X → Calls Try.prog 46 #[.pointer (some ⟨w.heap.size, 0, none⟩), .int .i64 16] W fun e w' => e = .returned (.int .u32 ((num X 4 : Nat) : Int)) ∧ w' = W) := Lib.hid fun W h => pNum _ 4 X W h (by omega)
  have CW := Lib.hid fun W => pWriteCommit (num X 2) ((num X 3 : Nat) : Int) (num X 4) W (num_lt _ _)
  have IC : Hid (IsJC X → MayC (num X 2) ((num X 3 : Nat) : Int) ∧ listB (commitL (num X 2) ((num X 3 : Nat) : Int) (num X 4)) = X) := Lib.hid is_commit
  have CI : Hid (MayC (num X 2) ((num X 3 : Nat) : Int) → listB (commitL (num X 2) ((num X 3 : Nat) : Int) (num X 4)) = X → IsJC X) := Lib.hid fun q e => by have := (commit_is q (num_lt X 4)).1; rwa [e] at this
  have RY : Hid (IsJC X → readJC X = (num X 2, num X 3, num X 4, 0)) := Lib.hid readJC_yes
  have n3lt := num_lt X 3
  generalize num X 2 = n2 at *
  generalize num X 3 = n3 at *
  generalize num X 4 = n4 at *
  have w64 : IntKind.i64.wrap (n3 : Int) = (n3 : Int) := by rw [IntKind.wrap_i64]; omega
  clear n3lt
  by_cases hm : MayC n2 (n3 : Int)
  rotate_left
  · have E := Lib.hid (readJC_no fun q : IsJC X => hm (IC.out q).1)
    rw [writeJC_no hm] at CW
    clear IC CI RY hm
    go_enter Try.func23, Try.ntmps23
    go_upto_region 1 with fail
    generalize w.alloc (.cells (arr X) 28) = w1 at V B ⊢
    go_upto_region 2 with (first
      | (go_at_call 46; with_reducible refine (C2.out _ V.out).mono ?_; rintro e w2 ⟨rfl, rfl⟩)
      | (go_at_call 46; with_reducible refine (C3.out _ V.out).mono ?_; rintro e w3 ⟨rfl, rfl⟩)
      | (go_at_call 46; with_reducible refine (C4.out _ V.out).mono ?_; rintro e w4 ⟨rfl, rfl⟩))
    clear C2 C3 C4 w64
    go_upto_region 3 with (first
      | (go_at_call 17; with_reducible refine (CW.out _).mono ?_; rintro e w5 ⟨rfl, hb⟩)
      | (refine store_newJ rfl (.tmp 6) (.tmp 17) rfl .zero rfl rfl ?_))
    have V5 := Lib.hid ((V.out.below hb).below (newB_low w5 .zero))
    have B5 := Lib.hid (newB_go (low_go B.out hb) .zero)
    have Y5 := Lib.hid (newB_var w5 .zero)
    clear hb V B CW hz2
    generalize newB w5 .zero = w6 at V5 B5 Y5 ⊢
    generalize w5.heap.size = yb at Y5 ⊢
    go_wp2_with (first
      | (refine load_blk_w (by with_unfolding_all rfl) (.tmp 6) rfl yb 0 rfl .zero Y5.out.at ?_)
      | (refine load_blk_w (by with_unfolding_all rfl) (.tmp 1) rfl w.heap.size 0 rfl X V5.out.at ?_))
    exact bodyPost_ret (results_t4 Try.results23 _ _) rfl ⟨by rw [E.out]; rfl, B5.out⟩
  obtain ⟨Y, hY⟩ : ∃ Y, listB (commitL n2 (n3 : Int) n4) = Y := ⟨_, rfl⟩
  rw [writeJC_yes hm, hY] at CW
  rw [hY] at IC CI
  have hg := blk_guard
  have he := fun W => equalIn_blk Y X W
  by_cases e : Y = X
  rotate_left
  · have E := Lib.hid (readJC_no fun q : IsJC X => e (IC.out q).2)
    rw [decide_eq_false e] at he
    clear IC CI RY hm e hY
    go_enter Try.func23, Try.ntmps23
    go_upto_region 1 with fail
    generalize w.alloc (.cells (arr X) 28) = w1 at V B ⊢
    go_upto_region 2 with (first
      | (go_at_call 46; with_reducible refine (C2.out _ V.out).mono ?_; rintro e w2 ⟨rfl, rfl⟩)
      | (go_at_call 46; with_reducible refine (C3.out _ V.out).mono ?_; rintro e w3 ⟨rfl, rfl⟩)
      | (go_at_call 46; with_reducible refine (C4.out _ V.out).mono ?_; rintro e w4 ⟨rfl, rfl⟩))
    clear C2 C3 C4 w64
    go_upto_region 3 with (first
      | (go_at_call 17; with_reducible refine (CW.out _).mono ?_; rintro e w5 ⟨rfl, hb⟩)
      | (refine store_newJ rfl (.tmp 6) (.tmp 17) rfl Y rfl rfl ?_))
    have V5 := Lib.hid ((V.out.below hb).below (newB_low w5 Y))
    have B5 := Lib.hid (newB_go (low_go B.out hb) Y)
    have Y5 := Lib.hid (newB_var w5 Y)
    clear hb V B CW hz2
    generalize newB w5 Y = w6 at V5 B5 Y5 ⊢
    generalize w5.heap.size = yb at Y5 ⊢
    go_wp2_with (first
      | (refine load_blk_w (by with_unfolding_all rfl) (.tmp 6) rfl yb 0 rfl Y Y5.out.at ?_)
      | (refine load_blk_w (by with_unfolding_all rfl) (.tmp 1) rfl w.heap.size 0 rfl X V5.out.at ?_))
    exact bodyPost_ret (results_t4 Try.results23 _ _) rfl ⟨by rw [E.out]; rfl, B5.out⟩
  · have E := Lib.hid (RY.out (CI.out hm e))
    rw [decide_eq_true e] at he
    clear IC CI RY hm e hY
    go_enter Try.func23, Try.ntmps23
    go_upto_region 1 with fail
    generalize w.alloc (.cells (arr X) 28) = w1 at V B ⊢
    go_upto_region 2 with (first
      | (go_at_call 46; with_reducible refine (C2.out _ V.out).mono ?_; rintro e w2 ⟨rfl, rfl⟩)
      | (go_at_call 46; with_reducible refine (C3.out _ V.out).mono ?_; rintro e w3 ⟨rfl, rfl⟩)
      | (go_at_call 46; with_reducible refine (C4.out _ V.out).mono ?_; rintro e w4 ⟨rfl, rfl⟩))
    clear C2 C3 C4 w64
    go_upto_region 3 with (first
      | (go_at_call 17; with_reducible refine (CW.out _).mono ?_; rintro e w5 ⟨rfl, hb⟩)
      | (refine store_newJ rfl (.tmp 6) (.tmp 17) rfl Y rfl rfl ?_))
    have V5 := Lib.hid ((V.out.below hb).below (newB_low w5 Y))
    have B5 := Lib.hid (newB_go (low_go B.out hb) Y)
    have Y5 := Lib.hid (newB_var w5 Y)
    clear hb V B CW hz2
    generalize newB w5 Y = w6 at V5 B5 Y5 ⊢
    generalize w5.heap.size = yb at Y5 ⊢
    go_wp2_with (first
      | (refine load_blk_w (by with_unfolding_all rfl) (.tmp 6) rfl yb 0 rfl Y Y5.out.at ?_)
      | (refine load_blk_w (by with_unfolding_all rfl) (.tmp 1) rfl w.heap.size 0 rfl X V5.out.at ?_))
    exact bodyPost_ret (results_t4 Try.results23 _ _) rfl ⟨by rw [E.out]; rfl, B5.out⟩
set_option maxRecDepth 100000 in
set_option maxHeartbeats 2000000 in
theorem pKind (X : Blk) (w : World) : Calls Try.prog 25 #[.agg (arr X)] w fun e w' => e = .returned (.tuple #[.int .u8 (((kindOf X).1 : Nat) : Int), .int .u32 (((kindOf X).2 : Nat) : Int)]) ∧ Below w.heap.size w w' := by
  have V := Lib.hid (show BVar (w.alloc (.cells (arr X) 28)) w.heap.size X from heap_alloc_new w _)
  have B := Lib.hid (below_new w (.cells (arr X) 28))
  have C0 : Hid (∀ W, BVar W w.heap.size X → Calls Try.prog 46 #[.pointer (some ⟨w.heap.size, 0, none⟩), .int .i64 0] W fun e w' => e = .returned (.int .u32 ((num X 0 : Nat) : Int)) ∧ w' = W) := Lib.hid fun W h => pNum _ 0 X W h (by omega)
  have C1 : Hid (∀ W, BVar W w.heap.size X → Calls Try.prog 46 #[.pointer (some ⟨w.heap.size, 0, none⟩), .int .i64 4] W fun e w' => e = .returned (.int .u32 ((num X 1 : Nat) : Int)) ∧ w' = W) := Lib.hid fun W h => pNum _ 1 X W h (by omega)
  have C2 : Hid (∀ W, BVar W w.heap.size X → Calls Try.prog 46 #[.pointer (some ⟨w.heap.size, 0, none⟩), .int .i64 8] W fun e w' => e = .returned (.int .u32 ((num X 2 : Nat) : Int)) ∧ w' = W) := Lib.hid fun W h => pNum _ 2 X W h (by omega)
  have CK := Lib.hid fun W => pMayKind (num X 1) W
  have CS := Lib.hid fun W => pMaySeq (num X 2) W
  have KY : Hid (num X 0 = 1280199249 → MayKind (num X 1) → MaySeq (num X 2) → kindOf X = (num X 1, num X 2)) := Lib.hid fun a b c => kind_of ⟨a, rfl, c⟩ (by unfold MayKind at b; omega) (by unfold MayKind at b; omega)
  have KN : Hid (¬ (num X 0 = 1280199249 ∧ MayKind (num X 1) ∧ MaySeq (num X 2)) → kindOf X = (0, 0)) := Lib.hid fun q => kind_not fun k h1 h4 b => q ⟨b.magic, by unfold MayKind; rw [b.kind]; omega, b.seq⟩
  generalize num X 0 = n0 at *
  generalize num X 1 = n1 at *
  generalize num X 2 = n2 at *
  by_cases h0 : n0 = 1280199249
  rotate_left
  · have E := Lib.hid (KN.out fun q => h0 q.1)
    have t0 : (((n0 : Nat) : Int) != 1280199249) = true := by rw [bne_iff_ne]; omega
    clear KN KY h0 CK CS
    go_enter Try.func25, Try.ntmps25
    go_upto_region 1 with fail
    generalize w.alloc (.cells (arr X) 28) = w1 at V B ⊢
    go_wp2_with (first
      | (go_at_call 46; with_reducible refine (C0.out _ V.out).mono ?_; rintro e w2 ⟨rfl, rfl⟩)
      | (go_at_call 46; with_reducible refine (C1.out _ V.out).mono ?_; rintro e w3 ⟨rfl, rfl⟩)
      | (go_at_call 46; with_reducible refine (C2.out _ V.out).mono ?_; rintro e w4 ⟨rfl, rfl⟩)
      | (go_at_call 50; with_reducible refine (CK.out _).mono ?_; rintro e w5 ⟨rfl, rfl⟩)
      | (go_at_call 37; with_reducible refine (CS.out _).mono ?_; rintro e w6 ⟨rfl, rfl⟩))
    go_ret2
    exact ⟨by rw [E.out]; rfl, B.out⟩
  have t0 : (((n0 : Nat) : Int) != 1280199249) = false := by rw [bne_eq_false_iff_eq]; omega
  by_cases h1 : MayKind n1
  rotate_left
  · have E := Lib.hid (KN.out fun q => h1 q.2.1)
    rw [decide_eq_false h1] at CK
    clear KN KY h0 h1 CS
    go_enter Try.func25, Try.ntmps25
    go_upto_region 1 with fail
    generalize w.alloc (.cells (arr X) 28) = w1 at V B ⊢
    go_wp2_with (first
      | (go_at_call 46; with_reducible refine (C0.out _ V.out).mono ?_; rintro e w2 ⟨rfl, rfl⟩)
      | (go_at_call 46; with_reducible refine (C1.out _ V.out).mono ?_; rintro e w3 ⟨rfl, rfl⟩)
      | (go_at_call 46; with_reducible refine (C2.out _ V.out).mono ?_; rintro e w4 ⟨rfl, rfl⟩)
      | (go_at_call 50; with_reducible refine (CK.out _).mono ?_; rintro e w5 ⟨rfl, rfl⟩)
      | (go_at_call 37; with_reducible refine (CS.out _).mono ?_; rintro e w6 ⟨rfl, rfl⟩))
    go_ret2
    exact ⟨by rw [E.out]; rfl, B.out⟩
  rw [decide_eq_true h1] at CK
  by_cases h2 : MaySeq n2
  rotate_left
  · have E := Lib.hid (KN.out fun q => h2 q.2.2)
    rw [decide_eq_false h2] at CS
    clear KN KY h0 h1 h2
    go_enter Try.func25, Try.ntmps25
    go_upto_region 1 with fail
    generalize w.alloc (.cells (arr X) 28) = w1 at V B ⊢
    go_wp2_with (first
      | (go_at_call 46; with_reducible refine (C0.out _ V.out).mono ?_; rintro e w2 ⟨rfl, rfl⟩)
      | (go_at_call 46; with_reducible refine (C1.out _ V.out).mono ?_; rintro e w3 ⟨rfl, rfl⟩)
      | (go_at_call 46; with_reducible refine (C2.out _ V.out).mono ?_; rintro e w4 ⟨rfl, rfl⟩)
      | (go_at_call 50; with_reducible refine (CK.out _).mono ?_; rintro e w5 ⟨rfl, rfl⟩)
      | (go_at_call 37; with_reducible refine (CS.out _).mono ?_; rintro e w6 ⟨rfl, rfl⟩))
    go_ret2
    exact ⟨by rw [E.out]; rfl, B.out⟩
  · have E := Lib.hid (KY.out h0 h1 h2)
    rw [decide_eq_true h2] at CS
    have w8 : IntKind.u8.wrap (n1 : Int) = (n1 : Int) := by unfold MayKind at h1; rw [IntKind.wrap_u8]; omega
    clear KN KY h0 h1 h2
    go_enter Try.func25, Try.ntmps25
    go_upto_region 1 with fail
    generalize w.alloc (.cells (arr X) 28) = w1 at V B ⊢
    go_wp2_with (first
      | (go_at_call 46; with_reducible refine (C0.out _ V.out).mono ?_; rintro e w2 ⟨rfl, rfl⟩)
      | (go_at_call 46; with_reducible refine (C1.out _ V.out).mono ?_; rintro e w3 ⟨rfl, rfl⟩)
      | (go_at_call 46; with_reducible refine (C2.out _ V.out).mono ?_; rintro e w4 ⟨rfl, rfl⟩)
      | (go_at_call 50; with_reducible refine (CK.out _).mono ?_; rintro e w5 ⟨rfl, rfl⟩)
      | (go_at_call 37; with_reducible refine (CS.out _).mono ?_; rintro e w6 ⟨rfl, rfl⟩))
    go_ret2
    exact ⟨by rw [E.out]; rfl, B.out⟩
set_option maxRecDepth 100000 in
set_option maxHeartbeats 2000000 in
theorem pUnescape (X : Blk) (w : World) : Calls Try.prog 33 #[.agg (arr X)] w fun e w' => e = .returned (.agg (arr (unescB X))) ∧ Below w.heap.size w w' := by
  have hz := fun W => zero_blk W
  have V := Lib.hid (show BVar ((w.alloc (.cells (arr X) 28)).alloc (.cells (arr .zero) 28)) w.heap.size X from BVar.below (heap_alloc_new w _) (below_new _ _))
  have R := Lib.hid (show BVar ((w.alloc (.cells (arr X) 28)).alloc (.cells (arr .zero) 28)) (w.heap.size + 1) .zero from heap_alloc2_new w _ _)
  have B := Lib.hid (show Below w.heap.size w ((w.alloc (.cells (arr X) 28)).alloc (.cells (arr .zero) 28)) from low_go (below_new w _) (below_new _ _))
  have CP : Hid (∀ W, BVar W w.heap.size X → Calls Try.prog 45 #[.pointer (some ⟨w.heap.size, 0, none⟩), .int .i64 0, .int .u32 1280199249] W fun e w' => e = .returned (.tuple #[]) ∧ BVar w' w.heap.size (unescB X) ∧ Only w.heap.size W w') := Lib.hid fun W h => pPut w.heap.size 0 1280199249 X W h (by omega) (by omega)
  go_enter Try.func33, Try.ntmps33
  go_upto_region 1 with fail
  generalize (w.alloc (.cells (arr X) 28)).alloc (.cells (arr .zero) 28) = w1 at V R B ⊢
  clear hz
  go_upto_region 2 with (go_at_call 45; with_reducible refine (CP.out _ V.out).mono ?_; rintro e w2 ⟨rfl, hv, ho⟩)
  have V2 := Lib.hid hv
  have R2 := Lib.hid (ho.blk (by omega) R.out)
  have B2 := Lib.hid (low_only B.out ho (Nat.le_refl _))
  clear hv ho CP V R B
  go_wp2_with (first
    | (refine load_blk rfl (.tmp 1) rfl w.heap.size 0 rfl (unescB X) V2.out.at ?_)
    | (refine store_row rfl (.tmp 2) (.tmp 4) rfl (w.heap.size + 1) (unescB X) .zero 28 rfl rfl R2.out ?_))
  exact bodyPost_ret (results_blk Try.results33 _ _ (w.heap.size + 1) (unescB X) _ rfl (row_heap _ _ _ _ R2.out)) rfl ⟨rfl, row_low B2.out (by omega) _⟩
set_option maxRecDepth 100000 in
set_option maxHeartbeats 2000000 in
theorem pEscape (X : Blk) (w : World) : Calls Try.prog 31 #[.agg (arr X)] w fun e w' => e = .returned (.tuple #[.agg (arr (escB X).1), .bool (escB X).2]) ∧ Below w.heap.size w w' := by
  have hz := fun W => zero_blk W
  have V := Lib.hid (show BVar ((w.alloc (.cells (arr X) 28)).alloc (.cells (arr .zero) 28)) w.heap.size X from BVar.below (heap_alloc_new w _) (below_new _ _))
  have R := Lib.hid (show BVar ((w.alloc (.cells (arr X) 28)).alloc (.cells (arr .zero) 28)) (w.heap.size + 1) .zero from heap_alloc2_new w _ _)
  have B := Lib.hid (show Below w.heap.size w ((w.alloc (.cells (arr X) 28)).alloc (.cells (arr .zero) 28)) from low_go (below_new w _) (below_new _ _))
  have CP : Hid (∀ W, BVar W w.heap.size X → Calls Try.prog 45 #[.pointer (some ⟨w.heap.size, 0, none⟩), .int .i64 0, .int .u32 0] W fun e w' => e = .returned (.tuple #[]) ∧ BVar w' w.heap.size (putB32 X 0 0) ∧ Only w.heap.size W w') := Lib.hid fun W h => pPut w.heap.size 0 0 X W h (by omega) (by omega)
  have C0 : Hid (∀ W, BVar W w.heap.size X → Calls Try.prog 46 #[.pointer (some ⟨w.heap.size, 0, none⟩), .int .i64 0] W fun e w' => e = .returned (.int .u32 ((num X 0 : Nat) : Int)) ∧ w' = W) := Lib.hid fun W h => pNum _ 0 X W h (by omega)
  by_cases h : num X 0 = magic
  · have t0 : (((num X 0 : Nat) : Int) != 1280199249) = false := by rw [bne_eq_false_iff_eq, h]; rfl
    have E := Lib.hid (esc_yes h)
    generalize num X 0 = n0 at C0 t0
    clear h
    go_enter Try.func31, Try.ntmps31
    go_upto_region 1 with fail
    generalize (w.alloc (.cells (arr X) 28)).alloc (.cells (arr .zero) 28) = w1 at V R B ⊢
    clear hz
    go_upto_region 4 with (first
      | (go_at_call 46; with_reducible refine (C0.out _ V.out).mono ?_; rintro e w2 ⟨rfl, rfl⟩)
      | (go_at_call 45; with_reducible refine (CP.out _ V.out).mono ?_; rintro e w3 ⟨rfl, hv, ho⟩))
    have V2 := Lib.hid hv
    have R2 := Lib.hid (ho.blk (by omega) R.out)
    have B2 := Lib.hid (low_only B.out ho (Nat.le_refl _))
    clear hv ho CP V R B
    go_wp2_with (first
      | (refine load_blk rfl (.tmp 1) rfl w.heap.size 0 rfl (putB32 X 0 0) V2.out.at ?_)
      | (refine store_row rfl (.tmp 2) (.tmp 8) rfl (w.heap.size + 1) (putB32 X 0 0) .zero 28 rfl rfl R2.out ?_))
    exact bodyPost_ret (res_blk2 Try.results31 _ _ (w.heap.size + 1) (putB32 X 0 0) (.bool true) _ rfl rfl (row_heap _ _ _ _ R2.out)) rfl ⟨by rw [E.out], row_low B2.out (by omega) _⟩
  · have t0 : (((num X 0 : Nat) : Int) != 1280199249) = true := by rw [bne_iff_ne]; intro q; exact h (by show num X 0 = 1280199249; omega)
    have E := Lib.hid (esc_no h)
    generalize num X 0 = n0 at C0 t0
    clear h CP
    go_enter Try.func31, Try.ntmps31
    go_upto_region 1 with fail
    generalize (w.alloc (.cells (arr X) 28)).alloc (.cells (arr .zero) 28) = w1 at V R B ⊢
    clear hz
    go_wp2_with (first
      | (go_at_call 46; with_reducible refine (C0.out _ V.out).mono ?_; rintro e w2 ⟨rfl, rfl⟩)
      | (refine load_blk rfl (.tmp 1) rfl w.heap.size 0 rfl X V.out.at ?_)
      | (refine store_row rfl (.tmp 2) (.tmp 6) rfl (w.heap.size + 1) X .zero 28 rfl rfl R.out ?_))
    exact bodyPost_ret (res_blk2 Try.results31 _ _ (w.heap.size + 1) X (.bool false) _ rfl rfl (row_heap _ _ _ _ R.out)) rfl ⟨by rw [E.out], row_low B.out (by omega) _⟩
/-- The landed code answers as the contract says. -/
theorem pJSays : JSays := ⟨pWriteHead, pReadHead, pWriteDesc, pReadDesc, pWriteRevoke, pReadRevoke, pWriteCommit, pReadCommit, pKind, pEscape, pUnescape⟩
end Go.Proofs.Ytjiooadakklmlaa
