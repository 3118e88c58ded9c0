import Derived.Test.YtjiooadakklmlaaJbQ4
import Derived.Test.YtjiooadakklmlaaClassTail
namespace Go.Proofs.Ytjiooadakklmlaa
open Go.RowKit

/-! The document's own ReadHead and ReadCommit. -/
theorem results_t4 {fn : Func} {a b c d : Tmp} (h : fn.results = #[.tmp a, .tmp b, .tmp c, .tmp d]) (tmps : Array Value) (w : World) : (results fn tmps).run Try.prog w = .ok (.tuple #[tmps.getD a undef, tmps.getD b undef, tmps.getD c undef, tmps.getD d undef]) w := by simp [results, h]
theorem results_t3 {fn : Func} {a b c : Tmp} (h : fn.results = #[.tmp a, .tmp b, .tmp c]) (tmps : Array Value) (w : World) : (results fn tmps).run Try.prog w = .ok (.tuple #[tmps.getD a undef, tmps.getD b undef, tmps.getD c undef]) w := by simp [results, h]
theorem zero_tail {X : Blk} {k : Nat} (hk : k ≤ 64) (b : Nat) : (Tail0 X k → ∀ W, BVar W b X → Calls Try.prog 49 #[.slice (some ⟨b, 4 * k, none⟩) (256 - 4 * k) (256 - 4 * k)] W fun e w' => e = .returned (.bool true) ∧ w' = W) ∧ (¬ Tail0 X k → ∀ W, BVar W b X → Calls Try.prog 49 #[.slice (some ⟨b, 4 * k, none⟩) (256 - 4 * k) (256 - 4 * k)] W fun e w' => e = .returned (.bool false) ∧ w' = W) := by
  constructor
  · intro h W hV
    exact (rZero_yes (some ⟨b, 4 * k, none⟩) (256 - 4 * k) (256 - 4 * k) _ W (by omega) (hV.row (by omega)) (tail_bytes h)).mono fun e w' q => ⟨q.1, q.2.symm⟩
  · intro h W hV
    obtain ⟨i, hi, hp⟩ := tail_not h
    exact (rZero_no (some ⟨b, 4 * k, none⟩) (256 - 4 * k) (256 - 4 * k) _ W i (by omega) (hV.row (by omega)) hi hp).mono fun e w' q => ⟨q.1, q.2.symm⟩
set_option maxRecDepth 100000 in
set_option maxHeartbeats 4000000 in
theorem rReadHead (X : Blk) (w : World) : Calls Try.prog 22 #[.agg (arr X)] w fun e w' => e = .returned (.tuple #[.agg (hcs (readJH X).1), .int .i64 (readJH X).2]) ∧ Below w.heap.size w w' := by
  have hz := fun W => zero_head W
  have V := Lib.hid (show BVar ((w.alloc (.cells (arr X) 28)).alloc (.cells (hcs .zero) 24)) w.heap.size X from BVar.below (heap_alloc_new w _) (below_new _ _))
  have R := Lib.hid (show HVar ((w.alloc (.cells (arr X) 28)).alloc (.cells (hcs .zero) 24)) (w.heap.size + 1) .zero from heap_alloc2_new w _ _)
  have B := Lib.hid (show Below w.heap.size w ((w.alloc (.cells (arr X) 28)).alloc (.cells (hcs .zero) 24)) from low_go (below_new w _) (below_new _ _))
  have CB : Hid (∀ W, Calls Try.prog 47 #[.agg (arr X), .int .u32 4] W fun e w' => e = .returned (.bool (decide (Begins X 4))) ∧ Below W.heap.size W w') := Lib.hid fun W => rBegins X 4 W
  have C2 : Hid (∀ W, Calls Try.prog 48 #[.agg (arr X), .int .i64 8] W fun e w' => e = .returned (.int .u32 ((num X 2 : Nat) : Int)) ∧ Below W.heap.size W w') := Lib.hid fun W => rNum X 2 W (by omega)
  have C3 : Hid (∀ W, Calls Try.prog 48 #[.agg (arr X), .int .i64 12] W fun e w' => e = .returned (.int .u32 ((num X 3 : Nat) : Int)) ∧ Below W.heap.size W w') := Lib.hid fun W => rNum X 3 W (by omega)
  by_cases h1 : Begins X 4
  rotate_left
  · have E := Lib.hid (readJH_no fun q : IsJH X => h1 q.begins)
    rw [decide_eq_false h1] at CB
    clear h1
    go_enter Try.func22, Try.ntmps22
    go_upto_region 1 with fail
    clear hz
    generalize (w.alloc (.cells (arr X) 28)).alloc (.cells (hcs .zero) 24) = w1 at V R B ⊢
    go_wp2_with (first
      | (refine load_blk rfl (.tmp 1) rfl w.heap.size 0 rfl X V.out.at ?_)
      | (go_at_call 47; with_reducible refine (CB.out _).mono ?_; rintro e w2 ⟨rfl, hb⟩; have V2 := Lib.hid (V.out.below hb); have R2 := Lib.hid (R.out.below hb); have B2 := Lib.hid (low_go B.out hb); clear hb)
      | (refine load_blk_w (by with_unfolding_all rfl) (.tmp 1) rfl w.heap.size 0 rfl X V2.out.at ?_)
      | (go_at_call 48; with_reducible refine (C3.out _).mono ?_; rintro e w3 ⟨rfl, hb⟩; have V3 := Lib.hid (V2.out.below hb); have R3 := Lib.hid (R2.out.below hb); have B3 := Lib.hid (low_go B2.out hb); clear hb)
      | (go_at_call 49; with_reducible refine (CZ.out _ V3.out).mono ?_; rintro e w4 ⟨rfl, rfl⟩)
      | (refine store_headv rfl (.tmp 2) (.tmp 17) rfl (w.heap.size + 1) .zero .zero rfl rfl R2.out ?_))
    exact bodyPost_ret (res_head Try.results22 _ _ (w.heap.size + 1) .zero (.int .i64 90) rfl rfl (R2.out.setRow .zero)) rfl ⟨by rw [E.out], row_low B2.out (by omega) _⟩
  rw [decide_eq_true h1] at CB
  by_cases h2 : num X 3 ≤ 255
  rotate_left
  · have E := Lib.hid (readJH_no fun q : IsJH X => h2 q.start)
    have d2 : decide ((255 : Int) < ((num X 3 : Nat) : Int)) = true := by simp; omega
    have e2 : (255 : Int) < ((num X 3 : Nat) : Int) := by omega
    generalize num X 3 = n3 at C3 d2 e2
    clear h1 h2
    go_enter Try.func22, Try.ntmps22
    go_upto_region 1 with fail
    clear hz
    generalize (w.alloc (.cells (arr X) 28)).alloc (.cells (hcs .zero) 24) = w1 at V R B ⊢
    go_wp2_with (first
      | (refine load_blk rfl (.tmp 1) rfl w.heap.size 0 rfl X V.out.at ?_)
      | (go_at_call 47; with_reducible refine (CB.out _).mono ?_; rintro e w2 ⟨rfl, hb⟩; have V2 := Lib.hid (V.out.below hb); have R2 := Lib.hid (R.out.below hb); have B2 := Lib.hid (low_go B.out hb); clear hb)
      | (refine load_blk_w (by with_unfolding_all rfl) (.tmp 1) rfl w.heap.size 0 rfl X V2.out.at ?_)
      | (go_at_call 48; with_reducible refine (C3.out _).mono ?_; rintro e w3 ⟨rfl, hb⟩; have V3 := Lib.hid (V2.out.below hb); have R3 := Lib.hid (R2.out.below hb); have B3 := Lib.hid (low_go B2.out hb); clear hb)
      | (go_at_call 49; with_reducible refine (CZ.out _ V3.out).mono ?_; rintro e w4 ⟨rfl, rfl⟩)
      | (refine store_headv rfl (.tmp 2) (.tmp 17) rfl (w.heap.size + 1) .zero .zero rfl rfl R3.out ?_))
    exact bodyPost_ret (res_head Try.results22 _ _ (w.heap.size + 1) .zero (.int .i64 90) rfl rfl (R3.out.setRow .zero)) rfl ⟨by rw [E.out], row_low B3.out (by omega) _⟩
  have d2 : decide ((255 : Int) < ((num X 3 : Nat) : Int)) = false := by simp; omega
  have e2 : ¬ (255 : Int) < ((num X 3 : Nat) : Int) := by omega
  by_cases h3 : Tail0 X 4
  rotate_left
  · have E := Lib.hid (readJH_no fun q : IsJH X => h3 q.rest)
    have CZ := Lib.hid ((zero_tail (X := X) (k := 4) (by omega) w.heap.size).2 h3)
    generalize num X 3 = n3 at C3 d2 e2
    clear h1 h2 h3
    go_enter Try.func22, Try.ntmps22
    go_upto_region 1 with fail
    clear hz
    generalize (w.alloc (.cells (arr X) 28)).alloc (.cells (hcs .zero) 24) = w1 at V R B ⊢
    go_wp2_with (first
      | (refine load_blk rfl (.tmp 1) rfl w.heap.size 0 rfl X V.out.at ?_)
      | (go_at_call 47; with_reducible refine (CB.out _).mono ?_; rintro e w2 ⟨rfl, hb⟩; have V2 := Lib.hid (V.out.below hb); have R2 := Lib.hid (R.out.below hb); have B2 := Lib.hid (low_go B.out hb); clear hb)
      | (refine load_blk_w (by with_unfolding_all rfl) (.tmp 1) rfl w.heap.size 0 rfl X V2.out.at ?_)
      | (go_at_call 48; with_reducible refine (C3.out _).mono ?_; rintro e w3 ⟨rfl, hb⟩; have V3 := Lib.hid (V2.out.below hb); have R3 := Lib.hid (R2.out.below hb); have B3 := Lib.hid (low_go B2.out hb); clear hb)
      | (go_at_call 49; with_reducible refine (CZ.out _ V3.out).mono ?_; rintro e w4 ⟨rfl, rfl⟩)
      | (refine store_headv rfl (.tmp 2) (.tmp 17) rfl (w.heap.size + 1) .zero .zero rfl rfl R3.out ?_))
    exact bodyPost_ret (res_head Try.results22 _ _ (w.heap.size + 1) .zero (.int .i64 90) rfl rfl (R3.out.setRow .zero)) rfl ⟨by rw [E.out], row_low B3.out (by omega) _⟩
  have E := Lib.hid (readJH_yes (⟨h1, h2, h3⟩ : IsJH X))
  have CZ := Lib.hid ((zero_tail (X := X) (k := 4) (by omega) w.heap.size).1 h3)
  have HO : Hid (headOf X = ⟨num X 2, ((num X 3 : Nat) : Int)⟩) := Lib.hid rfl
  obtain ⟨n2, hn2⟩ : ∃ n2, num X 2 = n2 := ⟨_, rfl⟩
  obtain ⟨n3, hn3⟩ : ∃ n3, num X 3 = n3 := ⟨_, rfl⟩
  rw [hn2] at C2 HO
  rw [hn3] at C3 HO d2 e2 h2
  have w64 : IntKind.i64.wrap (n3 : Int) = (n3 : Int) := by rw [IntKind.wrap_i64]; omega
  clear h1 h2 h3 hn2 hn3
  go_enter Try.func22, Try.ntmps22
  go_upto_region 1 with fail
  clear hz
  generalize (w.alloc (.cells (arr X) 28)).alloc (.cells (hcs .zero) 24) = w1 at V R B ⊢
  go_upto_region 3 with (first
    | (refine load_blk rfl (.tmp 1) rfl w.heap.size 0 rfl X V.out.at ?_)
    | (go_at_call 47; with_reducible refine (CB.out _).mono ?_; rintro e w2 ⟨rfl, hb⟩; have V2 := Lib.hid (V.out.below hb); have R2 := Lib.hid (R.out.below hb); have B2 := Lib.hid (low_go B.out hb); clear hb)
    | (refine load_blk_w (by with_unfolding_all rfl) (.tmp 1) rfl w.heap.size 0 rfl X V2.out.at ?_)
    | (go_at_call 48; with_reducible refine (C3.out _).mono ?_; rintro e w3 ⟨rfl, hb⟩; have V3 := Lib.hid (V2.out.below hb); have R3 := Lib.hid (R2.out.below hb); have B3 := Lib.hid (low_go B2.out hb); clear hb)
    | (go_at_call 49; with_reducible refine (CZ.out _ V3.out).mono ?_; rintro e w4 ⟨rfl, rfl⟩))
  clear V R B CB CZ V2 R2 B2
  refine wp_region_class_tail (More w4) 6 (by kernel_rfl) (by kernel_rfl) (More.drew _) ?_
  simp only [List.take_succ_cons, List.take_zero, List.drop_succ_cons, List.drop_zero]
  repeat (first | go_big_quiet_skip | (go_big_quiet_want; first | (refine quiet_load _ rfl _ _ rfl X (by intro w' hw'; exact (V3.out.below hw').at) ?_; simp only [Act.put, List.setIfInBounds_toArray, List.set_cons_zero, List.set_cons_succ]; go_big_quiet_on) | (go_big_quiet_op; first | go_big_quiet_on | (apply Exists.intro; refine ⟨fun _ _ => ?_, ?_⟩; (with_reducible exact rfl); go_big_quiet_on) | go_big_quiet_call ((intro hC; first | ((with_reducible refine (C2.out _).mono ?_); exact fun e w' h => ⟨h.1, hC.on h.2⟩) | ((with_reducible refine (C3.out _).mono ?_); exact fun e w' h => ⟨h.1, hC.on h.2⟩))))))
  refine wpQuiet_nil ?_
  intro w5 hw5
  have R5 := Lib.hid (R3.out.below hw5)
  have B5 := Lib.hid (low_go B3.out hw5)
  clear hw5
  go_wp2_with (refine store_headv rfl (.tmp 2) (.tmp 23) rfl (w.heap.size + 1) ⟨n2, (n3 : Int)⟩ .zero rfl rfl R5.out ?_)
  exact bodyPost_ret (res_head Try.results22 _ _ (w.heap.size + 1) ⟨n2, (n3 : Int)⟩ (.int .i64 0) rfl rfl (R5.out.setRow _)) rfl ⟨by rw [E.out, HO.out], row_low B5.out (by omega) _⟩
/-- What ReadCommit answers. -/
noncomputable def readJC (X : Blk) : Nat × Nat × Nat × Int := if IsJC X then (num X 2, num X 3, num X 4, 0) else (0, 0, 0, 90)
theorem readJC_yes {X : Blk} (h : IsJC X) : readJC X = (num X 2, num X 3, num X 4, 0) := if_pos h
theorem readJC_no {X : Blk} (h : ¬ IsJC X) : readJC X = (0, 0, 0, 90) := if_neg h
def tup4 (r : Nat × Nat × Nat × Int) : Value := .tuple #[.int .u32 ((r.1 : Nat) : Int), .int .i64 ((r.2.1 : Nat) : Int), .int .u32 ((r.2.2.1 : Nat) : Int), .int .i64 r.2.2.2]
set_option maxRecDepth 100000 in
set_option maxHeartbeats 4000000 in
theorem rReadCommit (X : Blk) (w : World) : Calls Try.prog 24 #[.agg (arr X)] w fun e w' => e = .returned (tup4 (readJC X)) ∧ Below w.heap.size w w' := by
  have V := Lib.hid (show BVar (w.alloc (.cells (arr X) 28)) w.heap.size X from heap_alloc_new w _)
  have B := Lib.hid (below_new w (.cells (arr X) 28))
  have CB : Hid (∀ W, Calls Try.prog 47 #[.agg (arr X), .int .u32 2] W fun e w' => e = .returned (.bool (decide (Begins X 2))) ∧ Below W.heap.size W w') := Lib.hid fun W => rBegins X 2 W
  have C2 : Hid (∀ W, Calls Try.prog 48 #[.agg (arr X), .int .i64 8] W fun e w' => e = .returned (.int .u32 ((num X 2 : Nat) : Int)) ∧ Below W.heap.size W w') := Lib.hid fun W => rNum X 2 W (by omega)
  have C3 : Hid (∀ W, Calls Try.prog 48 #[.agg (arr X), .int .i64 12] W fun e w' => e = .returned (.int .u32 ((num X 3 : Nat) : Int)) ∧ Below W.heap.size W w') := Lib.hid fun W => rNum X 3 W (by omega)
  have C4 : Hid (∀ W, Calls Try.prog 48 #[.agg (arr X), .int .i64 16] W fun e w' => e = .returned (.int .u32 ((num X 4 : Nat) : Int)) ∧ Below W.heap.size W w') := Lib.hid fun W => rNum X 4 W (by omega)
  obtain ⟨n3, hn3⟩ : ∃ n3, num X 3 = n3 := ⟨_, rfl⟩
  rw [hn3] at C3
  by_cases h1 : Begins X 2
  rotate_left
  · have E := Lib.hid (readJC_no fun q : IsJC X => h1 q.begins)
    rw [decide_eq_false h1] at CB
    clear h1
    go_enter Try.func24, Try.ntmps24
    go_upto_region 1 with fail
    generalize w.alloc (.cells (arr X) 28) = w1 at V B ⊢
    go_wp2_with (first
      | (refine load_blk rfl (.tmp 1) rfl w.heap.size 0 rfl X V.out.at ?_)
      | (go_at_call 48; with_reducible refine (C3.out _).mono ?_; rintro e w2 ⟨rfl, hb⟩; have V2 := Lib.hid (V.out.below hb); have B2 := Lib.hid (low_go B.out hb); clear hb)
      | (refine load_blk rfl (.tmp 1) rfl w.heap.size 0 rfl X V2.out.at ?_)
      | (go_at_call 47; with_reducible refine (CB.out _).mono ?_; rintro e w3 ⟨rfl, hb⟩; have V3 := Lib.hid (V2.out.below hb); have B3 := Lib.hid (low_go B2.out hb); clear hb)
      | (go_at_call 49; with_reducible refine (CZ.out _ V3.out).mono ?_; rintro e w4 ⟨rfl, rfl⟩))
    exact bodyPost_ret (results_t4 Try.results24 _ _) rfl ⟨by rw [E.out]; rfl, B3.out⟩
  rw [decide_eq_true h1] at CB
  by_cases h2 : 1 ≤ n3
  rotate_left
  · have E := Lib.hid (readJC_no fun q : IsJC X => h2 (by rw [← hn3]; exact q.lo))
    have d2 : decide ((n3 : Int) < 1) = true := by simp; omega
    have e2 : (n3 : Int) < 1 := by omega
    clear h1 h2
    go_enter Try.func24, Try.ntmps24
    go_upto_region 1 with fail
    generalize w.alloc (.cells (arr X) 28) = w1 at V B ⊢
    go_wp2_with (first
      | (refine load_blk rfl (.tmp 1) rfl w.heap.size 0 rfl X V.out.at ?_)
      | (go_at_call 48; with_reducible refine (C3.out _).mono ?_; rintro e w2 ⟨rfl, hb⟩; have V2 := Lib.hid (V.out.below hb); have B2 := Lib.hid (low_go B.out hb); clear hb)
      | (refine load_blk rfl (.tmp 1) rfl w.heap.size 0 rfl X V2.out.at ?_)
      | (go_at_call 47; with_reducible refine (CB.out _).mono ?_; rintro e w3 ⟨rfl, hb⟩; have V3 := Lib.hid (V2.out.below hb); have B3 := Lib.hid (low_go B2.out hb); clear hb)
      | (go_at_call 49; with_reducible refine (CZ.out _ V3.out).mono ?_; rintro e w4 ⟨rfl, rfl⟩))
    exact bodyPost_ret (results_t4 Try.results24 _ _) rfl ⟨by rw [E.out]; rfl, B3.out⟩
  have d2 : decide ((n3 : Int) < 1) = false := by simp; omega
  have e2 : ¬ (n3 : Int) < 1 := by omega
  by_cases h3 : n3 ≤ 256
  rotate_left
  · have E := Lib.hid (readJC_no fun q : IsJC X => h3 (by rw [← hn3]; exact q.hi))
    have d3 : decide ((256 : Int) < (n3 : Int)) = true := by simp; omega
    have e3 : (256 : Int) < (n3 : Int) := by omega
    clear h1 h2 h3
    go_enter Try.func24, Try.ntmps24
    go_upto_region 1 with fail
    generalize w.alloc (.cells (arr X) 28) = w1 at V B ⊢
    go_wp2_with (first
      | (refine load_blk rfl (.tmp 1) rfl w.heap.size 0 rfl X V.out.at ?_)
      | (go_at_call 48; with_reducible refine (C3.out _).mono ?_; rintro e w2 ⟨rfl, hb⟩; have V2 := Lib.hid (V.out.below hb); have B2 := Lib.hid (low_go B.out hb); clear hb)
      | (refine load_blk rfl (.tmp 1) rfl w.heap.size 0 rfl X V2.out.at ?_)
      | (go_at_call 47; with_reducible refine (CB.out _).mono ?_; rintro e w3 ⟨rfl, hb⟩; have V3 := Lib.hid (V2.out.below hb); have B3 := Lib.hid (low_go B2.out hb); clear hb)
      | (go_at_call 49; with_reducible refine (CZ.out _ V3.out).mono ?_; rintro e w4 ⟨rfl, rfl⟩))
    exact bodyPost_ret (results_t4 Try.results24 _ _) rfl ⟨by rw [E.out]; rfl, B3.out⟩
  have d3 : decide ((256 : Int) < (n3 : Int)) = false := by simp; omega
  have e3 : ¬ (256 : Int) < (n3 : Int) := by omega
  by_cases h4 : Tail0 X 5
  rotate_left
  · have E := Lib.hid (readJC_no fun q : IsJC X => h4 q.rest)
    have CZ := Lib.hid ((zero_tail (X := X) (k := 5) (by omega) w.heap.size).2 h4)
    clear h1 h2 h3 h4
    go_enter Try.func24, Try.ntmps24
    go_upto_region 1 with fail
    generalize w.alloc (.cells (arr X) 28) = w1 at V B ⊢
    go_wp2_with (first
      | (refine load_blk rfl (.tmp 1) rfl w.heap.size 0 rfl X V.out.at ?_)
      | (go_at_call 48; with_reducible refine (C3.out _).mono ?_; rintro e w2 ⟨rfl, hb⟩; have V2 := Lib.hid (V.out.below hb); have B2 := Lib.hid (low_go B.out hb); clear hb)
      | (refine load_blk rfl (.tmp 1) rfl w.heap.size 0 rfl X V2.out.at ?_)
      | (go_at_call 47; with_reducible refine (CB.out _).mono ?_; rintro e w3 ⟨rfl, hb⟩; have V3 := Lib.hid (V2.out.below hb); have B3 := Lib.hid (low_go B2.out hb); clear hb)
      | (go_at_call 49; with_reducible refine (CZ.out _ V3.out).mono ?_; rintro e w4 ⟨rfl, rfl⟩))
    exact bodyPost_ret (results_t4 Try.results24 _ _) rfl ⟨by rw [E.out]; rfl, B3.out⟩
  have E := Lib.hid (readJC_yes (⟨h1, by rw [hn3]; exact h2, by rw [hn3]; exact h3, h4⟩ : IsJC X))
  have CZ := Lib.hid ((zero_tail (X := X) (k := 5) (by omega) w.heap.size).1 h4)
  rw [hn3] at E
  generalize num X 2 = n2 at C2 E
  generalize num X 4 = n4 at C4 E
  have w64 : IntKind.i64.wrap (n3 : Int) = (n3 : Int) := by rw [IntKind.wrap_i64]; omega
  clear h1 h2 h3 h4 hn3
  go_enter Try.func24, Try.ntmps24
  go_upto_region 1 with fail
  generalize w.alloc (.cells (arr X) 28) = w1 at V B ⊢
  go_upto_region 4 with (first
      | (refine load_blk rfl (.tmp 1) rfl w.heap.size 0 rfl X V.out.at ?_)
      | (go_at_call 48; with_reducible refine (C3.out _).mono ?_; rintro e w2 ⟨rfl, hb⟩; have V2 := Lib.hid (V.out.below hb); have B2 := Lib.hid (low_go B.out hb); clear hb)
      | (refine load_blk rfl (.tmp 1) rfl w.heap.size 0 rfl X V2.out.at ?_)
      | (go_at_call 47; with_reducible refine (CB.out _).mono ?_; rintro e w3 ⟨rfl, hb⟩; have V3 := Lib.hid (V2.out.below hb); have B3 := Lib.hid (low_go B2.out hb); clear hb)
      | (go_at_call 49; with_reducible refine (CZ.out _ V3.out).mono ?_; rintro e w4 ⟨rfl, rfl⟩))
  clear V B CB CZ V2 B2
  refine wp_region_class (More w4) (by kernel_rfl) (by kernel_rfl) (More.drew _) ?_
  repeat (first | go_big_quiet_skip | (go_big_quiet_want; first | (refine quiet_load _ rfl _ _ rfl X (by intro w' hw'; exact (V3.out.below hw').at) ?_; simp only [Act.put, List.setIfInBounds_toArray, List.set_cons_zero, List.set_cons_succ]; go_big_quiet_on) | (go_big_quiet_op; first | go_big_quiet_on | (apply Exists.intro; refine ⟨fun _ _ => ?_, ?_⟩; (with_reducible exact rfl); go_big_quiet_on) | go_big_quiet_call ((intro hC; first | ((with_reducible refine (C2.out _).mono ?_); exact fun e w' h => ⟨h.1, hC.on h.2⟩) | ((with_reducible refine (C4.out _).mono ?_); exact fun e w' h => ⟨h.1, hC.on h.2⟩))))))
  refine wpQuiet_nil ?_
  intro w5 hw5
  have B5 := Lib.hid (low_go B3.out hw5)
  clear hw5
  go_wp2_with fail
  exact bodyPost_ret (results_t4 Try.results24 _ _) rfl ⟨by rw [E.out]; rfl, B5.out⟩
end Go.Proofs.Ytjiooadakklmlaa
