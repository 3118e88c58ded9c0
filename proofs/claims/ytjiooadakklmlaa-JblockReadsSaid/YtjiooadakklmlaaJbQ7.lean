import Derived.Test.YtjiooadakklmlaaJbQ6
namespace Go.Proofs.Ytjiooadakklmlaa
open Go.RowKit

/-! The document's own ReadRevoke. -/
/-- The bytes of a block from the k-th number on, as a slice. -/
def fromA (b k : Nat) : Option Addr := if k = 64 then some ⟨b, 0, none⟩ else some ⟨b, 4 * k, none⟩
theorem slice_from (b k : Nat) (h1 : 1 ≤ k) (hk : k ≤ 64) (v : Int) (hv : v = ((4 * k : Nat) : Int)) (w : World) : (Instr.sliceAt 28 (.pointer (some ⟨b, 0, none⟩)) (some (.int .u32 v)) none none).run Try.prog w = .ok (.slice (fromA b k) (256 - 4 * k) (256 - 4 * k)) w := by
  subst hv
  have h := run_sliceAt_array_l (P := Try.prog) w 28 ⟨b, 0, none⟩ (by kernel_rfl) .u32 ((4 * k : Nat) : Int) (by omega) (by rw [show Try.prog.arrayLen 28 = 256 by kernel_rfl]; omega)
  obtain ⟨z, hz, hh⟩ := Option.map_eq_some_iff.1 (show (Try.prog.info? 5).map (·.size) = some 1 by kernel_rfl)
  rw [h, show Try.prog.elem 28 = 5 by kernel_rfl, show Try.prog.arrayLen 28 = 256 by kernel_rfl]
  unfold fromA
  by_cases q : k = 64
  · subst q
    simp [sizeOf, typeInfo, hz, hh, slicedAt]
  · have e3 : ¬ 256 = 4 * k := by omega
    have e4 : (4 * (k : Int)).toNat = 4 * k := by omega
    have e5 : ¬ 4 * k = 0 := by omega
    simp [sizeOf, typeInfo, hz, hh, slicedAt, e3, e4, e5, q, Addr.add]
theorem zero_from {X : Blk} {k : Nat} (hk : k ≤ 64) (b : Nat) : (Tail0 X k → ∀ W, BVar W b X → Calls Try.prog 49 #[.slice (fromA b k) (256 - 4 * k) (256 - 4 * k)] W fun e w' => e = .returned (.bool true) ∧ w' = W) ∧ (¬ Tail0 X k → ∀ W, BVar W b X → Calls Try.prog 49 #[.slice (fromA b k) (256 - 4 * k) (256 - 4 * k)] W fun e w' => e = .returned (.bool false) ∧ w' = W) := by
  by_cases q : k = 64
  · subst q
    refine ⟨fun _ W _ => ?_, fun h => absurd (fun j h1 h2 => absurd h1 (by omega)) h⟩
    exact (rZero_yes _ (256 - 4 * 64) (256 - 4 * 64) (fun _ => 0) W (by omega) ⟨fun _ => Nat.zero_lt_succ _, fun h => absurd h (by omega)⟩ (fun _ _ => rfl)).mono fun e w' q => ⟨q.1, q.2.symm⟩
  · unfold fromA
    rw [if_neg q]
    exact zero_tail hk b
theorem numsOf_next (X : Blk) (n : Nat) : numsOf X (n + 1) = numsOf X n ++ [num X (4 + n)] := by unfold numsOf; rw [List.range_succ, List.map_append]; rfl
def RN (X : Blk) (k : Nat) : Prop := ∀ j, j + 1 < k → num X (4 + j) < num X (4 + (j + 1))
theorem RN_rise {X : Blk} {n : Nat} : Rise (numsOf X n) ↔ RN X n := by
  unfold Rise RN
  rw [numsOf_length]
  constructor
  · intro h j hj
    have := h j hj
    rwa [numsOf_getD (by omega), numsOf_getD (by omega)] at this
  · intro h j hj
    rw [numsOf_getD (by omega), numsOf_getD (by omega)]
    exact h j hj
theorem RN.next {X : Blk} {m : Nat} (h : RN X (m + 1)) (h1 : num X (4 + m) < num X (4 + (m + 1))) : RN X (m + 1 + 1) := fun j hj => by
  by_cases e : j = m
  · subst e; exact h1
  · exact h j (by omega)
/-- What ReadRevoke answers. -/
def ReadR (X : Blk) (base : Nat) (e : Ending) (w : World) : Prop :=
  (IsJR X ∧ ∃ v, e = .returned (.tuple #[.int .u32 ((num X 2 : Nat) : Int), v, .int .i64 0]) ∧ w.ownsRow base 22 1 v (num X 3) (nC (numsOf X (num X 3)))) ∨ (¬ IsJR X ∧ e = .returned (.tuple #[.int .u32 0, .slice none 0 0, .int .i64 90]))
/-- What it keeps in memory. -/
structure RR (w0 : World) (X : Blk) (v : Value) (i : Nat) (w : World) : Prop where
  blk : BVar w w0.heap.size X
  own : w.ownsRow (w0.heap.size + 1) 22 1 v i (nC (numsOf X i))
  low : Below w0.heap.size w0 w
theorem RR.below {w0 w w' : World} {X : Blk} {v : Value} {i : Nat} (h : RR w0 X v i w) (hb : Below w.heap.size w w') : RR w0 X v i w' := ⟨h.blk.below hb, own_keep h.own hb, low_go h.low hb⟩
theorem RR.app {w0 w w1 : World} {X : Blk} {v v' : Value} {i : Nat} {xs : List Value} (h : RR w0 X v i w) (o : Obj) (hown : w1.ownsRow (w0.heap.size + 1) 22 1 v' (i + 1) xs) (hx : xs = nC (numsOf X (i + 1))) (hgrow : (w.alloc o).grownBy w1 v.ownBlock) : RR w0 X v' (i + 1) w1 := by
  have ha := h.below (below_new w o)
  refine ⟨(hgrow.block w0.heap.size ha.blk.lt (fun e => ?_)).trans ha.blk, by rw [← hx]; exact hown, ha.low.grown hgrow ha.low.size (fun k e => by have := (h.own.lt k e).1; omega)⟩
  have := (h.own.lt _ e.symm).1
  omega
theorem own_numsN {w : World} {base n : Nat} {v : Value} {l : List Nat} (h : w.ownsRow base 22 1 v n (nC l)) (hn : n = l.length) : ∃ A c, v = .slice A n c ∧ n ≤ c ∧ NumsAt w A l := by
  subst hn; exact own_nums h
set_option maxRecDepth 100000 in
set_option maxHeartbeats 4000000 in
theorem rReadRevoke (X : Blk) (w : World) : Calls Try.prog 28 #[.agg (arr X)] w fun e w' => ReadR X w.heap.size e w' ∧ Below w.heap.size w w' := by
  have V := Lib.hid (show BVar (w.alloc (.cells (arr X) 28)) w.heap.size X from heap_alloc_new w _)
  have B := Lib.hid (below_new w (.cells (arr X) 28))
  have CB : Hid (∀ W, Calls Try.prog 47 #[.agg (arr X), .int .u32 3] W fun e w' => e = .returned (.bool (decide (Begins X 3))) ∧ Below W.heap.size W w') := Lib.hid fun W => rBegins X 3 W
  have C2 : Hid (∀ W, Calls Try.prog 48 #[.agg (arr X), .int .i64 8] W fun e w' => e = .returned (.int .u32 ((num X 2 : Nat) : Int)) ∧ Below W.heap.size W w') := Lib.hid fun W => rNum X 2 W (by omega)
  have C3 : Hid (∀ W, Calls Try.prog 48 #[.agg (arr X), .int .i64 12] W fun e w' => e = .returned (.int .u32 ((num X 3 : Nat) : Int)) ∧ Below W.heap.size W w') := Lib.hid fun W => rNum X 3 W (by omega)
  obtain ⟨n3, hn3⟩ : ∃ n3, num X 3 = n3 := ⟨_, rfl⟩
  rw [hn3] at C3
  have N3 := Lib.hid hn3
  by_cases h1 : Begins X 3
  rotate_left
  · have NR := Lib.hid fun q : IsJR X => h1 q.begins
    rw [decide_eq_false h1] at CB
    clear h1
    go_enter Try.func28, Try.ntmps28
    go_upto_region 1 with fail
    generalize w.alloc (.cells (arr X) 28) = w1 at V B ⊢
    go_wp2_with (first
      | (refine load_blk rfl (.tmp 1) rfl w.heap.size 0 rfl X V.out.at ?_)
      | (go_at_call 48; with_reducible refine (C3.out _).mono ?_; rintro e w2 ⟨rfl, hb⟩; have V2 := Lib.hid (V.out.below hb); have B2 := Lib.hid (low_go B.out hb); clear hb)
      | (refine load_blk rfl (.tmp 1) rfl w.heap.size 0 rfl X V2.out.at ?_)
      | (go_at_call 47; with_reducible refine (CB.out _).mono ?_; rintro e w3 ⟨rfl, hb⟩; have V3 := Lib.hid (V2.out.below hb); have B3 := Lib.hid (low_go B2.out hb); clear hb)
      | (go_at_call 49; with_reducible refine (CZ.out _ V3.out).mono ?_; rintro e w4 ⟨rfl, rfl⟩))
    go_ret3
    exact ⟨.inr ⟨NR.out, rfl⟩, B3.out⟩
  rw [decide_eq_true h1] at CB
  by_cases h2 : 1 ≤ n3
  rotate_left
  · have NR := Lib.hid fun q : IsJR X => h2 (by rw [← hn3]; exact q.lo)
    have d2 : decide ((n3 : Int) < 1) = true := by simp; omega
    have e2 : (n3 : Int) < 1 := by omega
    clear h1 h2
    go_enter Try.func28, Try.ntmps28
    go_upto_region 1 with fail
    generalize w.alloc (.cells (arr X) 28) = w1 at V B ⊢
    go_wp2_with (first
      | (refine load_blk rfl (.tmp 1) rfl w.heap.size 0 rfl X V.out.at ?_)
      | (go_at_call 48; with_reducible refine (C3.out _).mono ?_; rintro e w2 ⟨rfl, hb⟩; have V2 := Lib.hid (V.out.below hb); have B2 := Lib.hid (low_go B.out hb); clear hb)
      | (refine load_blk rfl (.tmp 1) rfl w.heap.size 0 rfl X V2.out.at ?_)
      | (go_at_call 47; with_reducible refine (CB.out _).mono ?_; rintro e w3 ⟨rfl, hb⟩; have V3 := Lib.hid (V2.out.below hb); have B3 := Lib.hid (low_go B2.out hb); clear hb)
      | (go_at_call 49; with_reducible refine (CZ.out _ V3.out).mono ?_; rintro e w4 ⟨rfl, rfl⟩))
    go_ret3
    exact ⟨.inr ⟨NR.out, rfl⟩, B3.out⟩
  have d2 : decide ((n3 : Int) < 1) = false := by simp; omega
  have e2 : ¬ (n3 : Int) < 1 := by omega
  by_cases h3 : n3 ≤ 60
  rotate_left
  · have NR := Lib.hid fun q : IsJR X => h3 (by rw [← hn3]; exact q.hi)
    have d3 : decide ((60 : Int) < (n3 : Int)) = true := by simp; omega
    have e3 : (60 : Int) < (n3 : Int) := by omega
    clear h1 h2 h3
    go_enter Try.func28, Try.ntmps28
    go_upto_region 1 with fail
    generalize w.alloc (.cells (arr X) 28) = w1 at V B ⊢
    go_wp2_with (first
      | (refine load_blk rfl (.tmp 1) rfl w.heap.size 0 rfl X V.out.at ?_)
      | (go_at_call 48; with_reducible refine (C3.out _).mono ?_; rintro e w2 ⟨rfl, hb⟩; have V2 := Lib.hid (V.out.below hb); have B2 := Lib.hid (low_go B.out hb); clear hb)
      | (refine load_blk rfl (.tmp 1) rfl w.heap.size 0 rfl X V2.out.at ?_)
      | (go_at_call 47; with_reducible refine (CB.out _).mono ?_; rintro e w3 ⟨rfl, hb⟩; have V3 := Lib.hid (V2.out.below hb); have B3 := Lib.hid (low_go B2.out hb); clear hb)
      | (go_at_call 49; with_reducible refine (CZ.out _ V3.out).mono ?_; rintro e w4 ⟨rfl, rfl⟩))
    go_ret3
    exact ⟨.inr ⟨NR.out, rfl⟩, B3.out⟩
  have d3 : decide ((60 : Int) < (n3 : Int)) = false := by simp; omega
  have e3 : ¬ (60 : Int) < (n3 : Int) := by omega
  have wm : IntKind.u32.wrap (4 * (n3 : Int)) = 4 * (n3 : Int) := by rw [IntKind.wrap_u32]; omega
  have wa : IntKind.u32.wrap (16 + 4 * (n3 : Int)) = 16 + 4 * (n3 : Int) := by rw [IntKind.wrap_u32]; omega
  have sc := fun W => slice_from w.heap.size (4 + n3) (by omega) (by omega) (16 + 4 * (n3 : Int)) (by omega) W
  have ZF := zero_from (X := X) (k := 4 + n3) (by omega) w.heap.size
  obtain ⟨AA, hAA⟩ : ∃ AA, fromA w.heap.size (4 + n3) = AA := ⟨_, rfl⟩
  obtain ⟨NN, hNN⟩ : ∃ NN, 256 - 4 * (4 + n3) = NN := ⟨_, rfl⟩
  rw [hAA, hNN] at ZF
  simp only [hAA, hNN] at sc
  clear hAA hNN
  by_cases h4 : Tail0 X (4 + n3)
  rotate_left
  · have NR := Lib.hid fun q : IsJR X => h4 (by rw [← hn3]; exact q.rest)
    have CZ := Lib.hid (ZF.2 h4)
    clear h1 h2 h3 h4 ZF
    go_enter Try.func28, Try.ntmps28
    go_upto_region 1 with fail
    generalize w.alloc (.cells (arr X) 28) = w1 at V B ⊢
    go_wp2_with (first
      | (refine load_blk rfl (.tmp 1) rfl w.heap.size 0 rfl X V.out.at ?_)
      | (go_at_call 48; with_reducible refine (C3.out _).mono ?_; rintro e w2 ⟨rfl, hb⟩; have V2 := Lib.hid (V.out.below hb); have B2 := Lib.hid (low_go B.out hb); clear hb)
      | (refine load_blk rfl (.tmp 1) rfl w.heap.size 0 rfl X V2.out.at ?_)
      | (go_at_call 47; with_reducible refine (CB.out _).mono ?_; rintro e w3 ⟨rfl, hb⟩; have V3 := Lib.hid (V2.out.below hb); have B3 := Lib.hid (low_go B2.out hb); clear hb)
      | (go_at_call 49; with_reducible refine (CZ.out _ V3.out).mono ?_; rintro e w4 ⟨rfl, rfl⟩))
    go_ret3
    exact ⟨.inr ⟨NR.out, rfl⟩, B3.out⟩
  have CZ := Lib.hid (ZF.1 h4)
  have IR : Hid (RN X n3 → IsJR X) := Lib.hid fun q => ⟨h1, by rw [hn3]; exact h2, by rw [hn3]; exact h3, by rw [hn3]; exact h4, by rw [hn3]; exact RN_rise.2 q⟩
  have NI : Hid (¬ RN X n3 → ¬ IsJR X) := Lib.hid fun q r => q (by have := r.rise; rw [hn3] at this; exact RN_rise.1 this)
  have L60 := Lib.hid h3
  clear h1 h2 h3 h4 ZF hn3
  obtain ⟨i0, hi0, hzz⟩ := Option.map_eq_some_iff.1 u32_info
  simp only [Prod.mk.injEq] at hzz
  obtain ⟨hz0, hz1, hz2⟩ := hzz
  have HZ0 := Lib.hid hz0
  have HZ1 := Lib.hid hz1
  have HZ2 := Lib.hid hz2
  have HI0 := Lib.hid hi0
  clear hz0 hz1 hz2 hi0
  go_enter Try.func28, Try.ntmps28
  go_upto_region 1 with fail
  generalize w.alloc (.cells (arr X) 28) = w1 at V B ⊢
  go_upto_region 4 with (first
      | (refine load_blk rfl (.tmp 1) rfl w.heap.size 0 rfl X V.out.at ?_)
      | (go_at_call 48; with_reducible refine (C3.out _).mono ?_; rintro e w2 ⟨rfl, hb⟩; have V2 := Lib.hid (V.out.below hb); have B2 := Lib.hid (low_go B.out hb); clear hb)
      | (refine load_blk rfl (.tmp 1) rfl w.heap.size 0 rfl X V2.out.at ?_)
      | (go_at_call 47; with_reducible refine (CB.out _).mono ?_; rintro e w3 ⟨rfl, hb⟩; have V3 := Lib.hid (V2.out.below hb); have B3 := Lib.hid (low_go B2.out hb); clear hb)
      | (go_at_call 49; with_reducible refine (CZ.out _ V3.out).mono ?_; rintro e w4 ⟨rfl, rfl⟩))
  have K : Hid (RR w X (.slice none 0 0) 0 w4) := Lib.hid ⟨V3.out, World.ownsRow_nil _ _ _ _, B3.out⟩
  clear V B CB CZ V2 B2 V3 B3 C3 sc wm wa d2 d3
  go_wp2_with fail
  go_loopw [6, 7] (fun lv iv wr => ∃ (i : Nat) (v : Value), i ≤ n3 ∧ lv = v ∧ iv = .int .i64 i ∧ Hid (RR w X v i wr) ∧ Hid (RN X i)) (fun _ iv _ => n3 - (intOf iv).toNat)
  case atStart => exact ⟨0, _, Nat.zero_le _, rfl, rfl, K, Lib.hid fun j h => by omega⟩
  case round =>
    obtain ⟨i, v, hi, rfl, rfl, K2, RT⟩ := hrel
    clear K
    have n60 := L60.out
    have w64 : IntKind.i64.wrap (n3 : Int) = (n3 : Int) := by rw [IntKind.wrap_i64]; omega
    by_cases hlt : i < n3
    rotate_left
    · obtain rfl : i = n3 := by omega
      have g1 : ¬ (i : Int) < (i : Int) := by omega
      have hR := Lib.hid (IR.out RT.out)
      go_wp2_with (first
        | (refine load_blk rfl (.tmp 1) rfl w.heap.size 0 rfl X K2.out.blk.at ?_)
        | (go_at_call 48; with_reducible refine (C2.out _).mono ?_; rintro e w5 ⟨rfl, hb⟩; have K5 := Lib.hid (K2.out.below hb); clear hb))
      go_ret3
      exact ⟨.inl ⟨hR.out, _, rfl, by rw [N3.out]; exact own_monoJ K5.out.own (by omega)⟩, K5.out.low⟩
    have g1 : (i : Int) < (n3 : Int) := by omega
    have wi : IntKind.i64.wrap (4 * (i : Int)) = 4 * (i : Int) := by rw [IntKind.wrap_i64]; omega
    have wj : IntKind.i64.wrap (16 + 4 * (i : Int)) = 16 + 4 * (i : Int) := by rw [IntKind.wrap_i64]; omega
    have CI : Hid (∀ W, Calls Try.prog 48 #[.agg (arr X), .int .i64 (16 + 4 * (i : Int))] W fun e w' => e = .returned (.int .u32 ((num X (4 + i) : Nat) : Int)) ∧ Below W.heap.size W w') := Lib.hid fun W => by
      have := rNum X (4 + i) W (by omega)
      rwa [show ((4 * (4 + i) : Nat) : Int) = 16 + 4 * (i : Int) by omega] at this
    obtain ⟨x, hx⟩ : ∃ x, num X (4 + i) = x := ⟨_, rfl⟩
    rw [hx] at CI
    go_upto_region 9 with (first
      | (refine load_blk rfl (.tmp 1) rfl w.heap.size 0 rfl X K2.out.blk.at ?_)
      | (go_at_call 48; with_reducible refine (CI.out _).mono ?_; rintro e w5 ⟨rfl, hb⟩; have K5 := Lib.hid (K2.out.below hb); clear hb))
    clear K2 CI wi wj
    have HX := Lib.hid hx
    clear hx
    by_cases i1 : i = 0
    · have d0 : decide ((0 : Int) < (i : Int)) = false := by simp; omega
      have d1 : ¬ (0 : Int) < (i : Int) := by omega
      have RT2 : Hid (RN X (i + 1)) := Lib.hid fun j hj => by omega
      clear i1
      go_wp2_with (first
        | (refine build_nums1 rfl (.tmp 53) rfl x rfl ?_)
        | (at_builtin; refine wpList_append_lies _ rfl (.tmp 52) (.tmp 54) 26 rfl (w.heap.size + 1) 22 i0 _ 1 4 Try.underlying26 HI0.out HZ0.out HZ1.out HZ2.out (by rfl) (by omega) _ i (nC (numsOf X i)) (by rfl) (K5.out.below (below_new _ _)).own ⟨w5.heap.size, 0, none⟩ 1 1 (nC [x]) (by rfl) (by rfl) (World.news_of_block (heap_alloc_new w5 _)) (nC_one _) (by omega) (by simp only [maxLen]; omega) (by omega) (by have := K5.out.low.size; have := K5.out.blk.lt; simp; omega) (w5.heap.size + 1) (by simp) ?_; intro gg cap w8 hown hgrow hat hlt2; have K8 := Lib.hid (K5.out.app _ hown (by rw [numsOf_next, HX.out, nC_append]) hgrow); clear hown hgrow hat hlt2))
      go_roundw
      case rel => exact ⟨i + 1, _, by omega, rfl, by congr 1, K8, RT2⟩
      case measure => simp [intOf]; omega
    obtain ⟨m, hm⟩ : ∃ m, i = m + 1 := ⟨i - 1, by omega⟩
    have d0 : decide ((0 : Int) < (i : Int)) = true := by simp; omega
    have d1 : (0 : Int) < (i : Int) := by omega
    obtain ⟨A, c, hv, _, hn⟩ := own_numsN K5.out.own (numsOf_length X i).symm
    subst hv
    obtain ⟨b, o, rfl, hbl, hc⟩ := hn (by rw [numsOf_length]; omega)
    obtain ⟨u, hu⟩ : ∃ u, num X (4 + m) = u := ⟨_, rfl⟩
    have du := hc m u (by unfold numsOf; rw [List.getElem?_map, List.getElem?_range (by omega), ← hu]; rfl)
    have wk : IntKind.i64.wrap ((i : Int) - 1) = (m : Int) := by rw [IntKind.wrap_i64]; omega
    have m0 : (0 : Int) ≤ (m : Int) := by omega
    have m1 : (m : Int) < (i : Int) := by omega
    by_cases q : x ≤ u
    · have t1 : decide ((x : Int) ≤ (u : Int)) = true := by simp; omega
      have t2 : (x : Int) ≤ (u : Int) := by omega
      have NR : Hid (¬ IsJR X) := Lib.hid (NI.out fun r => by have := r m (by omega); rw [hu, ← hm, HX.out] at this; omega)
      clear hn hc hu i1 q hm hbl
      go_wp2_with fail
      go_ret3
      exact ⟨.inr ⟨NR.out, rfl⟩, K5.out.low⟩
    · have t1 : decide ((x : Int) ≤ (u : Int)) = false := by simp; omega
      have t2 : ¬ (x : Int) ≤ (u : Int) := by omega
      have RT2 : Hid (RN X (i + 1)) := Lib.hid (by
        have := RT.out
        rw [hm] at this ⊢
        exact this.next (by rw [hu, ← hm, HX.out]; omega))
      clear hn hc hu i1 q hm hbl
      go_wp2_with (first
        | (refine build_nums1 rfl (.tmp 53) rfl x rfl ?_)
        | (at_builtin; refine wpList_append_lies _ rfl (.tmp 52) (.tmp 54) 26 rfl (w.heap.size + 1) 22 i0 _ 1 4 Try.underlying26 HI0.out HZ0.out HZ1.out HZ2.out (by rfl) (by omega) _ i (nC (numsOf X i)) (by rfl) (K5.out.below (below_new _ _)).own ⟨w5.heap.size, 0, none⟩ 1 1 (nC [x]) (by rfl) (by rfl) (World.news_of_block (heap_alloc_new w5 _)) (nC_one _) (by omega) (by simp only [maxLen]; omega) (by omega) (by have := K5.out.low.size; have := K5.out.blk.lt; simp; omega) (w5.heap.size + 1) (by simp) ?_; intro gg cap w8 hown hgrow hat hlt2; have K8 := Lib.hid (K5.out.app _ hown (by rw [numsOf_next, HX.out, nC_append]) hgrow); clear hown hgrow hat hlt2))
      go_roundw
      case rel => exact ⟨i + 1, _, by omega, rfl, by congr 1, K8, RT2⟩
      case measure => simp [intOf]; omega
end Go.Proofs.Ytjiooadakklmlaa
