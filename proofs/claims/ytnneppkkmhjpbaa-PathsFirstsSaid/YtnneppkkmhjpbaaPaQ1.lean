import Derived.Test.YtnneppkkmhjpbaaPaS
import Derived.Deep.RegionWith
import Derived.Deep.CutBlock
namespace Go.Proofs.Ytnneppkkmhjpbaa
open Go.RowKit

/-! The document's own: levels, spans, first indices, the way to a block. -/
theorem rLevel (p : Int) (w : World) : Calls Try.prog 17 #[.int .i64 p] w fun e w' => e = .returned (.int .i64 (levelN p)) ∧ w' = w := by
  by_cases h0 : 0 ≤ p
  rotate_left
  · have E := Lib.hid (show levelN p = -1 by unfold levelN; rw [if_neg (by omega), if_neg (by omega)])
    have d0 : decide (0 ≤ p) = false := by simp; omega
    have d8 : decide (8 ≤ p) = false := by simp; omega
    have e8 : ¬ 8 ≤ p := by omega
    go_enter Try.func17, Try.ntmps17
    go_wp2
    go_ret
    exact ⟨by rw [E.out]; rfl, rfl⟩
  have d0 : decide (0 ≤ p) = true := by simp; omega
  by_cases h7 : p ≤ 7
  · have E := Lib.hid (show levelN p = 0 by unfold levelN; rw [if_pos ⟨h0, h7⟩])
    have d7 : decide (p ≤ 7) = true := by simp; omega
    go_enter Try.func17, Try.ntmps17
    go_wp2
    go_ret
    exact ⟨by rw [E.out]; rfl, rfl⟩
  have d7 : decide (p ≤ 7) = false := by simp; omega
  have d8 : decide (8 ≤ p) = true := by simp; omega
  have e8 : 8 ≤ p := by omega
  by_cases h10 : p ≤ 10
  · have E := Lib.hid (show levelN p = p - 7 by unfold levelN; rw [if_neg (by omega), if_pos ⟨by omega, h10⟩])
    have d10 : decide (p ≤ 10) = true := by simp; omega
    have w1 : IntKind.i64.wrap (p - 7) = p - 7 := by rw [IntKind.wrap_i64]; omega
    go_enter Try.func17, Try.ntmps17
    go_wp2
    go_ret
    exact ⟨by rw [E.out]; rfl, rfl⟩
  · have E := Lib.hid (show levelN p = -1 by unfold levelN; rw [if_neg (by omega), if_neg (by omega)])
    have d10 : decide (p ≤ 10) = false := by simp; omega
    go_enter Try.func17, Try.ntmps17
    go_wp2
    go_ret
    exact ⟨by rw [E.out]; rfl, rfl⟩
theorem int_fill4 (a b c d : Int) : Instr.fill (fun i => some (i * 1, 1)) ((Array.range (4 * 1)).map ((Value.int .i64 0).cells[· % (Value.int .i64 0).cells.size]!)) [(0, .int .i64 a), (1, .int .i64 b), (2, .int .i64 c), (3, .int .i64 d)] = some #[.int .i64 a, .int .i64 b, .int .i64 c, .int .i64 d] := by kernel_rfl
theorem build_int4 {ops : Array Oper} {rest : List Oper} {op : Oper} {a : Act} {w : World} {Q : Exit → Act → World → Prop} (hgd : op.guard = none) (y0 y1 y2 y3 : Operand) (ho : op.op = .buildSlice 22 4 #[(0, y0), (1, y1), (2, y2), (3, y3)]) (x0 x1 x2 x3 : Int) (h0 : a.eval y0 = .int .i64 x0) (h1 : a.eval y1 = .int .i64 x1) (h2 : a.eval y2 = .int .i64 x2) (h3 : a.eval y3 = .int .i64 x3)
    (h : wpList Try.prog ops Q rest (a.put op.dst (.slice (some ⟨w.heap.size, 0, none⟩) 4 4)) (w.alloc (.cells (iC [x0, x1, x2, x3]).toArray 3))) : wpList Try.prog ops Q (op :: rest) a w := by
  obtain ⟨i, i1, i2⟩ := Option.map_eq_some_iff.1 int_two
  simp only [Prod.mk.injEq] at i2
  obtain ⟨hz, hs⟩ := i2
  refine wpList_plain hgd fun _ hK => wp_buildSlice 22 3 4 _ ho (iC [x0, x1, x2, x3]).toArray i _ Try.underlying22 i1 hz (by rw [hs]; decide) (by rw [hs]; decide) ?_ (hK _ _ h)
  rw [hs]
  simp only [List.map_toArray, List.map_cons, List.map_nil, h0, h1, h2, h3]
  exact int_fill4 x0 x1 x2 x3
set_option maxRecDepth 100000 in
theorem rSpan (p : Int) (w : World) : Calls Try.prog 19 #[.int .i64 p] w fun e w' => e = .returned (.int .i64 (spanN p)) ∧ Below w.heap.size w w' := by
  have B := Lib.hid (below_newI w (.cells (iC [1, 64, 4096, 262144]).toArray 3))
  have c0 : (w.alloc (.cells (iC [1, 64, 4096, 262144]).toArray 3)).cell? ⟨w.heap.size, 0, none⟩ = some (.int .i64 1) := cell_of_row _ _ 0 _ _ _ (heap_alloc_new w _)
  have c1 : (w.alloc (.cells (iC [1, 64, 4096, 262144]).toArray 3)).cell? ⟨w.heap.size, 1, none⟩ = some (.int .i64 64) := cell_of_row _ _ 1 _ _ _ (heap_alloc_new w _)
  have c2 : (w.alloc (.cells (iC [1, 64, 4096, 262144]).toArray 3)).cell? ⟨w.heap.size, 2, none⟩ = some (.int .i64 4096) := cell_of_row _ _ 2 _ _ _ (heap_alloc_new w _)
  have c3 : (w.alloc (.cells (iC [1, 64, 4096, 262144]).toArray 3)).cell? ⟨w.heap.size, 3, none⟩ = some (.int .i64 262144) := cell_of_row _ _ 3 _ _ _ (heap_alloc_new w _)
  by_cases h0 : 0 ≤ p
  rotate_left
  · have E := Lib.hid (show spanN p = 0 by unfold spanN; rw [if_neg (by omega), if_neg (by omega), if_neg (by omega), if_neg (by omega)])
    have d0 : decide (p < 0) = true := by simp; omega
    have e0 : p < 0 := by omega
    go_enter Try.func19, Try.ntmps19
    go_upto_region 2 with (refine build_int4 rfl (.const (.int .i64 1)) (.const (.int .i64 64)) (.const (.int .i64 4096)) (.const (.int .i64 262144)) rfl 1 64 4096 262144 rfl rfl rfl rfl ?_)
    generalize w.alloc (.cells (iC [1, 64, 4096, 262144]).toArray 3) = w1 at B c0 c1 c2 c3 ⊢
    go_wp2
    go_ret
    exact ⟨by rw [E.out]; rfl, B.out⟩
  by_cases h3 : p ≤ 3
  rotate_left
  · have E := Lib.hid (show spanN p = 0 by unfold spanN; rw [if_neg (by omega), if_neg (by omega), if_neg (by omega), if_neg (by omega)])
    have d0 : decide (p < 0) = false := by simp; omega
    have e0 : ¬ p < 0 := by omega
    have d3 : decide (3 < p) = true := by simp; omega
    have e3 : 3 < p := by omega
    go_enter Try.func19, Try.ntmps19
    go_upto_region 2 with (refine build_int4 rfl (.const (.int .i64 1)) (.const (.int .i64 64)) (.const (.int .i64 4096)) (.const (.int .i64 262144)) rfl 1 64 4096 262144 rfl rfl rfl rfl ?_)
    generalize w.alloc (.cells (iC [1, 64, 4096, 262144]).toArray 3) = w1 at B c0 c1 c2 c3 ⊢
    go_wp2
    go_ret
    exact ⟨by rw [E.out]; rfl, B.out⟩
  rcases (by omega : p = 0 ∨ p = 1 ∨ p = 2 ∨ p = 3) with rfl | rfl | rfl | rfl
  all_goals
    clear h0 h3
    go_enter Try.func19, Try.ntmps19
    go_upto_region 2 with (refine build_int4 rfl (.const (.int .i64 1)) (.const (.int .i64 64)) (.const (.int .i64 4096)) (.const (.int .i64 262144)) rfl 1 64 4096 262144 rfl rfl rfl rfl ?_)
    generalize w.alloc (.cells (iC [1, 64, 4096, 262144]).toArray 3) = w1 at B c0 c1 c2 c3 ⊢
    go_wp2
    go_ret
    exact ⟨rfl, B.out⟩
theorem first_step {k : Int} (h0 : 0 ≤ k) (h1 : k < 10) : firstN k + spanN (levelN k) = firstN (k + 1) ∧ 0 ≤ firstN k ∧ firstN k ≤ 4168 ∧ 0 ≤ spanN (levelN k) ∧ spanN (levelN k) ≤ 262144 := by
  rcases (by omega : k = 0 ∨ k = 1 ∨ k = 2 ∨ k = 3 ∨ k = 4 ∨ k = 5 ∨ k = 6 ∨ k = 7 ∨ k = 8 ∨ k = 9) with rfl | rfl | rfl | rfl | rfl | rfl | rfl | rfl | rfl | rfl <;> decide
set_option maxHeartbeats 2000000 in
theorem rFirst (p : Int) (w : World) : Calls Try.prog 21 #[.int .i64 p] w fun e w' => e = .returned (.int .i64 (firstN p)) ∧ Below w.heap.size w w' := by
  have CL := Lib.hid fun q W => rLevel q W
  have CS := Lib.hid fun q W => rSpan q W
  by_cases h : 0 ≤ p ∧ p ≤ 10
  rotate_left
  · have E := Lib.hid (show firstN p = -1 by unfold firstN; rw [if_neg (by omega), if_neg (by omega), if_neg (by omega)])
    have lv : levelN p = -1 := by unfold levelN; rw [if_neg (by omega), if_neg (by omega)]
    have C1 := Lib.hid (CL.out p w)
    rw [lv] at C1
    clear h
    go_enter Try.func21, Try.ntmps21
    go_wp2_with (go_at_call 17; with_reducible refine (C1.out).mono ?_; rintro e w2 ⟨rfl, rfl⟩)
    go_ret
    exact ⟨by rw [E.out]; rfl, Below.refl _ _⟩
  have lv : decide (levelN p < 0) = false := by
    have : 0 ≤ levelN p := by unfold levelN; split; omega; split <;> omega
    simp; omega
  have lv2 : ¬ levelN p < 0 := by simpa using lv
  obtain ⟨n, rfl⟩ : ∃ n : Nat, p = (n : Int) := ⟨p.toNat, by omega⟩
  have hn : n ≤ 10 := by omega
  clear h
  go_enter Try.func21, Try.ntmps21
  go_upto_region 4 with (go_at_call 17; with_reducible refine (CL.out _ _).mono ?_; rintro e w2 ⟨rfl, rfl⟩)
  go_wp2_with fail
  go_loopw [3, 4] (fun av kv wr => ∃ k : Nat, k ≤ n ∧ kv = .int .i64 k ∧ av = .int .i64 (firstN k) ∧ Hid (Below w2.heap.size w2 wr)) (fun _ kv _ => n - (intOf kv).toNat)
  case atStart => exact ⟨0, Nat.zero_le _, rfl, rfl, Lib.hid (Below.refl _ _)⟩
  case round =>
    obtain ⟨k, hk, rfl, rfl, B2⟩ := hrel
    by_cases hlt : k < n
    · have kl : (k : Int) < (n : Int) := by omega
      obtain ⟨f1, f2, f3, f4, f5⟩ := first_step (k := (k : Int)) (by omega) (by omega)
      have wa : IntKind.i64.wrap (firstN (k : Int) + spanN (levelN (k : Int))) = firstN ((k : Int) + 1) := by rw [f1, IntKind.wrap_i64]; have := @firstN_le ((k : Int) + 1); omega
      have wk : IntKind.i64.wrap ((k : Int) + 1) = (k : Int) + 1 := by rw [IntKind.wrap_i64]; omega
      clear f1 f2 f3 f4 f5
      go_wp2_with (first
        | (go_at_call 17; with_reducible refine (CL.out _ _).mono ?_; rintro e w3 ⟨rfl, rfl⟩)
        | (go_at_call 19; with_reducible refine (CS.out _ _).mono ?_; rintro e w4 ⟨rfl, hb⟩; have B4 := Lib.hid (low_go B2.out hb); clear hb))
      go_roundw
      case rel => exact ⟨k + 1, by omega, by congr 1, by congr 1, B4⟩
      case measure => simp [intOf]; omega
    · obtain rfl : k = n := by omega
      have kl : ¬ (k : Int) < (k : Int) := by omega
      go_wp2_with fail
      go_ret
      exact ⟨rfl, B2.out⟩
set_option maxHeartbeats 2000000 in
theorem rOf (i : Int) (w : World) : Calls Try.prog 13 #[.int .i64 i] w fun e w' => OfR i w.heap.size e w' ∧ Below w.heap.size w w' := by
  by_cases h0 : 0 ≤ i
  rotate_left
  · have E := ofN_no (i := i) fun q => h0 q.lo
    unfold OfR
    rw [E]
    have d0 : decide (i < 0) = true := by simp; omega
    have e0 : i < 0 := by omega
    clear h0 E
    go_enter Try.func13, Try.ntmps13
    go_wp2
    go_ret3
    exact ⟨⟨_, rfl, World.ownsRow_nil _ _ _ _⟩, Below.refl _ _⟩
  have d0 : decide (i < 0) = false := by simp; omega
  have e0 : ¬ i < 0 := by omega
  by_cases h1 : i < 65536
  rotate_left
  · have E := ofN_no (i := i) fun q => h1 q.hi
    unfold OfR
    rw [E]
    have d1 : decide (65536 ≤ i) = true := by simp; omega
    have e1 : 65536 ≤ i := by omega
    clear h0 h1 E
    go_enter Try.func13, Try.ntmps13
    go_wp2
    go_ret3
    exact ⟨⟨_, rfl, World.ownsRow_nil _ _ _ _⟩, Below.refl _ _⟩
  have d1 : decide (65536 ≤ i) = false := by simp; omega
  have e1 : ¬ 65536 ≤ i := by omega
  have E := ofN_yes (i := i) ⟨h0, h1⟩
  unfold OfR
  rw [E]
  clear E
  rcases way_cases ⟨h0, h1⟩ with ⟨h1, h2, e⟩ | ⟨h1, h2, e⟩ | ⟨h1, h2, e⟩ | ⟨h1, h2, e⟩ <;> rw [e] <;> clear e
  · have d8 : decide (i < 8) = true := by simp; omega
    go_enter Try.func13, Try.ntmps13
    go_wp2
    go_ret3
    exact ⟨⟨_, rfl, World.ownsRow_nil _ _ _ _⟩, Below.refl _ _⟩
  · have d8 : decide (i < 8) = false := by simp; omega
    have e8 : ¬ i < 8 := by omega
    have d72 : decide (i < 72) = true := by simp; omega
    have w1 : IntKind.i64.wrap (i - 8) = i - 8 := by rw [IntKind.wrap_i64]; omega
    have R := Lib.hid (own_lit w (Nat.le_refl _) [i - 8] (by simp))
    have B := Lib.hid (below_newI w (.cells (iC [i - 8]).toArray 3))
    go_enter Try.func13, Try.ntmps13
    go_wp2_with (refine build_int1 rfl (.tmp 22) rfl (i - 8) rfl ?_)
    go_ret3
    exact ⟨⟨_, rfl, R.out⟩, B.out⟩
  · have d8 : decide (i < 8) = false := by simp; omega
    have e8 : ¬ i < 8 := by omega
    have d72 : decide (i < 72) = false := by simp; omega
    have e72 : ¬ i < 72 := by omega
    have d4 : decide (i < 4168) = true := by simp; omega
    have w1 : IntKind.i64.wrap (i - 72) = i - 72 := by rw [IntKind.wrap_i64]; omega
    have q1 : Int.tdiv (i - 72) 64 = (i - 72) / 64 := Int.tdiv_eq_ediv_of_nonneg (by omega)
    have q2 : Int.tmod (i - 72) 64 = (i - 72) % 64 := Int.tmod_eq_emod_of_nonneg (by omega)
    have R := Lib.hid (own_lit w (Nat.le_refl _) [(i - 72) / 64, (i - 72) % 64] (by simp))
    have B := Lib.hid (below_newI w (.cells (iC [(i - 72) / 64, (i - 72) % 64]).toArray 3))
    have w2 : IntKind.i64.wrap ((i - 72) / 64) = (i - 72) / 64 := by rw [IntKind.wrap_i64]; omega
    have w3 : IntKind.i64.wrap ((i - 72) % 64) = (i - 72) % 64 := by rw [IntKind.wrap_i64]; omega
    go_enter Try.func13, Try.ntmps13
    go_wp2_with (refine build_int2 rfl (.tmp 30) (.tmp 32) rfl ((i - 72) / 64) ((i - 72) % 64) rfl rfl ?_)
    go_ret3
    exact ⟨⟨_, rfl, R.out⟩, B.out⟩
  · have d8 : decide (i < 8) = false := by simp; omega
    have e8 : ¬ i < 8 := by omega
    have d72 : decide (i < 72) = false := by simp; omega
    have e72 : ¬ i < 72 := by omega
    have d4 : decide (i < 4168) = false := by simp; omega
    have e4 : ¬ i < 4168 := by omega
    have w1 : IntKind.i64.wrap (i - 4168) = i - 4168 := by rw [IntKind.wrap_i64]; omega
    have q1 : Int.tdiv (i - 4168) 4096 = (i - 4168) / 4096 := Int.tdiv_eq_ediv_of_nonneg (by omega)
    have q2 : Int.tdiv (i - 4168) 64 = (i - 4168) / 64 := Int.tdiv_eq_ediv_of_nonneg (by omega)
    have q3 : Int.tmod ((i - 4168) / 64) 64 = (i - 4168) / 64 % 64 := Int.tmod_eq_emod_of_nonneg (by omega)
    have q4 : Int.tmod (i - 4168) 64 = (i - 4168) % 64 := Int.tmod_eq_emod_of_nonneg (by omega)
    have R := Lib.hid (own_lit w (Nat.le_refl _) [(i - 4168) / 4096, (i - 4168) / 64 % 64, (i - 4168) % 64] (by simp))
    have B := Lib.hid (below_newI w (.cells (iC [(i - 4168) / 4096, (i - 4168) / 64 % 64, (i - 4168) % 64]).toArray 3))
    have w2 : IntKind.i64.wrap ((i - 4168) / 4096) = (i - 4168) / 4096 := by rw [IntKind.wrap_i64]; omega
    have w3 : IntKind.i64.wrap ((i - 4168) / 64) = (i - 4168) / 64 := by rw [IntKind.wrap_i64]; omega
    have w4 : IntKind.i64.wrap ((i - 4168) / 64 % 64) = (i - 4168) / 64 % 64 := by rw [IntKind.wrap_i64]; omega
    have w5 : IntKind.i64.wrap ((i - 4168) % 64) = (i - 4168) % 64 := by rw [IntKind.wrap_i64]; omega
    go_enter Try.func13, Try.ntmps13
    go_wp2_with (refine build_int3 rfl (.tmp 37) (.tmp 40) (.tmp 42) rfl ((i - 4168) / 4096) ((i - 4168) / 64 % 64) ((i - 4168) % 64) rfl rfl rfl ?_)
    go_ret3
    exact ⟨⟨_, rfl, R.out⟩, B.out⟩
end Go.Proofs.Ytnneppkkmhjpbaa
