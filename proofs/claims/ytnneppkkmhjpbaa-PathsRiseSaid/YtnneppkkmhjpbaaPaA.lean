import Derived.Test.YtnneppkkmhjpbaaPaQ4
namespace Go.Proofs.Ytnneppkkmhjpbaa
open Go.RowKit

/-! What the program's own paths must answer: a contract. -/
structure PaSays : Prop where
  level : ∀ (p : Int) (w : World), I64 p → Calls Try.prog 16 #[.int .i64 p] w fun e w' => e = .returned (.int .i64 (levelN p)) ∧ Below w.heap.size w w'
  span : ∀ (p : Int) (w : World), I64 p → Calls Try.prog 18 #[.int .i64 p] w fun e w' => e = .returned (.int .i64 (spanN p)) ∧ Below w.heap.size w w'
  first : ∀ (p : Int) (w : World), I64 p → Calls Try.prog 20 #[.int .i64 p] w fun e w' => e = .returned (.int .i64 (firstN p)) ∧ Below w.heap.size w w'
  of : ∀ (i : Int) (w : World), I64 i → Calls Try.prog 14 #[.int .i64 i] w fun e w' => OfR i w.heap.size e w' ∧ Below w.heap.size w w'
  index : ∀ (p : Int) (A : Option Addr) (c : Nat) (l : List Int) (w : World), I64 p → l.length ≤ 1000 → (∀ x ∈ l, I64 x) → IntsAt w A l → Calls Try.prog 26 #[.int .i64 p, .slice A l.length c] w fun e w' => e = .returned (.tuple #[.int .i64 (indexN p l).1, .int .i64 (indexN p l).2]) ∧ Below w.heap.size w w'
  next : ∀ (i : Int) (w : World), I64 i → Calls Try.prog 22 #[.int .i64 i] w fun e w' => e = .returned (.int .i64 (nextN i)) ∧ Below w.heap.size w w'
  indirect : ∀ (n : Int) (w : World), I64 n → Calls Try.prog 24 #[.int .i64 n] w fun e w' => e = .returned (.int .i64 (indirN n)) ∧ Below w.heap.size w w'
theorem pa_of_yes (hS : PaSays) {i : Int} (h : MayI i) (w : World) : Calls Try.prog 14 #[.int .i64 i] w fun e w' => (∃ A c, e = .returned (.tuple #[.int .i64 (wayN i).1, .slice A (wayN i).2.length c, .int .i64 0]) ∧ IntsAt w' A (wayN i).2) ∧ Below w.heap.size w w' := (hS.of i w ⟨by have := h.lo; omega, by have := h.hi; omega⟩).mono fun e w' q => by
  obtain ⟨v, he, ho⟩ := q.1
  rw [ofN_yes h] at he ho
  obtain ⟨A, c, rfl, _, hA⟩ := own_ints ho rfl
  exact ⟨⟨A, c, he, hA⟩, q.2⟩
theorem pa_of_no (hS : PaSays) {i : Int} (h : ¬ MayI i) (hi : I64 i) (w : World) : Calls Try.prog 14 #[.int .i64 i] w fun e w' => (∃ A c, e = .returned (.tuple #[.int .i64 0, .slice A 0 c, .int .i64 100])) ∧ Below w.heap.size w w' := (hS.of i w hi).mono fun e w' q => by
  obtain ⟨v, he, ho⟩ := q.1
  rw [ofN_no h] at he ho
  obtain ⟨A, c, rfl, _, _⟩ := own_ints ho rfl
  exact ⟨⟨A, c, he⟩, q.2⟩
section
variable {ops : Array Oper} {rest : List Oper} {op : Oper} {a : Act} {w : World} {Q : Exit → Act → World → Prop}
/-- A literal list, where the guard stands true. -/
theorem build_int3_h (y0 y1 y2 : Operand) (ho : op.op = .buildSlice 22 3 #[(0, y0), (1, y1), (2, y2)]) (x0 x1 x2 : Int) (h0 : a.eval y0 = .int .i64 x0) (h1 : a.eval y1 = .int .i64 x1) (h2 : a.eval y2 = .int .i64 x2) (hw : Region.wanted op (yielded ops a.tmps) = true)
    (h : ∀ w', Below w.heap.size w w' → IntsAt w' (some ⟨w.heap.size, 0, none⟩) [x0, x1, x2] → wpList Try.prog ops Q rest (a.put op.dst (.slice (some ⟨w.heap.size, 0, none⟩) 3 3)) w') : wpList Try.prog ops Q (op :: rest) a w := by
  obtain ⟨i, i1, i2⟩ := Option.map_eq_some_iff.1 int_two
  simp only [Prod.mk.injEq] at i2
  obtain ⟨hz, hs⟩ := i2
  have hk := h (w.alloc (.cells (iC [x0, x1, x2]).toArray 3)) (below_newI w _) (by
    obtain ⟨A, c, e, _, hA⟩ := own_ints (own_lit w (Nat.le_refl _) [x0, x1, x2] (by simp)) rfl
    injection e with e
    rw [e]; exact hA)
  refine BigFrame.wpList_want hw fun _ hK => wp_buildSlice 22 3 3 _ ho (iC [x0, x1, x2]).toArray i _ Try.underlying22 i1 hz (by rw [hs]; decide) (by rw [hs]; decide) ?_ (hK _ _ hk)
  rw [hs]
  simp only [List.map_toArray, List.map_cons, List.map_nil, h0, h1, h2]
  exact int_fill3 x0 x1 x2
theorem build_int2_h (y0 y1 : Operand) (ho : op.op = .buildSlice 22 2 #[(0, y0), (1, y1)]) (x0 x1 : Int) (h0 : a.eval y0 = .int .i64 x0) (h1 : a.eval y1 = .int .i64 x1) (hw : Region.wanted op (yielded ops a.tmps) = true)
    (h : ∀ w', Below w.heap.size w w' → IntsAt w' (some ⟨w.heap.size, 0, none⟩) [x0, x1] → wpList Try.prog ops Q rest (a.put op.dst (.slice (some ⟨w.heap.size, 0, none⟩) 2 2)) w') : wpList Try.prog ops Q (op :: rest) a w := by
  obtain ⟨i, i1, i2⟩ := Option.map_eq_some_iff.1 int_two
  simp only [Prod.mk.injEq] at i2
  obtain ⟨hz, hs⟩ := i2
  have hk := h (w.alloc (.cells (iC [x0, x1]).toArray 3)) (below_newI w _) (by
    obtain ⟨A, c, e, _, hA⟩ := own_ints (own_lit w (Nat.le_refl _) [x0, x1] (by simp)) rfl
    injection e with e
    rw [e]; exact hA)
  refine BigFrame.wpList_want hw fun _ hK => wp_buildSlice 22 3 2 _ ho (iC [x0, x1]).toArray i _ Try.underlying22 i1 hz (by rw [hs]; decide) (by rw [hs]; decide) ?_ (hK _ _ hk)
  rw [hs]
  simp only [List.map_toArray, List.map_cons, List.map_nil, h0, h1]
  exact int_fill2 x0 x1
end
set_option maxRecDepth 100000 in
set_option maxHeartbeats 8000000 in
theorem paAwake (hS : PaSays) (w : World) : Calls Try.prog 28 #[] w fun e w' => e = .returned (.bool true) ∧ Below w.heap.size w w' := by
  have O1 : Hid (∀ W, Calls Try.prog 14 #[.int .i64 4168] W fun e w' => (∃ A c, e = .returned (.tuple #[.int .i64 10, .slice A 3 c, .int .i64 0]) ∧ IntsAt w' A [0, 0, 0]) ∧ Below W.heap.size W w') := Lib.hid fun W => pa_of_yes hS (i := 4168) ⟨by decide, by decide⟩ W
  have O2 : Hid (∀ W, Calls Try.prog 14 #[.int .i64 65535] W fun e w' => (∃ A c, e = .returned (.tuple #[.int .i64 10, .slice A 3 c, .int .i64 0]) ∧ IntsAt w' A [14, 62, 55]) ∧ Below W.heap.size W w') := Lib.hid fun W => pa_of_yes hS (i := 65535) ⟨by decide, by decide⟩ W
  have X1 : Hid (∀ A W, IntsAt W A [1, 2] → Calls Try.prog 26 #[.int .i64 9, .slice A 2 2] W fun e w' => e = .returned (.tuple #[.int .i64 138, .int .i64 0]) ∧ Below W.heap.size W w') := Lib.hid fun A W h => by
    have := hS.index 9 A 2 [1, 2] W ⟨by decide, by decide⟩ (by decide) (fun x hx => by simp at hx; unfold I64; omega) h
    rwa [indexN_yes ⟨by decide, by decide, rfl, fun x hx => by simp at hx; omega, by decide⟩] at this
  have X2 : Hid (∀ A W, IntsAt W A [63, 63, 63] → Calls Try.prog 26 #[.int .i64 10, .slice A 3 3] W fun e w' => e = .returned (.tuple #[.int .i64 0, .int .i64 100]) ∧ Below W.heap.size W w') := Lib.hid fun A W h => by
    have := hS.index 10 A 3 [63, 63, 63] W ⟨by decide, by decide⟩ (by decide) (fun x hx => by simp at hx; unfold I64; omega) h
    rwa [indexN_no fun q => absurd q.all (by decide)] at this
  have S1 : Hid (∀ A B c W, IntsAt W A [0, 0, 0] → IntsAt W B [0, 0, 0] → Calls Try.prog 15 #[.slice A 3 c, .slice B 3 3] W fun e w' => e = .returned (.bool true) ∧ Below W.heap.size W w') := Lib.hid fun A B c W p q => by
    have := rSame A B c 3 [0, 0, 0] [0, 0, 0] W (by decide) p q
    rwa [decide_eq_true rfl] at this
  have S2 : Hid (∀ A B c W, IntsAt W A [14, 62, 55] → IntsAt W B [14, 62, 55] → Calls Try.prog 15 #[.slice A 3 c, .slice B 3 3] W fun e w' => e = .returned (.bool true) ∧ Below W.heap.size W w') := Lib.hid fun A B c W p q => by
    have := rSame A B c 3 [14, 62, 55] [14, 62, 55] W (by decide) p q
    rwa [decide_eq_true rfl] at this
  have N1 : Hid (∀ W, Calls Try.prog 22 #[.int .i64 71] W fun e w' => e = .returned (.int .i64 72) ∧ Below W.heap.size W w') := Lib.hid fun W => hS.next 71 W ⟨by decide, by decide⟩
  have I1 : Hid (∀ W, Calls Try.prog 24 #[.int .i64 73] W fun e w' => e = .returned (.int .i64 3) ∧ Below W.heap.size W w') := Lib.hid fun W => hS.indirect 73 W ⟨by decide, by decide⟩
  have L1 : Hid (∀ W, Calls Try.prog 16 #[.int .i64 8] W fun e w' => e = .returned (.int .i64 1) ∧ Below W.heap.size W w') := Lib.hid fun W => hS.level 8 W ⟨by decide, by decide⟩
  have P1 : Hid (∀ W, Calls Try.prog 18 #[.int .i64 2] W fun e w' => e = .returned (.int .i64 4096) ∧ Below W.heap.size W w') := Lib.hid fun W => hS.span 2 W ⟨by decide, by decide⟩
  have F1 : Hid (∀ W, Calls Try.prog 20 #[.int .i64 10] W fun e w' => e = .returned (.int .i64 4168) ∧ Below W.heap.size W w') := Lib.hid fun W => hS.first 10 W ⟨by decide, by decide⟩
  clear hS
  go_enter Try.func28, Try.ntmps28
  go_upto_region 3 with (first
    | (go_at_call 14; with_reducible refine (O1.out _).mono ?_; rintro e w1 ⟨⟨A1, c1, rfl, h1⟩, hb⟩; have B1 := Lib.hid hb; have H1 := Lib.hid h1; clear hb h1)
    | (go_at_call 14; with_reducible refine (O2.out _).mono ?_; rintro e w2 ⟨⟨A2, c2, rfl, h2⟩, hb⟩; replace B1 := Lib.hid (low_go B1.out hb); replace H1 := Lib.hid (H1.out.below hb); have H2 := Lib.hid h2; clear hb h2))
  go_upto_region 4 with (first
    | (refine build_int2_h (.const (.int .i64 1)) (.const (.int .i64 2)) rfl 1 2 rfl rfl rfl ?_; intro w3 hb h3; replace B1 := Lib.hid (low_go B1.out hb); replace H1 := Lib.hid (H1.out.below hb); replace H2 := Lib.hid (H2.out.below hb); have H3 := Lib.hid h3; clear hb h3)
    | (go_at_call 26; with_reducible refine (X1.out _ _ H3.out).mono ?_; rintro e w4 ⟨rfl, hb⟩; replace B1 := Lib.hid (low_go B1.out hb); replace H1 := Lib.hid (H1.out.below hb); replace H2 := Lib.hid (H2.out.below hb); clear hb H3))
  go_upto_region 5 with (first
    | (refine build_int3_h (.const (.int .i64 63)) (.const (.int .i64 63)) (.const (.int .i64 63)) rfl 63 63 63 rfl rfl rfl rfl ?_; intro w5 hb h3; replace B1 := Lib.hid (low_go B1.out hb); replace H1 := Lib.hid (H1.out.below hb); replace H2 := Lib.hid (H2.out.below hb); have H4 := Lib.hid h3; clear hb h3)
    | (go_at_call 26; with_reducible refine (X2.out _ _ H4.out).mono ?_; rintro e w6 ⟨rfl, hb⟩; replace B1 := Lib.hid (low_go B1.out hb); replace H1 := Lib.hid (H1.out.below hb); replace H2 := Lib.hid (H2.out.below hb); clear hb H4))
  clear O1 O2 X1 X2
  go_wp2_with (first
    | (refine build_int3_h (.const (.int .i64 0)) (.const (.int .i64 0)) (.const (.int .i64 0)) rfl 0 0 0 rfl rfl rfl rfl ?_; intro w7 hb h3; replace B1 := Lib.hid (low_go B1.out hb); replace H1 := Lib.hid (H1.out.below hb); replace H2 := Lib.hid (H2.out.below hb); have H5 := Lib.hid h3; clear hb h3)
    | (go_at_call 15; with_reducible refine (S1.out _ _ _ _ H1.out H5.out).mono ?_; rintro e w8 ⟨rfl, hb⟩; replace B1 := Lib.hid (low_go B1.out hb); replace H2 := Lib.hid (H2.out.below hb); clear hb H5 H1)
    | (refine build_int3_h (.const (.int .i64 14)) (.const (.int .i64 62)) (.const (.int .i64 55)) rfl 14 62 55 rfl rfl rfl rfl ?_; intro w9 hb h3; replace B1 := Lib.hid (low_go B1.out hb); replace H2 := Lib.hid (H2.out.below hb); have H6 := Lib.hid h3; clear hb h3)
    | (go_at_call 15; with_reducible refine (S2.out _ _ _ _ H2.out H6.out).mono ?_; rintro e wa ⟨rfl, hb⟩; replace B1 := Lib.hid (low_go B1.out hb); clear hb H6 H2)
    | (go_at_call 22; with_reducible refine (N1.out _).mono ?_; rintro e wb ⟨rfl, hb⟩; replace B1 := Lib.hid (low_go B1.out hb); clear hb)
    | (go_at_call 24; with_reducible refine (I1.out _).mono ?_; rintro e wc ⟨rfl, hb⟩; replace B1 := Lib.hid (low_go B1.out hb); clear hb)
    | (go_at_call 16; with_reducible refine (L1.out _).mono ?_; rintro e wd ⟨rfl, hb⟩; replace B1 := Lib.hid (low_go B1.out hb); clear hb)
    | (go_at_call 18; with_reducible refine (P1.out _).mono ?_; rintro e we ⟨rfl, hb⟩; replace B1 := Lib.hid (low_go B1.out hb); clear hb)
    | (go_at_call 20; with_reducible refine (F1.out _).mono ?_; rintro e wf ⟨rfl, hb⟩; replace B1 := Lib.hid (low_go B1.out hb); clear hb))
  go_ret
  exact ⟨rfl, B1.out⟩
end Go.Proofs.Ytnneppkkmhjpbaa
