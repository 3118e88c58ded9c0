import Derived.Test.YtnneppkkmhjpbaaPaP6
namespace Go.Proofs.Ytnneppkkmhjpbaa
open Go.RowKit Go.Shelf Go.BigFrame

/-! Next. -/
theorem pOf_yes {i : Int} (h : MayI i) (w : World) : Calls Try.prog 14 #[.int .i64 i] w fun e w' => (∃ A c, e = .returned (.tuple #[.int .i64 (wayN i).1, .slice A (wayN i).2.length c, .int .i64 0]) ∧ IntsAt w' A (wayN i).2) ∧ Below w.heap.size w w' := (pOf i w).mono fun e w' q => by
  obtain ⟨v, he, ho⟩ := q.1
  rw [ofN_yes h] at he ho
  obtain ⟨A, c, rfl, _, hA⟩ := own_ints ho rfl
  exact ⟨⟨A, c, he, hA⟩, q.2⟩
theorem pOf_no {i : Int} (h : ¬ MayI i) (w : World) : Calls Try.prog 14 #[.int .i64 i] w fun e w' => (∃ A c, e = .returned (.tuple #[.int .i64 0, .slice A 0 c, .int .i64 100])) ∧ Below w.heap.size w w' := (pOf i w).mono fun e w' q => by
  obtain ⟨v, he, ho⟩ := q.1
  rw [ofN_no h] at he ho
  obtain ⟨A, c, rfl, _, _⟩ := own_ints ho rfl
  exact ⟨⟨A, c, he⟩, q.2⟩
/-- Behind an index of a level: the last number of the way. -/
theorem next_deep {i : Int} (h : MayI i) (h8 : 8 ≤ i) : ∃ x, 0 < (wayN i).2.length ∧ (wayN i).2[(wayN i).2.length - 1]? = some x ∧ levelN (wayN i).1 = (wayN i).2.length ∧ (wayN i).2.length ≤ 3 ∧ 0 ≤ x ∧ x ≤ 63 ∧ nextN i = min (i - x + 64) 65536 := by
  have := h.hi
  rcases way_cases h with ⟨h1, h2, e⟩ | ⟨h1, h2, e⟩ | ⟨h1, h2, e⟩ | ⟨h1, h2, e⟩
  · omega
  · rw [e]
    refine ⟨_, by show 0 < 1; omega, rfl, rfl, by show 1 ≤ 3; omega, by omega, by omega, ?_⟩
    unfold nextN
    rw [if_neg (by omega), if_neg (by omega), if_neg (by omega), if_pos h2]
    omega
  · rw [e]
    refine ⟨_, by show 0 < 2; omega, rfl, rfl, by show 2 ≤ 3; omega, by omega, by omega, ?_⟩
    unfold nextN
    rw [if_neg (by omega), if_neg (by omega), if_neg (by omega), if_neg (by omega), if_pos h2]
    omega
  · rw [e]
    refine ⟨_, by show 0 < 3; omega, rfl, rfl, by show 3 ≤ 3; omega, by omega, by omega, ?_⟩
    unfold nextN
    rw [if_neg (by omega), if_neg (by omega), if_neg (by omega), if_neg (by omega), if_neg (by omega)]
    omega
set_option maxRecDepth 100000 in
set_option maxHeartbeats 1000000 in
theorem pNext (i : Int) (w : World) : Calls Try.prog 22 #[.int .i64 i] w fun e w' => e = .returned (.int .i64 (nextN i)) ∧ Below w.heap.size w w' := by
  by_cases h0 : 0 ≤ i
  rotate_left
  · have d0 : decide (i < 0) = true := by simp; omega
    have E := Lib.hid (show nextN i = 0 from if_pos (by omega))
    go_enter Try.func22, Try.ntmps22
    go_wp2
    go_ret
    exact ⟨by rw [E.out]; rfl, Below.refl _ _⟩
  have d0 : decide (i < 0) = false := by simp; omega
  by_cases hi : i < 65536
  rotate_left
  · have C : Hid (∀ W, Calls Try.prog 14 #[.int .i64 i] W fun e w' => (∃ A c, e = .returned (.tuple #[.int .i64 0, .slice A 0 c, .int .i64 100])) ∧ Below W.heap.size W w') := Lib.hid fun W => pOf_no (fun q => hi q.hi) W
    have E := Lib.hid (show nextN i = 65536 by unfold nextN; rw [if_neg (by omega), if_pos (by omega)])
    clear h0 hi
    go_enter Try.func22, Try.ntmps22
    go_wp2_with (go_at_call 14; with_reducible refine (C.out _).mono ?_; rintro e w2 ⟨⟨A, c, rfl⟩, hb⟩)
    go_ret
    exact ⟨by rw [E.out]; rfl, hb⟩
  have hm : MayI i := ⟨h0, hi⟩
  have C : Hid (∀ W, Calls Try.prog 14 #[.int .i64 i] W fun e w' => (∃ A c, e = .returned (.tuple #[.int .i64 (wayN i).1, .slice A (wayN i).2.length c, .int .i64 0]) ∧ IntsAt w' A (wayN i).2) ∧ Below W.heap.size W w') := Lib.hid fun W => pOf_yes hm W
  have CL := Lib.hid fun p W => pLevel p W
  by_cases h8 : 8 ≤ i
  rotate_left
  · have E := Lib.hid (show nextN i = i + 1 by unfold nextN; rw [if_neg (by omega), if_neg (by omega), if_pos (by omega)])
    have CL0 : Hid (∀ W, Calls Try.prog 16 #[.int .i64 i] W fun e w' => e = .returned (.int .i64 0) ∧ Below W.heap.size W w') := Lib.hid fun W => by
      have := CL.out i W
      rwa [show levelN i = 0 by unfold levelN; rw [if_pos (by omega)]] at this
    rw [way_0 (by omega)] at C
    clear hm CL
    go_enter Try.func22, Try.ntmps22
    go_wp2_with (first
      | (go_at_call 14; with_reducible refine (C.out _).mono ?_; rintro e w2 ⟨⟨A, c, rfl, hA⟩, hb⟩; have B2 := Lib.hid hb; clear hb hA)
      | (go_at_call 16; with_reducible refine (CL0.out _).mono ?_; rintro e w3 ⟨rfl, hb⟩; replace B2 := Lib.hid (low_go B2.out hb); clear hb))
    go_ret
    exact ⟨by rw [E.out]; rfl, B2.out⟩
  · obtain ⟨x, x1, x2, x3, x4, x5, x6, x7⟩ := next_deep hm h8
    have CL0 : Hid (∀ W, Calls Try.prog 16 #[.int .i64 (wayN i).1] W fun e w' => e = .returned (.int .i64 (wayN i).2.length) ∧ Below W.heap.size W w') := Lib.hid fun W => by
      have := CL.out (wayN i).1 W
      rwa [x3] at this
    have E := Lib.hid x7
    clear hm CL x3 x7
    generalize (wayN i).1 = p at C CL0
    generalize (wayN i).2 = l at C CL0 x1 x2 x4
    have t0 : ((l.length : Int) == 0) = false := by rw [beq_eq_false_iff_ne]; omega
    have H2 := Lib.hid x2
    clear x2
    go_enter Try.func22, Try.ntmps22
    go_upto_region 8 with (first
      | (go_at_call 14; with_reducible refine (C.out _).mono ?_; rintro e w2 ⟨⟨A, c, rfl, hA⟩, hb⟩; have B2 := Lib.hid hb; have HA := Lib.hid hA; clear hb hA)
      | (go_at_call 16; with_reducible refine (CL0.out _).mono ?_; rintro e w3 ⟨rfl, hb⟩; replace B2 := Lib.hid (low_go B2.out hb); replace HA := Lib.hid (HA.out.below hb); clear hb))
    obtain ⟨b, o, rfl, hbl, hc⟩ := HA.out x1
    have dx := hc _ _ H2.out
    have et : ((l.length : Int) - 1).toNat = l.length - 1 := by omega
    have k0 : 0 ≤ (l.length : Int) - 1 := by omega
    have kl : (l.length : Int) - 1 < l.length := by omega
    clear hc C CL0 et
    go_wp2
    · go_ret
      exact ⟨by rw [E.out, Int.min_eq_right (by omega)]; rfl, B2.out⟩
    · go_ret
      exact ⟨by rw [E.out, Int.min_eq_left h]; rfl, B2.out⟩
end Go.Proofs.Ytnneppkkmhjpbaa
