import Derived.Test.YtnneppkkmhjpbaaPaL1
namespace Go.Proofs.Ytnneppkkmhjpbaa
open Go.RowKit

/-! PathsCount. -/
set_option maxRecDepth 100000 in
set_option maxHeartbeats 4000000 in
theorem paCount (hS : PaSays) (n : Int) (w : World) (hn : I64 n) : Calls Try.prog 8 #[.int .i64 n] w fun e w' => e = .returned (.bool true) ∧ Below w.heap.size w w' := by
  have CA := Lib.hid fun W => paAwake hS W
  have C1 := Lib.hid fun W => hS.indirect n W hn
  by_cases h0 : 0 ≤ n
  rotate_left
  · have C0 : Hid (∀ W, Calls Try.prog 24 #[.int .i64 0] W fun e w' => e = .returned (.int .i64 0) ∧ Below W.heap.size W w') := Lib.hid fun W => hS.indirect 0 W ⟨by decide, by decide⟩
    rw [indir_0 (by omega : n ≤ 8)] at C1
    have d0 : decide (n < 0) = true := by simp; omega
    have e0 : n < 0 := by omega
    have m0 : max n 0 = 0 := by omega
    have m1 : min (0 : Int) 65536 = 0 := by decide
    clear hn h0 hS
    go_enter Try.func8, Try.ntmps8
    go_wp2_with (first
      | (go_at_call 28; with_reducible refine (CA.out _).mono ?_; rintro e w2 ⟨rfl, hb⟩; have B := Lib.hid hb; clear hb)
      | (go_at_call 24; with_reducible refine (C1.out _).mono ?_; rintro e w3 ⟨rfl, hb⟩; replace B := Lib.hid (low_go B.out hb); clear hb)
      | (go_at_call 24; with_reducible refine (C0.out _).mono ?_; rintro e w4 ⟨rfl, hb⟩; replace B := Lib.hid (low_go B.out hb); clear hb))
    all_goals go_ret
    all_goals exact ⟨rfl, B.out⟩
  have d0 : decide (n < 0) = false := by simp; omega
  have e0 : ¬ n < 0 := by omega
  by_cases h1 : n < 65536
  rotate_left
  · have C0 : Hid (∀ W, Calls Try.prog 24 #[.int .i64 65536] W fun e w' => e = .returned (.int .i64 (indirN 65536)) ∧ Below W.heap.size W w') := Lib.hid fun W => hS.indirect 65536 W ⟨by decide, by decide⟩
    rw [indir_far (by omega : 65536 ≤ n)] at C1
    generalize indirN 65536 = z at *
    have d1 : decide (65536 ≤ n) = true := by simp; omega
    have e1 : 65536 ≤ n := by omega
    have m0 : max n 0 = n := by omega
    have m1 : min n 65536 = 65536 := by omega
    clear hn h0 h1 hS
    go_enter Try.func8, Try.ntmps8
    go_wp2_with (first
      | (go_at_call 28; with_reducible refine (CA.out _).mono ?_; rintro e w2 ⟨rfl, hb⟩; have B := Lib.hid hb; clear hb)
      | (go_at_call 24; with_reducible refine (C1.out _).mono ?_; rintro e w3 ⟨rfl, hb⟩; replace B := Lib.hid (low_go B.out hb); clear hb)
      | (go_at_call 24; with_reducible refine (C0.out _).mono ?_; rintro e w4 ⟨rfl, hb⟩; replace B := Lib.hid (low_go B.out hb); clear hb))
    all_goals go_ret
    all_goals exact ⟨rfl, B.out⟩
  have d1 : decide (65536 ≤ n) = false := by simp; omega
  have e1 : ¬ 65536 ≤ n := by omega
  have MI : MayI n := ⟨h0, h1⟩
  have C2 := Lib.hid fun W => hS.indirect (n + 1) W ⟨by have := hn.1; omega, by omega⟩
  have CO := Lib.hid fun W => pa_of_yes hS MI W
  have sh := way_short MI
  have ST := Lib.hid (indir_step MI)
  obtain ⟨a0, a1⟩ := indir_le (n := n) (by omega)
  have wn : IntKind.i64.wrap (n + 1) = n + 1 := by rw [IntKind.wrap_i64]; omega
  have TR := Lib.hid (fun m => trail_eq (wayN n).2 m)
  have GA : Hid (∀ j, j < (wayN n).2.length → ∃ u, (wayN n).2[j]? = some u) := Lib.hid fun j h => ⟨(wayN n).2[j], List.getElem?_eq_getElem h⟩
  generalize (wayN n).1 = p at *
  generalize (wayN n).2 = x at *
  generalize indirN n = a at *
  generalize indirN (n + 1) = b at *
  have wl : IntKind.i64.wrap ((x.length : Int) - 1) = (x.length : Int) - 1 := by rw [IntKind.wrap_i64]; omega
  clear MI hn h0 h1 hS
  go_enter Try.func8, Try.ntmps8
  go_upto_region 6 with (first
    | (go_at_call 28; with_reducible refine (CA.out _).mono ?_; rintro e w2 ⟨rfl, hb⟩; have B := Lib.hid hb; clear hb)
    | (go_at_call 14; with_reducible refine (CO.out _).mono ?_; rintro e w3 ⟨⟨A1, c1, rfl, h1⟩, hb⟩; replace B := Lib.hid (low_go B.out hb); have H1 := Lib.hid h1; clear hb h1))
  clear CO CA
  go_wp2_with fail
  go_loopw [6, 7] (fun av kv wr => ∃ m : Nat, m ≤ x.length ∧ kv = .int .i64 ((m : Int) - 1) ∧ av = .int .i64 ((x.length - m : Nat) : Int) ∧ wr = w3 ∧ Hid (∀ j, m ≤ j → j < x.length → x[j]? = some 0)) (fun _ kv _ => ((intOf kv) + 1).toNat)
  case atStart => exact ⟨x.length, Nat.le_refl _, rfl, by rw [Nat.sub_self]; rfl, rfl, Lib.hid fun j a b => absurd a (by omega)⟩
  case round =>
    obtain ⟨m, hm, rfl, rfl, rfl, Z⟩ := hrel
    by_cases m0 : m = 0
    · subst m0
      have g1 : decide ((0 : Int) ≤ ((0 : Nat) : Int) - 1) = false := by decide
      have g2 : ¬ (0 : Int) ≤ ((0 : Nat) : Int) - 1 := by decide
      have T0 := TR.out 0 (Nat.zero_le _) Z.out (.inl rfl)
      have E : b = a + ((x.length - 0 : Nat) : Int) := by rw [ST.out, T0]
      subst E
      have wa : IntKind.i64.wrap (a + ((x.length - 0 : Nat) : Int)) = a + ((x.length - 0 : Nat) : Int) := by rw [IntKind.wrap_i64]; omega
      clear T0 ST
      go_wp2_with (first
        | (go_at_call 24; with_reducible refine (C2.out _).mono ?_; rintro e w4 ⟨rfl, hb⟩; replace B := Lib.hid (low_go B.out hb); clear hb)
        | (go_at_call 24; with_reducible refine (C1.out _).mono ?_; rintro e w5 ⟨rfl, hb⟩; replace B := Lib.hid (low_go B.out hb); clear hb))
      go_ret
      exact ⟨rfl, B.out⟩
    obtain ⟨m', rfl⟩ : ∃ m', m = m' + 1 := ⟨m - 1, by omega⟩
    obtain ⟨u, hu⟩ := GA.out m' (by omega)
    obtain ⟨bb, o, rfl, hb, hc⟩ := H1.out (by omega)
    have dc := hc m' u hu
    rw [show (((m' + 1 : Nat) : Int) - 1) = (m' : Int) by omega]
    have g0 : (0 : Int) ≤ (m' : Int) := by omega
    have g1 : (m' : Int) < (x.length : Int) := by omega
    by_cases u0 : u = 0
    · subst u0
      have Z2 : Hid (∀ j, m' ≤ j → j < x.length → x[j]? = some 0) := Lib.hid fun j a b => by
        by_cases e : j = m'
        · subst e; exact hu
        · exact Z.out j (by omega) b
      have wa : IntKind.i64.wrap (((x.length - (m' + 1) : Nat) : Int) + 1) = ((x.length - m' : Nat) : Int) := by rw [IntKind.wrap_i64]; omega
      have wk : IntKind.i64.wrap ((m' : Int) - 1) = (m' : Int) - 1 := by rw [IntKind.wrap_i64]; omega
      clear hc hu
      go_wp2_with fail
      go_roundw
      case rel => exact ⟨m', by omega, rfl, rfl, trivial, Z2⟩
      case measure => simp [intOf]
    · have t1 : (u == 0) = false := by rw [beq_eq_false_iff_ne]; exact u0
      have T0 := TR.out (m' + 1) hm Z.out (.inr ⟨u, hu, u0⟩)
      have E : b = a + ((x.length - (m' + 1) : Nat) : Int) := by rw [ST.out, T0]
      subst E
      have wa : IntKind.i64.wrap (a + ((x.length - (m' + 1) : Nat) : Int)) = a + ((x.length - (m' + 1) : Nat) : Int) := by rw [IntKind.wrap_i64]; omega
      clear T0 hc hu ST
      go_wp2_with (first
        | (go_at_call 24; with_reducible refine (C2.out _).mono ?_; rintro e w4 ⟨rfl, hb⟩; replace B := Lib.hid (low_go B.out hb); clear hb)
        | (go_at_call 24; with_reducible refine (C1.out _).mono ?_; rintro e w5 ⟨rfl, hb⟩; replace B := Lib.hid (low_go B.out hb); clear hb))
      go_ret
      exact ⟨rfl, B.out⟩
end Go.Proofs.Ytnneppkkmhjpbaa
