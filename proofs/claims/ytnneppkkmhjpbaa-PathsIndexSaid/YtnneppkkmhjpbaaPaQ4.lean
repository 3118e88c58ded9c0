import Derived.Test.YtnneppkkmhjpbaaPaQ3
namespace Go.Proofs.Ytnneppkkmhjpbaa
open Go.RowKit

/-! The document's own: how many indirect blocks there are. -/
theorem trail_eq : ∀ (x : List Int) (m : Nat), m ≤ x.length → (∀ j, m ≤ j → j < x.length → x[j]? = some 0) → (m = 0 ∨ ∃ v, x[m - 1]? = some v ∧ v ≠ 0) → trail x = x.length - m
  | [], m, hm, _, _ => by simp [trail]
  | a :: l, m, hm, h0, h1 => by
    rw [trail]
    rcases (by omega : m = 0 ∨ m = 1 ∨ 2 ≤ m) with rfl | rfl | q
    · have e := trail_eq l 0 (Nat.zero_le _) (fun j _ hj => by have := h0 (j + 1) (Nat.zero_le _) (by simpa using hj); simpa using this) (.inl rfl)
      have ha := h0 0 (Nat.le_refl _) (by simp)
      simp at ha
      rw [if_pos ⟨by omega, ha⟩, e]
      simp
    · have e := trail_eq l 0 (Nat.zero_le _) (fun j _ hj => by have := h0 (j + 1) (by omega) (by simpa using hj); simpa using this) (.inl rfl)
      rcases h1 with h1 | ⟨v, hv, hn⟩
      · omega
      · simp at hv
        rw [if_neg (fun r => hn (by rw [← hv]; exact r.2)), e]
        simp
    · obtain ⟨m', rfl⟩ : ∃ m', m = m' + 1 := ⟨m - 1, by omega⟩
      have e := trail_eq l m' (by simpa using hm) (fun j hj hl => by have := h0 (j + 1) (by omega) (by simpa using hl); simpa using this) (by
        rcases h1 with h1 | ⟨v, hv, hn⟩
        · omega
        · refine .inr ⟨v, ?_, hn⟩
          obtain ⟨m2, rfl⟩ : ∃ m2, m' = m2 + 1 := ⟨m' - 1, by omega⟩
          simpa using hv)
      have hl : m' ≤ l.length := by simpa using hm
      rw [if_neg (fun r => by omega), e]
      simp
theorem indir_le {n : Int} (h : n ≤ 65536) : 0 ≤ indirN n ∧ indirN n ≤ 2000 := by
  rcases (by omega : n ≤ 8 ∨ (8 < n ∧ n ≤ 72) ∨ (72 < n ∧ n ≤ 4168) ∨ 4168 < n) with q | ⟨q, r⟩ | ⟨q, r⟩ | q
  · rw [indir_0 q]; omega
  · rw [indir_1 q r]; omega
  · rw [indir_2 q r]; omega
  · rw [indir_3 q h]; omega
set_option maxRecDepth 100000 in
set_option maxHeartbeats 4000000 in
theorem rIndirect (n : Int) (w : World) : Calls Try.prog 25 #[.int .i64 n] w fun e w' => e = .returned (.int .i64 (indirN n)) ∧ Below w.heap.size w w' := by
  go_enter Try.func25, Try.ntmps25
  go_wp2_with fail
  go_loopw [3, 4] (fun av iv wr => ∃ i : Nat, i ≤ 65536 ∧ (i = 0 ∨ (i : Int) ≤ n) ∧ iv = .int .i64 i ∧ av = .int .i64 (indirN i) ∧ Hid (Below w.heap.size w wr)) (fun _ iv _ => 65536 - (intOf iv).toNat)
  case atStart => exact ⟨0, by omega, .inl rfl, rfl, rfl, Lib.hid (Below.refl _ _)⟩
  case round =>
    obtain ⟨i, hi, hin, rfl, rfl, B2⟩ := hrel
    by_cases h1 : (i : Int) < n
    rotate_left
    · have E := Lib.hid (show indirN n = indirN i by
        rcases hin with rfl | q
        · rw [indir_0 (by omega), indir_0 (by omega)]
        · rw [show n = (i : Int) by omega])
      have d1 : decide ((i : Int) < n) = false := by simp; omega
      clear hin
      go_wp2_with fail
      go_ret
      exact ⟨by rw [E.out]; rfl, B2.out⟩
    have d1 : decide ((i : Int) < n) = true := by simp; omega
    by_cases h2 : i < 65536
    rotate_left
    · obtain rfl : i = 65536 := by omega
      have E := Lib.hid (show indirN n = indirN ((65536 : Nat) : Int) from indir_far (by omega))
      have d2 : decide ((65536 : Int) < 65536) = false := by decide
      clear hin
      go_wp2_with fail
      go_ret
      exact ⟨by rw [E.out]; rfl, B2.out⟩
    have d2 : decide ((i : Int) < 65536) = true := by simp; omega
    have e2 : (i : Int) < 65536 := by omega
    have MI : MayI (i : Int) := ⟨by omega, by omega⟩
    have CO := Lib.hid (rOf_yes MI wr)
    have sh := way_short MI
    have ST := Lib.hid (indir_step MI)
    obtain ⟨a0, a1⟩ := indir_le (n := (i : Int)) (by omega)
    have wi : IntKind.i64.wrap ((i : Int) + 1) = (i : Int) + 1 := by rw [IntKind.wrap_i64]; omega
    have TR := Lib.hid (fun m => trail_eq (wayN (i : Int)).2 m)
    have GA : Hid (∀ j, j < (wayN (i : Int)).2.length → ∃ u, (wayN (i : Int)).2[j]? = some u) := Lib.hid fun j h => ⟨(wayN (i : Int)).2[j], List.getElem?_eq_getElem h⟩
    generalize (wayN (i : Int)).1 = p at *
    generalize (wayN (i : Int)).2 = x at *
    have wl : IntKind.i64.wrap ((x.length : Int) - 1) = (x.length : Int) - 1 := by rw [IntKind.wrap_i64]; omega
    clear MI
    go_upto_region 6 with (go_at_call 13; with_reducible refine (CO.out).mono ?_; rintro e w3 ⟨⟨A1, c1, rfl, h1⟩, hb⟩; have B3 := Lib.hid (low_go B2.out hb); have H1 := Lib.hid h1; clear hb h1)
    clear CO
    go_wp2_with fail
    go_loopw [3, 8] (fun av kv wr => ∃ m : Nat, m ≤ x.length ∧ kv = .int .i64 ((m : Int) - 1) ∧ av = .int .i64 (indirN i + ((x.length - m : Nat) : Int)) ∧ wr = w3 ∧ Hid (∀ j, m ≤ j → j < x.length → x[j]? = some 0)) (fun _ kv _ => ((intOf kv) + 1).toNat)
    case atStart => exact ⟨x.length, Nat.le_refl _, rfl, by rw [Nat.sub_self]; simp, rfl, Lib.hid fun j a b => absurd a (by omega)⟩
    case round =>
      obtain ⟨m, hm, rfl, rfl, rfl, Z⟩ := hrel
      by_cases m0 : m = 0
      · subst m0
        have g1 : decide ((0 : Int) ≤ ((0 : Nat) : Int) - 1) = false := by decide
        have g2 : ¬ (0 : Int) ≤ ((0 : Nat) : Int) - 1 := by decide
        have T0 := TR.out 0 (Nat.zero_le _) Z.out (.inl rfl)
        have E : Hid (indirN (i : Int) + ((x.length - 0 : Nat) : Int) = indirN ((i : Int) + 1)) := Lib.hid (by rw [ST.out, T0])
        clear T0
        rw [E.out]
        go_wp2_with fail
        go_roundw
        case rel => exact ⟨i + 1, by omega, .inr (by omega), by congr 1, by congr 1, B3⟩
        case measure => simp [intOf]; omega
      obtain ⟨m', rfl⟩ : ∃ m', m = m' + 1 := ⟨m - 1, by omega⟩
      obtain ⟨u, hu⟩ := GA.out m' (by omega)
      obtain ⟨b, o, rfl, hb, hc⟩ := H1.out (by omega)
      have dc := hc m' u hu
      rw [show (((m' + 1 : Nat) : Int) - 1) = (m' : Int) by omega]
      have g0 : (0 : Int) ≤ (m' : Int) := by omega
      have g1 : (m' : Int) < (x.length : Int) := by omega
      by_cases u0 : u = 0
      · subst u0
        have Z2 : Hid (∀ j, m' ≤ j → j < x.length → x[j]? = some 0) := Lib.hid fun j a b => by
          by_cases e : j = m'
          · subst e; exact hu
          · exact Z.out j (by omega) b
        have wa : IntKind.i64.wrap (indirN (i : Int) + ((x.length - (m' + 1) : Nat) : Int) + 1) = indirN (i : Int) + ((x.length - m' : Nat) : Int) := by rw [IntKind.wrap_i64]; omega
        have wk : IntKind.i64.wrap ((m' : Int) - 1) = (m' : Int) - 1 := by rw [IntKind.wrap_i64]; omega
        clear hc hu
        go_wp2_with fail
        go_roundw
        case rel => exact ⟨m', by omega, rfl, rfl, trivial, Z2⟩
        case measure => simp [intOf]
      · have t1 : (u == 0) = false := by rw [beq_eq_false_iff_ne]; exact u0
        have T0 := TR.out (m' + 1) hm Z.out (.inr ⟨u, hu, u0⟩)
        have E : Hid (indirN (i : Int) + ((x.length - (m' + 1) : Nat) : Int) = indirN ((i : Int) + 1)) := Lib.hid (by rw [ST.out, T0])
        clear T0 hc hu
        rw [E.out]
        go_wp2_with fail
        go_roundw
        case rel => exact ⟨i + 1, by omega, .inr (by omega), by congr 1, by congr 1, B3⟩
        case measure => simp [intOf]; omega
end Go.Proofs.Ytnneppkkmhjpbaa
