import Derived.Test.YtnneppkkmhjpbaaPaQ2
namespace Go.Proofs.Ytnneppkkmhjpbaa
open Go.RowKit

/-! The document's own: stops, and how many indirect blocks. -/
theorem rOf_yes {i : Int} (h : MayI i) (w : World) : Calls Try.prog 13 #[.int .i64 i] w fun e w' => (∃ A c, e = .returned (.tuple #[.int .i64 (wayN i).1, .slice A (wayN i).2.length c, .int .i64 0]) ∧ IntsAt w' A (wayN i).2) ∧ Below w.heap.size w w' := (rOf i w).mono fun e w' q => by
  obtain ⟨v, he, ho⟩ := q.1
  rw [ofN_yes h] at he ho
  obtain ⟨A, c, rfl, _, hA⟩ := own_ints ho rfl
  exact ⟨⟨A, c, he, hA⟩, q.2⟩
theorem way_short {i : Int} (h : MayI i) : (wayN i).2.length ≤ 3 := by
  rcases way_cases h with ⟨_, _, e⟩ | ⟨_, _, e⟩ | ⟨_, _, e⟩ | ⟨_, _, e⟩ <;> rw [e] <;> simp
noncomputable instance (x y : Int × List Int) : Decidable (SameW x y) := Classical.propDecidable _
set_option maxRecDepth 100000 in
set_option maxHeartbeats 4000000 in
theorem rApart {a b : Int} (ha : MayI a) (hb : MayI b) (w : World) : Calls Try.prog 32 #[.int .i64 a, .int .i64 b] w fun e w' => e = .returned (.bool (!decide (SameW (wayN a) (wayN b)))) ∧ Below w.heap.size w w' := by
  have CA := Lib.hid fun W => rOf_yes ha W
  have CB := Lib.hid fun W => rOf_yes hb W
  have SA := way_short ha
  have SB := way_short hb
  clear ha hb
  generalize wayN a = X at *
  generalize wayN b = Y at *
  obtain ⟨p, x⟩ := X
  obtain ⟨q, y⟩ := Y
  simp only at CA CB SA SB
  have DF : Hid (∀ t, decide (SameW (p, x) (q, y)) = t → Ending.returned (.bool (!t)) = Ending.returned (.bool (!decide (SameW (p, x) (q, y))))) := Lib.hid fun t h => by rw [h]
  by_cases hp : p = q
  rotate_left
  · have E := Lib.hid (DF.out false (decide_eq_false fun r => hp r.1))
    have t1 : (p != q) = true := by rw [bne_iff_ne]; exact hp
    have t2 : (p == q) = false := by rw [beq_eq_false_iff_ne]; exact hp
    clear hp DF
    go_enter Try.func32, Try.ntmps32
    go_wp2_with (first
      | (go_at_call 13; with_reducible refine (CA.out w).mono ?_; rintro e w2 ⟨⟨A1, c1, rfl, h1⟩, hb⟩; have B2 := Lib.hid hb; clear hb h1)
      | (go_at_call 13; with_reducible refine (CB.out w2).mono ?_; rintro e w3 ⟨⟨A2, c2, rfl, h2⟩, hb⟩; have B3 := Lib.hid (low_go B2.out hb); clear hb h2))
    go_ret
    exact ⟨E.out, B3.out⟩
  subst hp
  by_cases hn : x.length = y.length
  rotate_left
  · have E := Lib.hid (DF.out false (decide_eq_false fun r => hn r.2.1))
    have t1 : ((x.length : Int) != (y.length : Int)) = true := by rw [bne_iff_ne]; omega
    have t2 : ((x.length : Int) == (y.length : Int)) = false := by rw [beq_eq_false_iff_ne]; omega
    have t3 : (x.length == y.length) = false := by rw [beq_eq_false_iff_ne]; omega
    have t4 : decide (x.length = y.length) = false := by simp; omega
    clear hn DF
    go_enter Try.func32, Try.ntmps32
    go_wp2_with (first
      | (go_at_call 13; with_reducible refine (CA.out w).mono ?_; rintro e w2 ⟨⟨A1, c1, rfl, h1⟩, hb⟩; have B2 := Lib.hid hb; clear hb h1)
      | (go_at_call 13; with_reducible refine (CB.out w2).mono ?_; rintro e w3 ⟨⟨A2, c2, rfl, h2⟩, hb⟩; have B3 := Lib.hid (low_go B2.out hb); clear hb h2))
    go_ret
    exact ⟨E.out, B3.out⟩
  have YES : Hid ((∀ i, i + 1 < x.length → x[i]? = y[i]?) → SameW (p, x) (p, y)) := Lib.hid fun r => ⟨rfl, hn, r⟩
  have NO : Hid (∀ i, i + 1 < x.length → ¬ x[i]? = y[i]? → ¬ SameW (p, x) (p, y)) := Lib.hid fun i hi r s => r (s.2.2 i hi)
  have GA : Hid (∀ j, j < x.length → ∃ u, x[j]? = some u) := Lib.hid fun j h => ⟨x[j], List.getElem?_eq_getElem h⟩
  have GB : Hid (∀ j, j < x.length → ∃ u, y[j]? = some u) := Lib.hid fun j h => ⟨y[j]'(by omega), List.getElem?_eq_getElem (by omega)⟩
  obtain ⟨n, hxn⟩ : ∃ n, x.length = n := ⟨_, rfl⟩
  have hyn : y.length = n := by omega
  rw [hxn] at CA YES NO GA GB SA
  rw [hyn] at CB
  have IA : Hid (∀ W A, IntsAt W A x → 0 < n → ∃ b o, A = some ⟨b, o, none⟩ ∧ b < W.heap.size ∧ ∀ i v, x[i]? = some v → W.cell? ⟨b, o + i, none⟩ = some (.int .i64 v)) := Lib.hid fun W A h h0 => h (by omega)
  have IB : Hid (∀ W A, IntsAt W A y → 0 < n → ∃ b o, A = some ⟨b, o, none⟩ ∧ b < W.heap.size ∧ ∀ i v, y[i]? = some v → W.cell? ⟨b, o + i, none⟩ = some (.int .i64 v)) := Lib.hid fun W A h h0 => h (by omega)
  clear hn hxn hyn SB
  go_enter Try.func32, Try.ntmps32
  go_upto_region 5 with (first
      | (go_at_call 13; with_reducible refine (CA.out w).mono ?_; rintro e w2 ⟨⟨A1, c1, rfl, h1⟩, hb⟩; have B2 := Lib.hid hb; have H1 := Lib.hid h1; clear hb h1)
      | (go_at_call 13; with_reducible refine (CB.out w2).mono ?_; rintro e w3 ⟨⟨A2, c2, rfl, h2⟩, hb⟩; have B3 := Lib.hid (low_go B2.out hb); have K1 := Lib.hid (H1.out.below hb); have K2 := Lib.hid h2; clear hb h2))
  clear CA CB H1 B2
  go_wp2_with fail
  go_loopw [11] (fun iv wr => ∃ k : Nat, k ≤ 3 ∧ iv = .int .i64 k ∧ Hid (Below w3.heap.size w3 wr) ∧ Hid (∀ j, j < k → x[j]? = y[j]?)) (fun iv _ => 4 - (intOf iv).toNat)
  case atStart => exact ⟨0, by omega, rfl, Lib.hid (Below.refl _ _), Lib.hid fun j h => absurd h (Nat.not_lt_zero _)⟩
  case round =>
    obtain ⟨k, hk, rfl, B0, ALL⟩ := hrel
    have wk : IntKind.i64.wrap ((k : Int) + 1) = (k : Int) + 1 := by rw [IntKind.wrap_i64]; omega
    by_cases hlt : k + 1 < n
    rotate_left
    · have g1 : ¬ (k : Int) + 1 < (n : Int) := by omega
      have g2 : decide ((k : Int) + 1 < (n : Int)) = false := by simp; omega
      have E := Lib.hid (DF.out true (decide_eq_true (YES.out fun i hi => ALL.out i (by omega))))
      go_wp2_with fail
      go_ret
      exact ⟨E.out, low_go B3.out B0.out⟩
    obtain ⟨ba, oa, hA, hba, ha⟩ := IA.out _ _ (K1.out.below B0.out) (by omega)
    obtain ⟨bb, ob, hB, hbb, hb⟩ := IB.out _ _ (K2.out.below B0.out) (by omega)
    obtain ⟨u, hu⟩ := GA.out k (by omega)
    obtain ⟨v, hv⟩ := GB.out k (by omega)
    subst hA hB
    have CA := ha k u hu
    have CB := hb k v hv
    clear ha hb
    have g0 : (0 : Int) ≤ (k : Int) := by omega
    have g1 : (k : Int) < (n : Int) := by omega
    have g2 : (k : Int) + 1 < (n : Int) := by omega
    have g3 : decide ((k : Int) + 1 < (n : Int)) = true := by simp; omega
    by_cases q : u = v
    · subst q
      have A2 : Hid (∀ j, j < k + 1 → x[j]? = y[j]?) := Lib.hid fun j hj => by
        by_cases h : j < k
        · exact ALL.out j h
        · obtain rfl : j = k := by omega
          rw [hu, hv]
      clear hu hv
      go_wp2_with fail
      go_quiet (fail)
      go_wp2_with fail
      go_roundw
      case rel => exact ⟨k + 1, by omega, by congr 1, Lib.hid (low_drewN B0.out _), A2⟩
      case measure => simp [intOf]; omega
    · have E := Lib.hid (DF.out false (decide_eq_false (NO.out k hlt (by rw [hu, hv]; intro r; injection r with r; exact q r))))
      have t1 : (u != v) = true := by rw [bne_iff_ne]; exact q
      have t2 : (u == v) = false := by rw [beq_eq_false_iff_ne]; exact q
      clear hu hv
      go_wp2_with fail
      go_quiet (fail)
      go_wp2_with fail
      go_ret
      exact ⟨E.out, low_go B3.out (low_drewN B0.out _)⟩
set_option maxRecDepth 100000 in
set_option maxHeartbeats 4000000 in
theorem rNext (i : Int) (w : World) (hi : -9223372036854775808 ≤ i ∧ i < 9223372036854775808) : Calls Try.prog 23 #[.int .i64 i] w fun e w' => e = .returned (.int .i64 (nextN i)) ∧ Below w.heap.size w w' := by
  by_cases h0 : 0 ≤ i
  rotate_left
  · have E := Lib.hid (show nextN i = 0 by unfold nextN; rw [if_pos (by omega)])
    have d0 : decide (i < 0) = true := by simp; omega
    have e0 : i < 0 := by omega
    go_enter Try.func23, Try.ntmps23
    go_wp2
    go_ret
    exact ⟨by rw [E.out]; rfl, Below.refl _ _⟩
  have d0 : decide (i < 0) = false := by simp; omega
  have e0 : ¬ i < 0 := by omega
  by_cases h1 : i < 65536
  rotate_left
  · have E := Lib.hid (show nextN i = 65536 by unfold nextN; rw [if_neg (by omega), if_pos (by omega)])
    have d1 : decide (i < 65536) = false := by simp; omega
    have e1 : ¬ i < 65536 := by omega
    obtain ⟨k0, hk0⟩ : ∃ k0, IntKind.i64.wrap (i + 1) = k0 := ⟨_, rfl⟩
    by_cases hk : k0 < 65536
    · have d2 : decide (k0 < 65536) = true := by simp; omega
      go_enter Try.func23, Try.ntmps23
      go_wp2_with fail
      go_loopw [3] (fun kv wr => kv = .int .i64 k0 ∧ wr = w) (fun _ _ => 0)
      case atStart => exact ⟨rfl, rfl⟩
      case round =>
        obtain ⟨rfl, rfl⟩ := hrel
        go_wp2_with fail
        go_ret
        exact ⟨by rw [E.out]; rfl, Below.refl _ _⟩
    · have d2 : decide (k0 < 65536) = false := by simp; omega
      go_enter Try.func23, Try.ntmps23
      go_wp2_with fail
      go_loopw [3] (fun kv wr => kv = .int .i64 k0 ∧ wr = w) (fun _ _ => 0)
      case atStart => exact ⟨rfl, rfl⟩
      case round =>
        obtain ⟨rfl, rfl⟩ := hrel
        go_wp2_with fail
        go_ret
        exact ⟨by rw [E.out]; rfl, Below.refl _ _⟩
  have d1 : decide (i < 65536) = true := by simp; omega
  have MI : MayI i := ⟨h0, h1⟩
  obtain ⟨n1, n2, n3⟩ := next_gt MI
  have w1 : IntKind.i64.wrap (i + 1) = i + 1 := by rw [IntKind.wrap_i64]; omega
  have CP : Hid (∀ k W, i < k → k < 65536 → Calls Try.prog 32 #[.int .i64 i, .int .i64 k] W fun e w' => e = .returned (.bool (decide (nextN i ≤ k))) ∧ Below W.heap.size W w') := Lib.hid fun k W a b => by
    have := rApart MI ⟨by omega, b⟩ W
    rwa [show (!decide (SameW (wayN i) (wayN k))) = decide (nextN i ≤ k) from by
      have e := same_next MI (k := k) ⟨by omega, b⟩ (by omega)
      rw [Bool.eq_iff_iff]
      simp only [Bool.not_eq_true', decide_eq_false_iff_not, decide_eq_true_iff, e]
      omega] at this
  clear MI h0
  go_enter Try.func23, Try.ntmps23
  go_wp2_with fail
  go_loopw [3] (fun kv wr => ∃ k : Int, i < k ∧ k ≤ nextN i ∧ kv = .int .i64 k ∧ Hid (Below w.heap.size w wr)) (fun kv _ => (70000 - intOf kv).toNat)
  case atStart => exact ⟨i + 1, by omega, by omega, rfl, Lib.hid (Below.refl _ _)⟩
  case round =>
    obtain ⟨k, hk1, hk2, rfl, B2⟩ := hrel
    by_cases hlt : k < 65536
    rotate_left
    · have E := Lib.hid (show nextN i = 65536 by omega)
      have g1 : decide (k < 65536) = false := by simp; omega
      go_wp2_with fail
      go_ret
      exact ⟨by rw [E.out]; rfl, B2.out⟩
    have g1 : decide (k < 65536) = true := by simp; omega
    have CK := Lib.hid (CP.out k wr hk1 hlt)
    by_cases q : nextN i ≤ k
    · have E := Lib.hid (show nextN i = k by omega)
      rw [decide_eq_true q] at CK
      go_wp2_with (go_at_call 32; with_reducible refine (CK.out).mono ?_; rintro e w3 ⟨rfl, hb⟩; have B3 := Lib.hid (low_go B2.out hb); clear hb)
      go_ret
      exact ⟨by rw [E.out]; rfl, B3.out⟩
    · rw [decide_eq_false q] at CK
      have wk : IntKind.i64.wrap (k + 1) = k + 1 := by rw [IntKind.wrap_i64]; omega
      go_wp2_with (go_at_call 32; with_reducible refine (CK.out).mono ?_; rintro e w3 ⟨rfl, hb⟩; have B3 := Lib.hid (low_go B2.out hb); clear hb)
      go_roundw
      case rel => exact ⟨k + 1, by omega, by omega, rfl, B3⟩
      case measure => simp [intOf]; omega
end Go.Proofs.Ytnneppkkmhjpbaa
