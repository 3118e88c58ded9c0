import Derived.Test.YtinpdomcfijnmaaSloA
namespace Go.Proofs.Ytinpdomcfijnmaa
open Go.RowKit

/-! SlotsWords. -/
def WordP (s : ByteArray) (k : Nat) : Prop := (1 ≤ s.size ∧ s.size ≤ 27 ∧ s ≠ ⟨#[46]⟩ ∧ s ≠ ⟨#[46, 46]⟩) ∧ NoBad s k
noncomputable instance (s : ByteArray) (k : Nat) : Decidable (WordP s k) := Classical.propDecidable _
noncomputable def wordK (s : ByteArray) (k : Nat) : Bool := decide (WordP s k)
theorem wordK_no {s : ByteArray} {k : Nat} (h : ¬ (1 ≤ s.size ∧ s.size ≤ 27 ∧ s ≠ ⟨#[46]⟩ ∧ s ≠ ⟨#[46, 46]⟩)) : wordK s k = false := decide_eq_false fun q => h q.1
theorem wordK_next {s : ByteArray} {k : Nat} (h : wordK s k = false) : wordK s (k + 1) = false := decide_eq_false fun q => of_decide_eq_false h ⟨q.1, fun i hi => q.2 i (by omega)⟩
theorem wordK_bad {s : ByteArray} {k : Nat} (h : nb s k = 47 ∨ nb s k = 0) : wordK s (k + 1) = false := decide_eq_false fun q => by
  have := q.2 k (by omega)
  rcases h with h | h
  · exact this.1 h
  · exact this.2 h
theorem wordK_good {s : ByteArray} {k : Nat} (h : wordK s k = true) (h1 : nb s k ≠ 47) (h2 : nb s k ≠ 0) : wordK s (k + 1) = true := decide_eq_true ⟨(of_decide_eq_true h).1, fun i hi => by
  rcases Nat.lt_or_ge i k with q | q
  · exact (of_decide_eq_true h).2 i q
  · obtain rfl : i = k := by omega
    exact ⟨h1, h2⟩⟩
theorem wordK_may (s : ByteArray) : wordK s s.size = decide (MayN s) := by
  unfold wordK
  rw [decide_eq_decide]
  exact ⟨fun h => ⟨h.1.1, h.1.2.1, h.1.2.2.1, h.1.2.2.2, h.2⟩, fun h => ⟨⟨h.pos, h.le, h.dot, h.dots⟩, h.all⟩⟩
set_option maxRecDepth 100000 in
set_option maxHeartbeats 4000000 in
theorem sWords (hS : SlotsSays) (s : ByteArray) (w : World) : Calls Try.prog 9 #[.string s] w fun e w' => e = .returned (.bool true) ∧ Below w.heap.size w w' := by
  have CA := Lib.hid fun W => sAwake hS W
  by_cases h2 : 20000 < s.size
  · have t1 : decide ((20000 : Int) < (s.size : Int)) = true := by simp; omega
    have v1 : (20000 : Int) < (s.size : Int) := by omega
    go_enter Try.func9, Try.ntmps9
    go_wp2_with (go_at_call 21; with_reducible refine (CA.out _).mono ?_; rintro e w2 ⟨rfl, hb⟩)
    go_ret
    exact ⟨rfl, hb⟩
  have t1 : decide ((20000 : Int) < (s.size : Int)) = false := by simp; omega
  have v1 : ¬ (20000 : Int) < (s.size : Int) := by omega
  have CM := Lib.hid fun W => hS.may s W
  rw [← wordK_may] at CM
  have H2 := Lib.hid h2
  clear hS h2
  go_enter Try.func9, Try.ntmps9
  go_upto_region 5 with (go_at_call 21; with_reducible refine (CA.out _).mono ?_; rintro e w2 ⟨rfl, hb⟩)
  have B := Lib.hid hb
  clear hb CA t1 v1
  go_cut [3] from 10 to 25 (fun s3 wx => s3 = .bool (wordK s 0) ∧ Below w.heap.size w wx)
  case first =>
    by_cases q1 : 1 ≤ s.size
    rotate_left
    · have E := Lib.hid (wordK_no (s := s) (k := 0) fun q => q1 q.1)
      have d1 : decide ((1 : Int) ≤ (s.size : Int)) = false := by simp; omega
      have e1 : ¬ (1 : Int) ≤ (s.size : Int) := by omega
      clear q1
      go_wp2_with fail
      go_meet
      exact ⟨by rw [E.out], B.out⟩
    have d1 : decide ((1 : Int) ≤ (s.size : Int)) = true := by simp; omega
    have e1 : (1 : Int) ≤ (s.size : Int) := by omega
    by_cases q2 : s.size ≤ 27
    rotate_left
    · have E := Lib.hid (wordK_no (s := s) (k := 0) fun q => q2 q.2.1)
      have d2 : decide ((s.size : Int) ≤ 27) = false := by simp; omega
      have e2 : ¬ (s.size : Int) ≤ 27 := by omega
      clear q2
      go_wp2_with fail
      go_meet
      exact ⟨by rw [E.out], B.out⟩
    have d2 : decide ((s.size : Int) ≤ 27) = true := by simp; omega
    have e2 : (s.size : Int) ≤ 27 := by omega
    by_cases q3 : s = ⟨#[46]⟩
    · have E := Lib.hid (wordK_no (s := s) (k := 0) fun q => q.2.2.1 q3)
      have d3 : s.toList = [46] := list_one.2 q3
      have e3 : (s.toList != [46]) = false := by rw [bne_eq_false_iff_eq]; exact d3
      clear q3
      go_wp2_with fail
      go_meet
      exact ⟨by rw [E.out], B.out⟩
    have d3 : (s.toList != [46]) = true := by rw [bne_iff_ne]; exact fun q => q3 (list_one.1 q)
    have e3 : ¬ s.toList = [46] := fun q => q3 (list_one.1 q)
    by_cases q4 : s = ⟨#[46, 46]⟩
    · have E := Lib.hid (wordK_no (s := s) (k := 0) fun q => q.2.2.2 q4)
      have d4 : s.toList = [46, 46] := list_one.2 q4
      have e4 : (s.toList != [46, 46]) = false := by rw [bne_eq_false_iff_eq]; exact d4
      clear q4 d3 e3 q3
      go_wp2_with fail
      go_meet
      exact ⟨by rw [E.out], B.out⟩
    have d4 : (s.toList != [46, 46]) = true := by rw [bne_iff_ne]; exact fun q => q4 (list_one.1 q)
    have e4 : ¬ s.toList = [46, 46] := fun q => q4 (list_one.1 q)
    have E : Hid (wordK s 0 = true) := Lib.hid (decide_eq_true (p := WordP s 0) ⟨⟨q1, q2, q3, q4⟩, fun i h => absurd h (Nat.not_lt_zero _)⟩)
    have b3 : (s.toList == [46]) = false := by rw [beq_eq_false_iff_ne]; exact e3
    have b4 : (s.toList == [46, 46]) = false := by rw [beq_eq_false_iff_ne]; exact e4
    clear q1 q2 q3 q4
    go_wp2_with fail
    go_meet
    exact ⟨by rw [E.out], B.out⟩
  case rest =>
    obtain ⟨rfl, hb⟩ := hcut
    have B2 := Lib.hid hb
    clear hb B
    go_wp2_with fail
    go_loopw [3, 4] (fun fv iv wr => ∃ k : Nat, k ≤ s.size ∧ fv = .bool (wordK s k) ∧ iv = .int .i64 k ∧ Hid (Below w.heap.size w wr)) (fun _ iv _ => s.size - (intOf iv).toNat)
    case atStart => exact ⟨0, Nat.zero_le _, rfl, rfl, B2⟩
    case round =>
      obtain ⟨k, hk, rfl, rfl, B⟩ := hrel
      clear B2
      by_cases hlt : k < s.size
      · have g0 : (0 : Int) ≤ (k : Int) := by omega
        have k20 : k < 20000 := by have := H2.out; omega
        have g1 : (k : Int) < (s.size : Int) := by omega
        have g2 := nb_index hlt
        have g3 := ByteArray.getElem?_lt' s k hlt
        obtain ⟨f, hf⟩ : ∃ f, wordK s k = f := ⟨_, rfl⟩
        rw [hf]
        rcases f with _ | _
        · have E := Lib.hid (wordK_next hf)
          clear hf
          go_wp2_with fail
          go_roundw
          case rel => exact ⟨k + 1, by omega, by rw [E.out], by congr 1, B⟩
          case measure => simp [intOf]; omega
        by_cases e1 : nb s k = 47
        · have E := Lib.hid (wordK_bad (k := k) (.inl e1))
          clear hf
          have f1 : (((nb s k : Nat) : Int) != 47) = false := by rw [bne_eq_false_iff_eq]; omega
          go_wp2_with fail
          go_roundw
          case rel => exact ⟨k + 1, by omega, by rw [E.out], by congr 1, B⟩
          case measure => simp [intOf]; omega
        have f1 : (((nb s k : Nat) : Int) != 47) = true := by rw [bne_iff_ne]; omega
        by_cases e2 : nb s k = 0
        · have E := Lib.hid (wordK_bad (k := k) (.inr e2))
          have f2 : (((nb s k : Nat) : Int) != 0) = false := by rw [bne_eq_false_iff_eq]; omega
          clear hf e1
          go_wp2_with fail
          go_roundw
          case rel => exact ⟨k + 1, by omega, by rw [E.out], by congr 1, B⟩
          case measure => simp [intOf]; omega
        have f2 : (((nb s k : Nat) : Int) != 0) = true := by rw [bne_iff_ne]; omega
        have E := Lib.hid (wordK_good hf e1 e2)
        clear hf e1 e2
        go_wp2_with fail
        go_roundw
        case rel => exact ⟨k + 1, by omega, by rw [E.out], by congr 1, B⟩
        case measure => simp [intOf]; omega
      · obtain rfl : k = s.size := by omega
        have g1 : ¬ (s.size : Int) < (s.size : Int) := by omega
        obtain ⟨f, hf⟩ : ∃ f, wordK s s.size = f := ⟨_, rfl⟩
        rw [hf] at CM ⊢
        clear hf hlt
        go_wp2_with (go_at_call 15; with_reducible refine (CM.out _).mono ?_; rintro e w4 ⟨rfl, rfl⟩)
        go_ret
        exact ⟨by cases f <;> rfl, B.out⟩
end Go.Proofs.Ytinpdomcfijnmaa
