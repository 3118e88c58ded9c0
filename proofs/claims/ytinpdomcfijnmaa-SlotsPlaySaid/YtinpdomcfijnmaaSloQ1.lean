import Derived.Test.YtinpdomcfijnmaaSloM
import Derived.Test.YtinpdomcfijnmaaBVar
import Derived.Deep.RegionWith
import Derived.Deep.CutBlock
namespace Go.Proofs.Ytinpdomcfijnmaa
open Go.RowKit

/-! The document's own MayName. -/
theorem list_nil {s : ByteArray} : s.toList = [] ↔ s.size = 0 := by
  rw [ByteArray.toList_eq]
  obtain ⟨⟨l⟩⟩ := s
  show l = [] ↔ l.length = 0
  exact List.length_eq_zero_iff.symm
theorem list_one {s : ByteArray} {l : List UInt8} : s.toList = l ↔ s = ⟨l.toArray⟩ := by
  rw [ByteArray.toList_eq]
  obtain ⟨⟨m⟩⟩ := s
  show m = l ↔ _
  constructor
  · rintro rfl; rfl
  · intro h
    injection h with h
    injection h
theorem len_nil {s : ByteArray} (h : s.size ≠ 0) : s.toList.isEmpty = false := by
  rw [Bool.eq_false_iff]
  intro q
  exact h (list_nil.1 (by simpa using q))
theorem nb_index {s : ByteArray} {i : Nat} (h : i < s.size) : ((s[i].toNat : Nat) : Int) = (nb s i : Nat) := by rw [nb_get h]
/-- How far a name's bytes may stand in it. -/
def NoBad (s : ByteArray) (n : Nat) : Prop := ∀ i, i < n → nb s i ≠ 47 ∧ nb s i ≠ 0
set_option maxRecDepth 100000 in
set_option maxHeartbeats 4000000 in
theorem rMayN (s : ByteArray) (w : World) :
    Calls Try.prog 16 #[.string s] w fun e w' => e = .returned (.bool (decide (MayN s))) ∧ w' = w := by
  by_cases h0 : s.size = 0
  · have m : decide (MayN s) = false := decide_eq_false fun q => by have := q.pos; omega
    have t0 : s.toList = [] := list_nil.2 h0
    rw [m]
    clear m h0
    go_enter Try.func16, Try.ntmps16
    go_wp2
    go_ret
    exact ⟨rfl, rfl⟩
  have t0 := len_nil h0
  have u0 : ¬ s.toList = [] := fun q => h0 (list_nil.1 q)
  by_cases h1 : s.size ≤ 27
  rotate_left
  · have m : decide (MayN s) = false := decide_eq_false fun q => h1 q.le
    have t1 : decide ((27 : Int) < (s.size : Int)) = true := by simp; omega
    have u1 : ¬ (s.size : Int) ≤ 27 := by omega
    have v1 : (27 : Int) < (s.size : Int) := by omega
    rw [m]
    clear m h1 h0
    go_enter Try.func16, Try.ntmps16
    go_wp2
    go_ret
    exact ⟨rfl, rfl⟩
  have t1 : decide ((27 : Int) < (s.size : Int)) = false := by simp; omega
  have u1 : (s.size : Int) ≤ 27 := by omega
  have v1 : ¬ (27 : Int) < (s.size : Int) := by omega
  by_cases h2 : s = ⟨#[46]⟩
  · have m : decide (MayN s) = false := decide_eq_false fun q => q.dot h2
    have t2 : s.toList = [46] := list_one.2 h2
    rw [m]
    clear m h1 h0 h2 u0 t0
    go_enter Try.func16, Try.ntmps16
    go_wp2
    go_ret
    exact ⟨rfl, rfl⟩
  have t2 : (s.toList == [46]) = false := by rw [beq_eq_false_iff_ne]; exact fun q => h2 (list_one.1 q)
  have u2 : ¬ s.toList = [46] := fun q => h2 (list_one.1 q)
  by_cases h3 : s = ⟨#[46, 46]⟩
  · have m : decide (MayN s) = false := decide_eq_false fun q => q.dots h3
    have t3 : s.toList = [46, 46] := list_one.2 h3
    rw [m]
    clear m h1 h0 h2 h3 u0 t0 t2 u2
    go_enter Try.func16, Try.ntmps16
    go_wp2
    go_ret
    exact ⟨rfl, rfl⟩
  have t3 : (s.toList == [46, 46]) = false := by rw [beq_eq_false_iff_ne]; exact fun q => h3 (list_one.1 q)
  have u3 : ¬ s.toList = [46, 46] := fun q => h3 (list_one.1 q)
  have M : Hid (MayN s ↔ NoBad s s.size) := Lib.hid ⟨fun q => q.all, fun q => ⟨by omega, h1, h2, h3, q⟩⟩
  have H1 := Lib.hid h1
  clear h0 h1 h2 h3
  go_enter Try.func16, Try.ntmps16
  go_wp2_with fail
  clear t0 t1 t2 t3 u0 u1 u2 u3 v1
  go_loopw [3] (fun i wr => ∃ k : Nat, k ≤ s.size ∧ i = .int .i64 k ∧ NoBad s k ∧ wr = w) (fun i _ => s.size - (intOf i).toNat)
  case atStart => exact ⟨0, Nat.zero_le _, rfl, fun i h => absurd h (Nat.not_lt_zero _), rfl⟩
  case round =>
    obtain ⟨k, hk, rfl, hn, hw⟩ := hrel
    obtain rfl : w = wr := hw.symm
    have NB := Lib.hid hn
    clear hn
    by_cases hlt : k < s.size
    · have g0 : (0 : Int) ≤ (k : Int) := by omega
      have g1 : (k : Int) < (s.size : Int) := by omega
      have g2 := nb_index hlt
      have g3 := ByteArray.getElem?_lt' s k hlt
      by_cases e1 : nb s k = 47
      · have m : decide (MayN s) = false := decide_eq_false fun q => (q.all k hlt).1 e1
        go_wp2_with fail
        go_ret
        exact ⟨by first | rfl | (rw [m]; rfl), rfl⟩
      have f1 : (((nb s k : Nat) : Int) == 47) = false := by rw [beq_eq_false_iff_ne]; omega
      by_cases e2 : nb s k = 0
      · have m : decide (MayN s) = false := decide_eq_false fun q => (q.all k hlt).2 e2
        clear e1
        go_wp2_with fail
        go_ret
        exact ⟨by first | rfl | (rw [m]; rfl), rfl⟩
      have f2 : (((nb s k : Nat) : Int) == 0) = false := by rw [beq_eq_false_iff_ne]; omega
      have k27 : k < 27 := by have := H1.out; omega
      have NB' : Hid (NoBad s (k + 1)) := Lib.hid fun i hi => by
        rcases Nat.lt_or_ge i k with q | q
        · exact NB.out i q
        · rw [show i = k by omega]; exact ⟨e1, e2⟩
      clear e1 e2
      go_wp2_with fail
      go_roundw
      case rel => exact ⟨k + 1, by omega, by congr 1, NB'.out, trivial⟩
      case measure => simp [intOf]; omega
    · have g1 : ¬ (k : Int) < (s.size : Int) := by omega
      have m : decide (MayN s) = true := decide_eq_true (M.out.2 (by rw [show s.size = k by omega]; exact NB.out))
      go_wp2_with fail
      go_ret
      exact ⟨by first | rfl | (rw [m]; rfl), rfl⟩
end Go.Proofs.Ytinpdomcfijnmaa
