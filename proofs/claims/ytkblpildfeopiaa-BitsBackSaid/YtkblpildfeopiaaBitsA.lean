import Derived.Test.YtkblpildfeopiaaBitsSay
import Derived.Deep.RegionHeld3
namespace Go.Proofs.Ytkblpildfeopiaa
open Go.RowKit

/-! awake: the chapter's examples. -/
def ex : Blk := mk fun i => i == 0 || i == 9 || i == 2047
theorem ex_bit {i : Nat} (h : i < 2048) : bit ex i = (i == 0 || i == 9 || i == 2047) := bit_mk h
theorem mk_byte {l : Nat → Bool} {j : Nat} (h : j < 256) : (mk l).f j = byteTo l j 8 := Blk.of_f h
theorem ex_key : ∀ i, i < 2048 → ((if i / 8 = 255 then 128 else if i / 8 = 1 then 2 else if i / 8 = 0 then 1 else 0) / 2 ^ (i % 8) % 2 == 1) = (i == 0 || i == 9 || i == 2047) := by decide +kernel
theorem ex_byte : ((Blk.zero.set 0 1 (by omega)).set 1 2 (by omega)).set 255 128 (by omega) = ex := bit_ext fun i hi => by
  rw [ex_bit hi, ← ex_key i hi]
  unfold bit Blk.set
  have hj : i / 8 < 256 := by omega
  rw [Blk.of_f hj, Blk.of_f hj, Blk.of_f hj]
  rfl
def exs (n : Nat) : Nat := if 2047 < n then 3 else if 9 < n then 2 else if 0 < n then 1 else 0
theorem ex_count : ∀ n, n ≤ 2048 → countN ex n = exs n
  | 0, _ => rfl
  | n + 1, h => by
    rw [countN, ex_count n (by omega), ex_bit (by omega)]
    unfold exs
    by_cases e1 : n = 0
    · subst e1; rfl
    · by_cases e2 : n = 9
      · subst e2; rfl
      · by_cases e3 : n = 2047
        · subst e3; rfl
        · have : (n == 0 || n == 9 || n == 2047) = false := by
            simp only [Bool.or_eq_false_iff, beq_eq_false_iff_ne]; omega
          rw [this]
          simp only [Bool.false_eq_true, if_false, Nat.add_zero]
          rcases (show n < 9 ∨ (9 < n ∧ n < 2047) by omega) with q | q
          · rw [if_neg (by omega), if_neg (by omega), if_pos (by omega), if_neg (by omega), if_neg (by omega), if_pos (by omega)]
          · rw [if_neg (by omega), if_pos (by omega), if_neg (by omega), if_pos (by omega)]
theorem ex_has0 : hasI ex 0 = true := by rw [show (0 : Int) = ((0 : Nat) : Int) from rfl, hasI_nat (by omega), ex_bit (by omega)]; rfl
theorem ex_has1 : hasI ex 1 = false := by rw [show (1 : Int) = ((1 : Nat) : Int) from rfl, hasI_nat (by omega), ex_bit (by omega)]; rfl
theorem ex_has9 : hasI ex 9 = true := by rw [show (9 : Int) = ((9 : Nat) : Int) from rfl, hasI_nat (by omega), ex_bit (by omega)]; rfl
theorem ex_has2047 : hasI ex 2047 = true := by rw [show (2047 : Int) = ((2047 : Nat) : Int) from rfl, hasI_nat (by omega), ex_bit (by omega)]; rfl
theorem ex_has2048 : hasI ex 2048 = false := hasI_out (by omega)
theorem ex_turns1 : turns ex 1 true = true := by rw [show (1 : Int) = ((1 : Nat) : Int) from rfl, turns_in (by omega), ex_bit (by omega)]; rfl
theorem ex_turns9 : turns (turnB ex 1 true) 9 true = false := by
  have h : turns ex ((1 : Nat) : Int) true = true := ex_turns1
  rw [show (1 : Int) = ((1 : Nat) : Int) from rfl, turnB_yes h, show (9 : Int) = ((9 : Nat) : Int) from rfl, turns_in (by omega), bit_setB (by omega), if_neg (by omega), ex_bit (by omega)]; rfl
theorem ex_first0 : firstI ex 0 2048 = 1 := by
  refine firstI_eq (k := 1) (by omega) (by omega) (by omega) (by rw [ex_bit (by omega)]; rfl) fun i hi _ _ => ?_
  obtain rfl : i = 0 := by omega
  rw [ex_bit (by omega)]; rfl
theorem ex_first9 : firstI ex 9 10 = -1 := firstI_none fun i hi h1 h2 => by
  obtain rfl : i = 9 := by omega
  rw [ex_bit (by omega)]; rfl
theorem ex_count10 : countI ex 10 = 2 := by unfold countI; rw [show lim 10 = 10 from rfl, ex_count 10 (by omega)]; rfl
theorem ex_count9999 : countI ex 9999 = 3 := by unfold countI; rw [show lim 9999 = 2048 from rfl, ex_count 2048 (by omega)]; rfl
theorem ex_turned0 : (turnB ex 1 true).f 0 = 3 := by
  have h : turns ex ((1 : Nat) : Int) true = true := ex_turns1
  rw [show (1 : Int) = ((1 : Nat) : Int) from rfl, turnB_yes h]
  unfold setB
  rw [mk_byte (by omega)]
  have hb : ∀ k, k < 8 → (fun i => if i = 1 then true else bit ex i) k = (k == 0 || k == 1) := fun k hk => by
    show (if k = 1 then true else bit ex k) = _
    rw [ex_bit (by omega)]
    rcases (show k = 0 ∨ k = 1 ∨ k = 2 ∨ k = 3 ∨ k = 4 ∨ k = 5 ∨ k = 6 ∨ k = 7 by omega) with rfl | rfl | rfl | rfl | rfl | rfl | rfl | rfl <;> rfl
  generalize (fun i => if i = 1 then true else bit ex i) = l at hb
  simp only [byteTo, Nat.mul_zero, Nat.zero_add]
  rw [hb (7 - 0) (by omega), hb (7 - 1) (by omega), hb (7 - 2) (by omega), hb (7 - 3) (by omega), hb (7 - 4) (by omega), hb (7 - 5) (by omega), hb (7 - 6) (by omega), hb (7 - 7) (by omega)]
  rfl
end Go.Proofs.Ytkblpildfeopiaa
