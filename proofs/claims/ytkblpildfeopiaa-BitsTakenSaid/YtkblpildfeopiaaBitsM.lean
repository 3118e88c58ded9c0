import Derived.Test.YtkblpildfeopiaaBlk0
namespace Go.Proofs.Ytkblpildfeopiaa
open Go.RowKit

/-! The 2048 bits of a block. -/
def bit (X : Blk) (i : Nat) : Bool := X.f (i / 8) / 2 ^ (i % 8) % 2 == 1
def byteTo (l : Nat → Bool) (j : Nat) : Nat → Nat
  | 0 => 0
  | n + 1 => 2 * byteTo l j n + if l (8 * j + (7 - n)) then 1 else 0
theorem byteTo_lt (l : Nat → Bool) (j : Nat) : ∀ n, byteTo l j n < 2 ^ n
  | 0 => by simp [byteTo]
  | n + 1 => by
    have := byteTo_lt l j n
    rw [byteTo, Nat.pow_succ]
    split <;> omega
theorem byteTo_bit (l : Nat → Bool) (j : Nat) : ∀ n i, i < n → n ≤ 8 → (byteTo l j n / 2 ^ i % 2 == 1) = l (8 * j + (8 - n + i))
  | 0, _, h, _ => absurd h (by omega)
  | n + 1, 0, _, hn => by
    rw [byteTo, Nat.pow_zero, Nat.div_one, show 8 - (n + 1) + 0 = 7 - n by omega]
    cases l (8 * j + (7 - n)) <;> simp <;> omega
  | n + 1, i + 1, h, hn => by
    have ih := byteTo_bit l j n i (by omega) (by omega)
    rw [byteTo, Nat.pow_succ, Nat.mul_comm (2 ^ i) 2, ← Nat.div_div_eq_div_mul, show 8 - (n + 1) + (i + 1) = 8 - n + i by omega, ← ih]
    congr 2
    congr 1
    congr 1
    split <;> omega
def mk (l : Nat → Bool) : Blk := .of (fun j => byteTo l j 8) fun j _ => byteTo_lt l j 8
theorem bit_mk {l : Nat → Bool} {i : Nat} (h : i < 2048) : bit (mk l) i = l i := by
  unfold bit mk
  rw [Blk.of_f (by omega), byteTo_bit l (i / 8) 8 (i % 8) (by omega) (by omega)]
  congr 1
  omega
theorem byte_ext {a b : Nat} (ha : a < 256) (hb : b < 256) (h : ∀ k, k < 8 → (a / 2 ^ k % 2 == 1) = (b / 2 ^ k % 2 == 1)) : a = b := by
  have e : ∀ k, k < 8 → a / 2 ^ k % 2 = b / 2 ^ k % 2 := fun k hk => by
    have h1 := h k hk
    have h2 : a / 2 ^ k % 2 < 2 := Nat.mod_lt _ (by omega)
    have h3 : b / 2 ^ k % 2 < 2 := Nat.mod_lt _ (by omega)
    generalize a / 2 ^ k % 2 = x at *
    generalize b / 2 ^ k % 2 = y at *
    rcases (show x = 0 ∨ x = 1 by omega) with rfl | rfl <;> rcases (show y = 0 ∨ y = 1 by omega) with rfl | rfl <;> simp_all
  have e0 := e 0 (by omega); have e1 := e 1 (by omega); have e2 := e 2 (by omega); have e3 := e 3 (by omega)
  have e4 := e 4 (by omega); have e5 := e 5 (by omega); have e6 := e 6 (by omega); have e7 := e 7 (by omega)
  simp only [Nat.reducePow] at e0 e1 e2 e3 e4 e5 e6 e7
  omega
theorem bit_ext {X Y : Blk} (h : ∀ i, i < 2048 → bit X i = bit Y i) : X = Y := Blk.same fun j hj => by
  refine byte_ext (X.lt j) (Y.lt j) fun k hk => ?_
  have := h (8 * j + k) (by omega)
  unfold bit at this
  rw [show (8 * j + k) / 8 = j by omega, show (8 * j + k) % 8 = k by omega] at this
  exact this
theorem mk_bit (X : Blk) : mk (bit X) = X := bit_ext fun _ hi => bit_mk hi
theorem mk_congr {l m : Nat → Bool} (h : ∀ i, i < 2048 → l i = m i) : mk l = mk m := bit_ext fun i hi => by rw [bit_mk hi, bit_mk hi, h i hi]
def setB (X : Blk) (k : Nat) (v : Bool) : Blk := mk fun i => if i = k then v else bit X i
theorem bit_setB {X : Blk} {k i : Nat} {v : Bool} (h : i < 2048) : bit (setB X k v) i = if i = k then v else bit X i := bit_mk h
theorem setB_same {X : Blk} {k : Nat} {v : Bool} (h : bit X k = v) : setB X k v = X := bit_ext fun i hi => by
  rw [bit_setB hi]
  split
  · rename_i e; rw [e, h]
  · rfl
theorem setB_setB (X : Blk) (k : Nat) (u v : Bool) : setB (setB X k u) k v = setB X k v := bit_ext fun i hi => by
  simp only [bit_setB hi]
  by_cases e : i = k
  · rw [if_pos e, if_pos e]
  · rw [if_neg e, if_neg e, if_neg e]

/-! What the calls answer. -/
def hasI (X : Blk) (i : Int) : Bool := decide (0 ≤ i) && decide (i < 2048) && bit X i.toNat
theorem hasI_nat {X : Blk} {i : Nat} (h : i < 2048) : hasI X i = bit X i := by unfold hasI; simp; omega
theorem hasI_out {X : Blk} {i : Int} (h : i < 0 ∨ 2048 ≤ i) : hasI X i = false := by
  unfold hasI
  rcases h with h | h
  · simp; omega
  · simp; omega
/-- The first clear bit from lo on, of n that are asked; -1, if there is none. -/
def firstN (X : Blk) (lo : Nat) : Nat → Int
  | 0 => -1
  | n + 1 => if bit X lo then firstN X (lo + 1) n else lo
def lim (n : Int) : Nat := (max 0 (min n 2048)).toNat
theorem lim_le (n : Int) : lim n ≤ 2048 := by unfold lim; omega
def firstI (X : Blk) (a b : Int) : Int := firstN X (lim a) (lim b - lim a)
def countN (X : Blk) : Nat → Nat
  | 0 => 0
  | n + 1 => countN X n + if bit X n then 1 else 0
def countI (X : Blk) (n : Int) : Nat := countN X (lim n)
theorem countN_le (X : Blk) : ∀ n, countN X n ≤ n
  | 0 => Nat.le_refl _
  | n + 1 => by have := countN_le X n; rw [countN]; split <;> omega
theorem firstN_ge (X : Blk) : ∀ (n lo : Nat), -1 ≤ firstN X lo n ∧ (firstN X lo n ≠ -1 → (lo : Int) ≤ firstN X lo n ∧ firstN X lo n < lo + n ∧ bit X (firstN X lo n).toNat = false)
  | 0, lo => by simp [firstN]
  | n + 1, lo => by
    have ih := firstN_ge X n (lo + 1)
    rw [firstN]
    cases h : bit X lo
    · rw [if_neg (by simp)]
      exact ⟨by omega, fun _ => ⟨by omega, by omega, by rw [Int.toNat_natCast]; exact h⟩⟩
    · rw [if_pos rfl]
      exact ⟨ih.1, fun q => by have := ih.2 q; exact ⟨by omega, by omega, this.2.2⟩⟩
/-- All ahead of what First tells are set; all of them, if it tells none. -/
theorem firstN_before (X : Blk) : ∀ (n lo i : Nat), lo ≤ i → i < lo + n → (firstN X lo n = -1 ∨ (i : Int) < firstN X lo n) → bit X i = true
  | 0, lo, i, h1, h2, _ => by omega
  | n + 1, lo, i, h1, h2, h3 => by
    rw [firstN] at h3
    cases h : bit X lo
    · rw [h, if_neg (by simp)] at h3
      omega
    · rw [h, if_pos rfl] at h3
      rcases Nat.eq_or_lt_of_le h1 with e | e
      · rw [← e]; exact h
      · exact firstN_before X n (lo + 1) i e (by omega) h3
def ones (X : Blk) : Nat → List Nat
  | 0 => []
  | n + 1 => ones X n ++ if bit X n then [n] else []
theorem ones_length (X : Blk) : ∀ n, (ones X n).length = countN X n
  | 0 => rfl
  | n + 1 => by rw [ones, countN, List.length_append, ones_length X n]; split <;> rfl
end Go.Proofs.Ytkblpildfeopiaa
