import Derived.Test.YtoopoemkickpkaaDoorCrcMath
namespace Go.Proofs.YtoopoemkickpkaaDoor.CrcM

/-! Products: a number times a power of the shift. Plain numbers. -/
def top : Nat := 2147483648
theorem shN_top {i : Nat} (h : i ≤ 31) : shN i top = 2 ^ (31 - i) := by
  have e : top = 2 ^ i * 2 ^ (31 - i) := by
    rw [← Nat.pow_add, show i + (31 - i) = 31 by omega]; rfl
  rw [e, shN_mul]
theorem top_lt : top < 4294967296 := by unfold top; omega

/-- One round of the product's loop, m + 1 rounds ahead of its end. -/
theorem times_step {a x y p j M : Nat} (hx : x = 2 ^ (32 - M) * (a % 2 ^ M)) (hM : M ≤ 32) (hx0 : x ≠ 0) (hy : y = shN (32 - M) (shN j top)) (hp : p = shN j (a ^^^ a % 2 ^ M)) :
    ∃ m, M = m + 1 ∧ x * 2 % 4294967296 = 2 ^ (32 - m) * (a % 2 ^ m) ∧ sh y = shN (32 - m) (shN j top) ∧ (if x / 2 ^ 31 % 2 = 1 then p ^^^ y else p) = shN j (a ^^^ a % 2 ^ m) := by
  rcases M with _ | m
  · exact absurd (by rw [hx, Nat.pow_zero, Nat.mod_one, Nat.mul_zero]) hx0
  · refine ⟨m, rfl, ?_, ?_, ?_⟩
    all_goals
      have hsplit : a % 2 ^ (m + 1) = a % 2 ^ m + 2 ^ m * (a / 2 ^ m % 2) := by rw [Nat.pow_succ, Nat.mod_mul]
      have hlt : a % 2 ^ m < 2 ^ m := Nat.mod_lt _ (Nat.two_pow_pos m)
      have hk : 2 ^ (32 - (m + 1)) * 2 ^ m = 2147483648 := by rw [← Nat.pow_add, show 32 - (m + 1) + m = 31 by omega]
      have hk2 : 2 ^ (32 - m) = 2 ^ (32 - (m + 1)) * 2 := by rw [show 32 - m = 32 - (m + 1) + 1 by omega, Nat.pow_succ]
      have hxx : x = 2 ^ (32 - (m + 1)) * (a % 2 ^ m) + 2147483648 * (a / 2 ^ m % 2) := by
        rw [hx, hsplit, Nat.mul_add, ← Nat.mul_assoc, hk]
      have hsmall : 2 ^ (32 - (m + 1)) * (a % 2 ^ m) < 2147483648 := by
        rw [← hk]
        exact Nat.mul_lt_mul_of_pos_left hlt (Nat.two_pow_pos _)
    · rw [hk2, Nat.mul_right_comm]
      generalize 2 ^ (32 - (m + 1)) * (a % 2 ^ m) = s at hxx hsmall
      omega
    · rw [hy, ← shN_succ', show 32 - (m + 1) + 1 = 32 - m by omega]
    · have hb : x / 2 ^ 31 % 2 = a / 2 ^ m % 2 := by
        generalize 2 ^ (32 - (m + 1)) * (a % 2 ^ m) = s at hxx hsmall
        show x / 2147483648 % 2 = _
        omega
      rw [hb, hp, hy, mod_pow_succ]
      by_cases h1 : a / 2 ^ m % 2 = 1
      · rw [if_pos h1, if_pos h1, shN_comm, shN_top (show 32 - (m + 1) ≤ 31 by omega), ← shN_xor, show 31 - (32 - (m + 1)) = m by omega, Nat.xor_assoc, xor_cancel]
      · rw [if_neg h1, if_neg h1]
theorem times_end {a j M : Nat} (h : 2 ^ (32 - M) * (a % 2 ^ M) = 0) : shN j (a ^^^ a % 2 ^ M) = shN j a := by
  have : a % 2 ^ M = 0 := by
    rcases Nat.mul_eq_zero.mp h with h | h
    · exact absurd h (Nat.pos_iff_ne_zero.mp (Nat.two_pow_pos _))
    · exact h
  rw [this, Nat.xor_zero]
theorem times_start {a j : Nat} (ha : a < 4294967296) : shN j (a ^^^ a % 2 ^ 32) = 0 := by
  rw [Nat.mod_eq_of_lt (show a < 2 ^ 32 by omega), Nat.xor_self, shN_zero]

/-- Powers of the shift, by squares. -/
theorem shift_mul (p q : Nat) : shN q (shN p top) = shN (p + q) top := (shN_add p q top).symm
theorem pow_odd (n k : Nat) (h : n / 2 ^ k % 2 = 1) : 8 * (n % 2 ^ k) + 8 * 2 ^ k = 8 * (n % 2 ^ (k + 1)) := by
  rw [Nat.pow_succ, Nat.mod_mul, h]
  omega
theorem pow_even (n k : Nat) (h : ¬ n / 2 ^ k % 2 = 1) : 8 * (n % 2 ^ k) = 8 * (n % 2 ^ (k + 1)) := by
  rw [Nat.pow_succ, Nat.mod_mul, show n / 2 ^ k % 2 = 0 by omega]
  omega
theorem pow_next (k : Nat) : 8 * 2 ^ k + 8 * 2 ^ k = 8 * 2 ^ (k + 1) := by rw [Nat.pow_succ]; omega
theorem pow_end {n k : Nat} (h : n / 2 ^ k = 0) : n % 2 ^ k = n := by
  have := Nat.div_add_mod n (2 ^ k)
  rw [h] at this
  omega

/-- A table of four steps. -/
theorem shN4_table (v : Nat) : shN 4 v = v / 16 ^^^ shN 4 (v % 16) := by
  rw [shN_table 4 v, Nat.xor_comm]
theorem byte_four (v : Nat) : shN 4 (shN 4 v) = shN 8 v := (shN_add 4 4 v).symm

end Go.Proofs.YtoopoemkickpkaaDoor.CrcM
