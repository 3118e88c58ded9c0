import Derived.WalkKit
import Derived.Below
import Derived.Deep.Draws
import Derived.Test.YtmlmpflfejbbcaaDoorRows
import Derived.WalkSpells
import Derived.WalkLawsBesides
import Derived.Lib.Hide
import Derived.Deep.QuietTactic
import Derived.BigQuiet
import Derived.Deep.RegionWith
import Derived.Lib.SmallJoins
import Derived.Laws.BitsAllLaws
import Derived.Deep.LoopGhost
import Derived.Test.YtmlmpflfejbbcaaDoorBaseN
namespace Go.Proofs.YtmlmpflfejbbcaaDoor.CrcM

/-! Sums of bytes: a number of 32 bits that is shifted down bit by bit, and put over by 0xEDB88320. Plain numbers; no program. -/
def sh (v : Nat) : Nat := if v % 2 = 1 then v / 2 ^^^ 3988292384 else v / 2
def shN : Nat → Nat → Nat
  | 0, v => v
  | k + 1, v => shN k (sh v)

theorem xor_swap (a b c d : Nat) : a ^^^ b ^^^ (c ^^^ d) = a ^^^ c ^^^ (b ^^^ d) := by
  rw [Nat.xor_assoc, Nat.xor_assoc, ← Nat.xor_assoc b, ← Nat.xor_assoc c, Nat.xor_comm b c]
theorem xor_cancel (a b : Nat) : a ^^^ b ^^^ b = a := by rw [Nat.xor_assoc, Nat.xor_self, Nat.xor_zero]
theorem xor_eq_zero {a b : Nat} (h : a ^^^ b = 0) : a = b := by
  have := xor_cancel a b
  rw [h, Nat.zero_xor] at this
  exact this.symm

theorem sh_xor (a b : Nat) : sh (a ^^^ b) = sh a ^^^ sh b := by
  unfold sh
  rw [Nat.xor_div_two]
  have hm : (a ^^^ b) % 2 = (a + b) % 2 := by
    have h : (a ^^^ b) % 2 ^ 1 = a % 2 ^ 1 ^^^ b % 2 ^ 1 := Nat.xor_mod_two_pow
    rw [Nat.pow_one] at h
    rw [h]
    rcases Nat.mod_two_eq_zero_or_one a with ha | ha <;> rcases Nat.mod_two_eq_zero_or_one b with hb | hb <;> rw [ha, hb, Nat.add_mod, ha, hb] <;> rfl
  by_cases ha : a % 2 = 1 <;> by_cases hb : b % 2 = 1
  · rw [if_neg (by omega), if_pos ha, if_pos hb, xor_swap, Nat.xor_self, Nat.xor_zero]
  · rw [if_pos (by omega), if_pos ha, if_neg hb, Nat.xor_assoc, Nat.xor_assoc, Nat.xor_comm (b / 2)]
  · rw [if_pos (by omega), if_neg ha, if_pos hb, Nat.xor_assoc]
  · rw [if_neg (by omega), if_neg ha, if_neg hb]
theorem sh_lt {v : Nat} (h : v < 4294967296) : sh v < 4294967296 := by
  unfold sh
  split
  · exact Nat.xor_lt_two_pow (n := 32) (by omega) (by omega)
  · omega
theorem sh_zero : sh 0 = 0 := rfl
theorem sh_eq_zero {v : Nat} (hv : v < 4294967296) (h : sh v = 0) : v = 0 := by
  unfold sh at h
  split at h
  · have := xor_eq_zero h
    omega
  · omega

theorem shN_xor (k : Nat) : ∀ a b, shN k (a ^^^ b) = shN k a ^^^ shN k b := by
  induction k with
  | zero => intro a b; rfl
  | succ k ih => intro a b; simp only [shN]; rw [sh_xor, ih]
theorem shN_lt (k : Nat) : ∀ {v : Nat}, v < 4294967296 → shN k v < 4294967296 := by
  induction k with
  | zero => intro v h; exact h
  | succ k ih => intro v h; exact ih (sh_lt h)
theorem shN_zero (k : Nat) : shN k 0 = 0 := by
  induction k with
  | zero => rfl
  | succ k ih => exact ih
theorem shN_eq_zero (k : Nat) : ∀ {v : Nat}, v < 4294967296 → shN k v = 0 → v = 0 := by
  induction k with
  | zero => intro v _ h; exact h
  | succ k ih => intro v hv h; exact sh_eq_zero hv (ih (sh_lt hv) h)
theorem shN_add (j k : Nat) : ∀ v, shN (j + k) v = shN k (shN j v) := by
  induction j with
  | zero => intro v; rw [Nat.zero_add]; rfl
  | succ j ih => intro v; rw [Nat.add_right_comm]; exact ih (sh v)
theorem shN_comm (j k v : Nat) : shN j (shN k v) = shN k (shN j v) := by rw [← shN_add, ← shN_add, Nat.add_comm]
theorem shN_succ' (k v : Nat) : shN (k + 1) v = sh (shN k v) := shN_add k 1 v
theorem shN_pow (j : Nat) : shN j (2 ^ j) = 1 := by
  induction j with
  | zero => rfl
  | succ j ih =>
    have h : sh (2 ^ (j + 1)) = 2 ^ j := by
      unfold sh
      rw [Nat.pow_succ, if_neg (by omega)]
      omega
    show shN j (sh (2 ^ (j + 1))) = 1
    rw [h, ih]
/-- A bit that is put in later counts as one that stands higher. -/
theorem shN_bit {m k : Nat} (h : k ≤ m) : shN (m - k) 1 = shN m (2 ^ k) := by
  rw [← shN_pow k, ← shN_add, show k + (m - k) = m by omega]

/-! Bytes, as a function of their index. -/
def run (v : Nat) (f : Nat → Nat) : Nat → Nat
  | 0 => v
  | k + 1 => shN 8 (run v f k ^^^ f k)
def ff : Nat := 4294967295
def sum (f : Nat → Nat) (n : Nat) : Nat := run ff f n ^^^ ff

theorem run_lt {v : Nat} {f : Nat → Nat} (hv : v < 4294967296) (hf : ∀ i, f i < 256) : ∀ n, run v f n < 4294967296
  | 0 => hv
  | n + 1 => shN_lt 8 (Nat.xor_lt_two_pow (n := 32) (run_lt hv hf n) (by have := hf n; omega))
theorem run_congr {v : Nat} {f g : Nat → Nat} : ∀ n, (∀ i, i < n → f i = g i) → run v f n = run v g n
  | 0, _ => rfl
  | n + 1, h => by simp only [run]; rw [run_congr n fun i hi => h i (by omega), h n (by omega)]
/-- The sum is linear. -/
theorem run_xor (u v : Nat) (f g : Nat → Nat) : ∀ n, run (u ^^^ v) (fun i => f i ^^^ g i) n = run u f n ^^^ run v g n
  | 0 => rfl
  | n + 1 => by simp only [run]; rw [run_xor u v f g n, xor_swap, shN_xor]
theorem run_zero : ∀ n, run 0 (fun _ => 0) n = 0
  | 0 => rfl
  | n + 1 => by simp only [run]; rw [run_zero n]; exact shN_zero 8
theorem run_shift (v : Nat) : ∀ n, run v (fun _ => 0) n = shN (8 * n) v
  | 0 => rfl
  | n + 1 => by simp only [run]; rw [run_shift v n, Nat.xor_zero, ← shN_add, Nat.mul_succ]
theorem run_start (v : Nat) (f : Nat → Nat) (n : Nat) : run v f n = shN (8 * n) v ^^^ run 0 f n := by
  have h := run_xor v 0 (fun _ => 0) f n
  simp only [Nat.xor_zero, Nat.zero_xor] at h
  rw [h, run_shift]
/-- Bytes, and others behind them. -/
theorem run_append (v : Nat) (f : Nat → Nat) (m : Nat) : ∀ n, run v f (m + n) = run (run v f m) (fun i => f (m + i)) n
  | 0 => rfl
  | n + 1 => by rw [← Nat.add_assoc]; simp only [run]; rw [run_append v f m n]

/-- What is joined. -/
def join (a b n : Nat) : Nat := shN (8 * n) a ^^^ b
theorem sum_zero (f : Nat → Nat) : sum f 0 = 0 := Nat.xor_self _
theorem sum_lt {f : Nat → Nat} (hf : ∀ i, f i < 256) (n : Nat) : sum f n < 4294967296 :=
  Nat.xor_lt_two_pow (n := 32) (run_lt (by unfold ff; omega) hf n) (by unfold ff; omega)
theorem ff_sub {v : Nat} (h : v < 4294967296) : v ^^^ ff = ff - v := by
  have e : (4294967295 : Nat) = 2 ^ 32 - 1 := rfl
  unfold ff
  rw [e]
  apply Nat.eq_of_testBit_eq
  intro i
  rw [Nat.testBit_xor, Nat.testBit_two_pow_sub_one, Nat.sub_sub, Nat.add_comm 1 v, Nat.testBit_two_pow_sub_succ (show v < 2 ^ 32 by omega)]
  by_cases hi : i < 32
  · simp [hi]
  · have hv : v.testBit i = false := Nat.testBit_lt_two_pow (Nat.lt_of_lt_of_le (show v < 2 ^ 32 by omega) (Nat.pow_le_pow_right (by omega) (by omega)))
    simp [hi, hv]
theorem sum_sub {f : Nat → Nat} (hf : ∀ i, f i < 256) (n : Nat) : sum f n = ff - run ff f n := ff_sub (run_lt (by unfold ff; omega) hf n)
theorem sum_append (f : Nat → Nat) (m n : Nat) : sum f (m + n) = join (sum f m) (sum (fun i => f (m + i)) n) n := by
  unfold sum join
  rw [run_append, run_start (run ff f m), run_start ff (fun i => f (m + i)), shN_xor]
  generalize shN (8 * n) (run ff f m) = a
  generalize shN (8 * n) ff = b
  generalize run 0 (fun i => f (m + i)) n = c
  rw [← Nat.xor_assoc, ← Nat.xor_assoc, xor_cancel]
theorem join_assoc (x y z n m : Nat) : join (join x y n) z m = join x (join y z m) (n + m) := by
  unfold join
  rw [shN_xor, ← shN_add, Nat.xor_assoc, ← Nat.mul_add]
theorem join_far (a b n m : Nat) : join a b (n + m) = join (join a 0 n) b m := by
  unfold join
  rw [Nat.xor_zero, ← shN_add, ← Nat.mul_add]
theorem join_zero (b n : Nat) : join 0 b n = b := by unfold join; rw [shN_zero, Nat.zero_xor]

/-- Three rows. -/
theorem sum_mixed (f g h : Nat → Nat) (n : Nat) : sum (fun i => f i ^^^ g i ^^^ h i) n = sum f n ^^^ sum g n ^^^ sum h n := by
  unfold sum
  have e : run ff (fun i => f i ^^^ g i ^^^ h i) n = run ff f n ^^^ run ff g n ^^^ run ff h n := by
    have h1 := run_xor (ff ^^^ ff) ff (fun i => f i ^^^ g i) h n
    rw [run_xor ff ff f g n] at h1
    simpa [Nat.xor_self] using h1
  rw [e]
  generalize run ff f n = a
  generalize run ff g n = b
  generalize run ff h n = c
  rw [xor_swap a ff b ff, Nat.xor_self, Nat.xor_zero, Nat.xor_assoc (a ^^^ b) c ff]

/-- One bit is turned about. -/
def flip (f : Nat → Nat) (i j : Nat) : Nat → Nat := fun k => if k = i then f k ^^^ 2 ^ j else f k
theorem run_one (i b : Nat) : ∀ n, i < n → run 0 (fun k => if k = i then b else 0) n = shN (8 * (n - i)) b
  | 0, h => absurd h (by omega)
  | n + 1, h => by
    simp only [run]
    by_cases e : n = i
    · subst e
      rw [if_pos rfl, run_congr n (g := fun _ => 0) (fun k hk => if_neg (by omega)), run_zero, Nat.zero_xor, show n + 1 - n = 1 by omega]
    · rw [if_neg e, run_one i b n (by omega), Nat.xor_zero, ← shN_add, show 8 * (n - i) + 8 = 8 * (n + 1 - i) by omega]
theorem run_flip (v : Nat) (f : Nat → Nat) {i j n : Nat} (h : i < n) : run v (flip f i j) n = run v f n ^^^ shN (8 * (n - i)) (2 ^ j) := by
  rw [← run_one i (2 ^ j) n h]
  have h1 := run_xor v 0 f (fun k => if k = i then 2 ^ j else 0) n
  rw [Nat.xor_zero] at h1
  rw [← h1]
  apply run_congr
  intro k _
  unfold flip
  split
  · rfl
  · rw [Nat.xor_zero]
/-- .. by its number. -/
theorem run_flip_bit (v : Nat) (f : Nat → Nat) {p n : Nat} (h : p < 8 * n) : run v (flip f (p / 8) (p % 8)) n = run v f n ^^^ shN (8 * n - p) 1 := by
  rw [run_flip v f (show p / 8 < n by omega), ← shN_bit (show p % 8 ≤ 8 * (n - p / 8) by omega), show 8 * (n - p / 8) - p % 8 = 8 * n - p by omega]

/-- Bits that stand together, turned about one by one. -/
def turn (over at_ : Nat) (f : Nat → Nat) : Nat → (Nat → Nat)
  | 0 => f
  | k + 1 => if over / 2 ^ k % 2 = 1 then flip (turn over at_ f k) ((at_ + k) / 8) ((at_ + k) % 8) else turn over at_ f k
theorem mod_pow_succ (x k : Nat) : x % 2 ^ (k + 1) = if x / 2 ^ k % 2 = 1 then x % 2 ^ k ^^^ 2 ^ k else x % 2 ^ k := by
  have h1 : x % 2 ^ (k + 1) = x % 2 ^ k + 2 ^ k * (x / 2 ^ k % 2) := by rw [Nat.pow_succ, Nat.mod_mul]
  have hlt : x % 2 ^ k < 2 ^ k := Nat.mod_lt _ (Nat.two_pow_pos k)
  split
  · rename_i h
    rw [h1, h, Nat.mul_one, Nat.add_comm, Nat.xor_comm]
    have h2 := Nat.shiftLeft_add_eq_or_of_lt hlt 1
    rw [Nat.shiftLeft_eq, Nat.one_mul] at h2
    rw [h2]
    apply Nat.eq_of_testBit_eq
    intro j
    rw [Nat.testBit_or, Nat.testBit_xor]
    by_cases hj : j = k
    · subst hj
      rw [Nat.testBit_lt_two_pow hlt]
      simp
    · rw [Nat.testBit_two_pow_of_ne (fun e => hj e.symm)]
      simp
  · rename_i h
    have h0 : x / 2 ^ k % 2 = 0 := by omega
    rw [h1, h0, Nat.mul_zero, Nat.add_zero]
theorem run_turn (v : Nat) (f : Nat → Nat) {over at_ n : Nat} (h : at_ + 32 ≤ 8 * n) : ∀ k, k ≤ 32 → run v (turn over at_ f k) n = run v f n ^^^ shN (8 * n - at_) (over % 2 ^ k)
  | 0, _ => by simp [turn, Nat.mod_one, shN_zero]
  | k + 1, hk => by
    rw [mod_pow_succ]
    unfold turn
    by_cases hb : over / 2 ^ k % 2 = 1
    · rw [if_pos hb, if_pos hb, run_flip_bit v _ (show at_ + k < 8 * n by omega), run_turn v f h k (by omega), shN_xor, ← shN_bit (show k ≤ 8 * n - at_ by omega), Nat.xor_assoc, show 8 * n - (at_ + k) = 8 * n - at_ - k by omega]
    · rw [if_neg hb, if_neg hb, run_turn v f h k (by omega)]
/-- Bytes that differ within 32 bits that stand together have different sums. -/
theorem sum_turn (f : Nat → Nat) {over at_ n : Nat} (ho : over < 4294967296) (h : at_ + 32 ≤ 8 * n) : sum (turn over at_ f 32) n = sum f n ↔ over = 0 := by
  unfold sum
  rw [run_turn ff f h 32 (Nat.le_refl _), Nat.mod_eq_of_lt (show over < 2 ^ 32 by omega)]
  constructor
  · intro e
    have e2 := congrArg (· ^^^ ff) e
    simp only [xor_cancel] at e2
    have e3 : shN (8 * n - at_) over = 0 := by
      have e4 := congrArg (run ff f n ^^^ ·) e2
      simp only [← Nat.xor_assoc, Nat.xor_self, Nat.zero_xor] at e4
      exact e4
    exact shN_eq_zero _ ho e3
  · rintro rfl
    rw [shN_zero, Nat.xor_zero]

/-! A table of a byte's eight steps. -/
theorem split_xor (x k : Nat) : x = x % 2 ^ k ^^^ 2 ^ k * (x / 2 ^ k) := by
  apply Nat.eq_of_testBit_eq
  intro j
  rw [Nat.testBit_xor, Nat.testBit_mod_two_pow, Nat.testBit_two_pow_mul, Nat.testBit_div_two_pow]
  by_cases h : j < k
  · simp [h, show ¬ k ≤ j by omega]
  · simp [h, show k ≤ j by omega, show j - k + k = j by omega]
theorem shN_mul (k : Nat) : ∀ q, shN k (2 ^ k * q) = q := by
  induction k with
  | zero => intro q; simp [shN]
  | succ k ih =>
    intro q
    have h : sh (2 ^ (k + 1) * q) = 2 ^ k * q := by
      unfold sh
      rw [Nat.pow_succ, Nat.mul_right_comm, if_neg (by omega)]
      omega
    show shN k (sh (2 ^ (k + 1) * q)) = q
    rw [h, ih]
theorem shN_table (k v : Nat) : shN k v = shN k (v % 2 ^ k) ^^^ v / 2 ^ k := by
  have h := congrArg (shN k) (split_xor v k)
  rw [shN_xor, shN_mul] at h
  exact h
theorem shN8_table (v : Nat) : shN 8 v = shN 8 (v % 256) ^^^ v / 256 := shN_table 8 v

/-! A linear map, by what it makes of each bit. -/
def byBits (t : Nat → Nat) (v : Nat) : Nat → Nat
  | 0 => 0
  | k + 1 => if v / 2 ^ k % 2 = 1 then byBits t v k ^^^ t k else byBits t v k
theorem byBits_lin {f t : Nat → Nat} (hf : ∀ a b, f (a ^^^ b) = f a ^^^ f b) (v n : Nat) (ht : ∀ i, i < n → t i = f (2 ^ i)) : ∀ k, k ≤ n → byBits t v k = f (v % 2 ^ k)
  | 0, _ => by
    have h := hf 0 0
    rw [Nat.xor_self] at h
    have h0 : f 0 = 0 := by rw [Nat.xor_self] at h; exact h
    simp [byBits, Nat.mod_one, h0]
  | k + 1, hk => by
    unfold byBits
    rw [mod_pow_succ]
    by_cases hb : v / 2 ^ k % 2 = 1
    · rw [if_pos hb, if_pos hb, byBits_lin hf v n ht k (by omega), hf, ht k (by omega)]
    · rw [if_neg hb, if_neg hb, byBits_lin hf v n ht k (by omega)]
theorem byBits_all {f t : Nat → Nat} (hf : ∀ a b, f (a ^^^ b) = f a ^^^ f b) {v : Nat} (hv : v < 4294967296) (ht : ∀ i, i < 32 → t i = f (2 ^ i)) : byBits t v 32 = f v := by
  rw [byBits_lin hf v 32 ht 32 (Nat.le_refl _), Nat.mod_eq_of_lt (show v < 2 ^ 32 by omega)]

end Go.Proofs.YtmlmpflfejbbcaaDoor.CrcM
namespace Go.Proofs.YtmlmpflfejbbcaaDoor.CrcM

/-! Products: a number times a power of the shift. Plain numbers. -/
def top : Nat := 2147483648
theorem shN_top {i : Nat} (h : i ≤ 31) : shN i top = 2 ^ (31 - i) := by
  have e : top = 2 ^ i * 2 ^ (31 - i) := by
    rw [← Nat.pow_add, show i + (31 - i) = 31 by omega]; rfl
  rw [e, shN_mul]
theorem top_lt : top < 4294967296 := by unfold top; omega

/-- One round of the product's loop, m + 1 rounds ahead of its end. -/
theorem times_step {a x y p j M : Nat} (hx : x = 2 ^ (32 - M) * (a % 2 ^ M)) (hM : M ≤ 32) (hx0 : x ≠ 0) (hy : y = shN (32 - M) (shN j top)) (hp : p = shN j (a ^^^ a % 2 ^ M)) :
    ∃ m, M = m + 1 ∧ x * 2 % 4294967296 = 2 ^ (32 - m) * (a % 2 ^ m) ∧ sh y = shN (32 - m) (shN j top) ∧ (if x / 2 ^ 31 % 2 = 1 then p ^^^ y else p) = shN j (a ^^^ a % 2 ^ m) := by
  rcases M with _ | m
  · exact absurd (by rw [hx, Nat.pow_zero, Nat.mod_one, Nat.mul_zero]) hx0
  · refine ⟨m, rfl, ?_, ?_, ?_⟩
    all_goals
      have hsplit : a % 2 ^ (m + 1) = a % 2 ^ m + 2 ^ m * (a / 2 ^ m % 2) := by rw [Nat.pow_succ, Nat.mod_mul]
      have hlt : a % 2 ^ m < 2 ^ m := Nat.mod_lt _ (Nat.two_pow_pos m)
      have hk : 2 ^ (32 - (m + 1)) * 2 ^ m = 2147483648 := by rw [← Nat.pow_add, show 32 - (m + 1) + m = 31 by omega]
      have hk2 : 2 ^ (32 - m) = 2 ^ (32 - (m + 1)) * 2 := by rw [show 32 - m = 32 - (m + 1) + 1 by omega, Nat.pow_succ]
      have hxx : x = 2 ^ (32 - (m + 1)) * (a % 2 ^ m) + 2147483648 * (a / 2 ^ m % 2) := by
        rw [hx, hsplit, Nat.mul_add, ← Nat.mul_assoc, hk]
      have hsmall : 2 ^ (32 - (m + 1)) * (a % 2 ^ m) < 2147483648 := by
        rw [← hk]
        exact Nat.mul_lt_mul_of_pos_left hlt (Nat.two_pow_pos _)
    · rw [hk2, Nat.mul_right_comm]
      generalize 2 ^ (32 - (m + 1)) * (a % 2 ^ m) = s at hxx hsmall
      omega
    · rw [hy, ← shN_succ', show 32 - (m + 1) + 1 = 32 - m by omega]
    · have hb : x / 2 ^ 31 % 2 = a / 2 ^ m % 2 := by
        generalize 2 ^ (32 - (m + 1)) * (a % 2 ^ m) = s at hxx hsmall
        show x / 2147483648 % 2 = _
        omega
      rw [hb, hp, hy, mod_pow_succ]
      by_cases h1 : a / 2 ^ m % 2 = 1
      · rw [if_pos h1, if_pos h1, shN_comm, shN_top (show 32 - (m + 1) ≤ 31 by omega), ← shN_xor, show 31 - (32 - (m + 1)) = m by omega, Nat.xor_assoc, xor_cancel]
      · rw [if_neg h1, if_neg h1]
theorem times_end {a j M : Nat} (h : 2 ^ (32 - M) * (a % 2 ^ M) = 0) : shN j (a ^^^ a % 2 ^ M) = shN j a := by
  have : a % 2 ^ M = 0 := by
    rcases Nat.mul_eq_zero.mp h with h | h
    · exact absurd h (Nat.pos_iff_ne_zero.mp (Nat.two_pow_pos _))
    · exact h
  rw [this, Nat.xor_zero]
theorem times_start {a j : Nat} (ha : a < 4294967296) : shN j (a ^^^ a % 2 ^ 32) = 0 := by
  rw [Nat.mod_eq_of_lt (show a < 2 ^ 32 by omega), Nat.xor_self, shN_zero]

/-- Powers of the shift, by squares. -/
theorem shift_mul (p q : Nat) : shN q (shN p top) = shN (p + q) top := (shN_add p q top).symm
theorem pow_odd (n k : Nat) (h : n / 2 ^ k % 2 = 1) : 8 * (n % 2 ^ k) + 8 * 2 ^ k = 8 * (n % 2 ^ (k + 1)) := by
  rw [Nat.pow_succ, Nat.mod_mul, h]
  omega
theorem pow_even (n k : Nat) (h : ¬ n / 2 ^ k % 2 = 1) : 8 * (n % 2 ^ k) = 8 * (n % 2 ^ (k + 1)) := by
  rw [Nat.pow_succ, Nat.mod_mul, show n / 2 ^ k % 2 = 0 by omega]
  omega
theorem pow_next (k : Nat) : 8 * 2 ^ k + 8 * 2 ^ k = 8 * 2 ^ (k + 1) := by rw [Nat.pow_succ]; omega
theorem pow_end {n k : Nat} (h : n / 2 ^ k = 0) : n % 2 ^ k = n := by
  have := Nat.div_add_mod n (2 ^ k)
  rw [h] at this
  omega

/-- A table of four steps. -/
theorem shN4_table (v : Nat) : shN 4 v = v / 16 ^^^ shN 4 (v % 16) := by
  rw [shN_table 4 v, Nat.xor_comm]
theorem byte_four (v : Nat) : shN 4 (shN 4 v) = shN 8 v := (shN_add 4 4 v).symm

end Go.Proofs.YtmlmpflfejbbcaaDoor.CrcM
namespace Go.Proofs.YtmlmpflfejbbcaaDoor
open Go.RowKit CrcM

/-- What the program's own tables hold when a call begins: block 0 is the table of four steps. -/
def Env (w : World) : Prop := 0 < w.heap.size ∧ ∀ i, i < 16 → w.cell? ⟨0, i, none⟩ = some (.int .u32 ((shN 4 i : Nat) : Int))
theorem Env.below {w w' : World} (h : Env w) (hb : Below w.heap.size w w') : Env w' :=
  ⟨Nat.lt_of_lt_of_le h.1 hb.size, fun i hi => (hb.cell (p := ⟨0, i, none⟩) h.1).trans (h.2 i hi)⟩
theorem Env.drewN {w : World} (h : Env w) (k : Nat) : Env (w.drewN k) := h

end Go.Proofs.YtmlmpflfejbbcaaDoor
namespace Go.Proofs.YtmlmpflfejbbcaaDoor
open Go.RowKit CrcM

/-- P2.2, of any numbers. -/
def joinZ (a b n : Int) : Int := if n < 0 then 0 else (join a.toNat b.toNat n.toNat : Nat)
theorem ret32 {a b : Int} (h : a = b) : Ending.returned (.int .u32 a) = .returned (.int .u32 b) := by rw [h]

end Go.Proofs.YtmlmpflfejbbcaaDoor
namespace Go.Proofs.YtmlmpflfejbbcaaDoor
open Go.RowKit CrcM

theorem u32_bit0 (x : Nat) (h : x < 4294967296) : bits .and .u32 (x : Int) 1 = ((x % 2 : Nat) : Int) := by
  have := u32_and_nat x 1 h (by omega)
  rw [nat_mask1] at this
  exact this
theorem i64_bit0 (x : Nat) (h : x ≤ 9223372036854775807) : bits .and .i64 (x : Int) 1 = ((x % 2 : Nat) : Int) := by
  have e1 : (BitVec.ofInt 64 (x : Int) &&& BitVec.ofInt 64 1).toNat = x % 2 := by
    rw [BitVec.toNat_and, BitVec.ofInt_natCast, BitVec.toNat_ofNat, Nat.mod_eq_of_lt (show x < 2 ^ 64 by omega)]
    exact nat_mask1 x
  show IntKind.i64.wrap ((BitVec.ofInt 64 (x : Int) &&& BitVec.ofInt 64 1).toNat : Nat) = _
  rw [e1, IntKind.wrap_i64]
  omega

end Go.Proofs.YtmlmpflfejbbcaaDoor
namespace Go.Proofs.YtmlmpflfejbbcaaDoor
open Go.RowKit CrcM

set_option maxHeartbeats 400000 in
theorem rshift_any (v : Int) (w : World) (h0 : 0 ≤ v) (h1 : v < 4294967296) :
    Calls Tryd.prog 53 #[.int .u32 v] w fun e w' => e = .returned (.int .u32 (sh v.toNat : Nat)) ∧ w = w' := by
  obtain ⟨x, rfl⟩ := Int.eq_ofNat_of_zero_le h0
  by_cases hb : x % 2 = 1
  · have t : ((x : Int) % 2 == 1) = true := by rw [beq_iff_eq]; omega
    have e := Lib.hid (u32_xor_nat (x / 2) 3988292384 (by omega) (by omega))
    have f : Hid (sh x = x / 2 ^^^ 3988292384) := Lib.hid (if_pos hb)
    clear hb
    go_enter Tryd.func53, Tryd.ntmps53
    go_wp2
    go_ret
    refine ⟨ret32 ?_, rfl⟩
    rw [Int.toNat_natCast, f.out]
    exact e.out
  · have t : ((x : Int) % 2 == 1) = false := by rw [beq_eq_false_iff_ne]; omega
    have f : Hid (sh x = x / 2) := Lib.hid (if_neg hb)
    clear hb
    go_enter Tryd.func53, Tryd.ntmps53
    go_wp2
    go_ret
    refine ⟨ret32 ?_, rfl⟩
    rw [Int.toNat_natCast, f.out]
    omega

end Go.Proofs.YtmlmpflfejbbcaaDoor
namespace Go.Proofs.YtmlmpflfejbbcaaDoor
open Go.RowKit CrcM

/-! Pieces of bytes, and what the program's two calls say of them. -/
def Pcs (w : World) (A : Option Addr) (ps : List (Nat × (Nat → Nat))) : Prop :=
  Env w ∧ (∀ p ∈ ps, p.1 ≤ 100000) ∧ (0 < ps.length → ∃ b o, A = some ⟨b, o, none⟩ ∧ b < w.heap.size ∧ ∀ i p, ps[i]? = some p → ∃ Ai ci, w.cell? ⟨b, o + i, none⟩ = some (.slice Ai p.1 ci) ∧ Row w Ai p.1 p.2)
def runs (v : Nat) : List (Nat × (Nat → Nat)) → Nat
  | [] => v
  | p :: ps => runs (run v p.2 p.1) ps
def sums (ps : List (Nat × (Nat → Nat))) : Nat := runs ff ps ^^^ ff
theorem sums_nil : sums [] = 0 := rfl
theorem sums_one (n : Nat) (f : Nat → Nat) : sums [(n, f)] = sum f n := rfl
theorem sums_skip (f : Nat → Nat) (v : Nat) (ps : List (Nat × (Nat → Nat))) : runs v ((0, f) :: ps) = runs v ps := rfl
theorem runs_lt {v : Nat} (hv : v < 4294967296) : ∀ {ps : List (Nat × (Nat → Nat))}, (∀ p ∈ ps, ∀ i, p.2 i < 256) → runs v ps < 4294967296
  | [], _ => hv
  | p :: _, h => runs_lt (run_lt hv (h p (by simp)) p.1) fun q hq => h q (by simp [hq])
theorem sums_lt {ps : List (Nat × (Nat → Nat))} (h : ∀ p ∈ ps, ∀ i, p.2 i < 256) : sums ps < 4294967296 :=
  Nat.xor_lt_two_pow (n := 32) (runs_lt (by unfold ff; omega) h) (by unfold ff; omega)
theorem Pcs.nil {w : World} (hE : Env w) (A : Option Addr) : Pcs w A [] := ⟨hE, by simp, fun h => absurd h (by simp)⟩
theorem Pcs.below {w w' : World} {A : Option Addr} {ps : List (Nat × (Nat → Nat))} (h : Pcs w A ps) (hb : Below w.heap.size w w') : Pcs w' A ps :=
  ⟨h.1.below hb, h.2.1, fun h0 => by
    obtain ⟨b, o, e, hlt, hc⟩ := h.2.2 h0
    refine ⟨b, o, e, Nat.lt_of_lt_of_le hlt hb.size, fun i p hp => ?_⟩
    obtain ⟨Ai, ci, h1, h2⟩ := hc i p hp
    exact ⟨Ai, ci, (hb.cell (p := ⟨b, o + i, none⟩) hlt).trans h1, h2.below hb⟩⟩

/-- P2.1, of any pieces. -/
def SumSays : Prop := ∀ (A : Option Addr) (m c : Nat) (ps : List (Nat × (Nat → Nat))) (w : World), m = ps.length → m ≤ 100 → Pcs w A ps →
  Calls Tryd.prog 40 #[.slice A m c] w fun e w' => e = .returned (.int .u32 (sums ps : Nat)) ∧ Below w.heap.size w w'
/-- One piece, two, three, in a list that was just made. -/
theorem Pcs.one {w : World} {A : Option Addr} {n c : Nat} {f : Nat → Nat} (hE : Env w) (t : TypeId) (h : Row w A n f) (hn : n ≤ 100000) : Pcs (w.alloc (.cells #[.slice A n c] t)) (some ⟨w.heap.size, 0, none⟩) [(n, f)] := by
  refine ⟨hE.below ((Below.refl _ _).alloc (Nat.le_refl _) _), by simp [hn], fun _ => ⟨_, 0, rfl, by simp, fun i p hp => ?_⟩⟩
  have hb : Below w.heap.size w (w.alloc (.cells #[.slice A n c] t)) := (Below.refl _ _).alloc (Nat.le_refl _) _
  have hcell : ∀ j, (w.alloc (.cells #[.slice A n c] t)).cell? ⟨w.heap.size, j, none⟩ = (#[Value.slice A n c] : Array Value)[j]? := fun j => cell_of_row _ _ j _ t (0, 0) (heap_alloc_new w _)
  match i, hp with
  | 0, hp => cases hp; exact ⟨A, c, by rw [hcell]; rfl, h.below hb⟩
theorem Pcs.two {w : World} {A B : Option Addr} {n c m d : Nat} {f g : Nat → Nat} (hE : Env w) (t : TypeId) (h : Row w A n f) (hn : n ≤ 100000) (k : Row w B m g) (hm : m ≤ 100000) : Pcs (w.alloc (.cells #[.slice A n c, .slice B m d] t)) (some ⟨w.heap.size, 0, none⟩) [(n, f), (m, g)] := by
  refine ⟨hE.below ((Below.refl _ _).alloc (Nat.le_refl _) _), by simp [hn, hm], fun _ => ⟨_, 0, rfl, by simp, fun i p hp => ?_⟩⟩
  have hb : Below w.heap.size w (w.alloc (.cells #[.slice A n c, .slice B m d] t)) := (Below.refl _ _).alloc (Nat.le_refl _) _
  have hcell : ∀ j, (w.alloc (.cells #[.slice A n c, .slice B m d] t)).cell? ⟨w.heap.size, j, none⟩ = (#[Value.slice A n c, .slice B m d] : Array Value)[j]? := fun j => cell_of_row _ _ j _ t (0, 0) (heap_alloc_new w _)
  match i, hp with
  | 0, hp => cases hp; exact ⟨A, c, by rw [hcell]; rfl, h.below hb⟩
  | 1, hp => cases hp; exact ⟨B, d, by rw [hcell]; rfl, k.below hb⟩
theorem Pcs.three {w : World} {A B C : Option Addr} {n c m d l e : Nat} {f g q : Nat → Nat} (hE : Env w) (t : TypeId) (h : Row w A n f) (hn : n ≤ 100000) (k : Row w B m g) (hm : m ≤ 100000) (j : Row w C l q) (hl : l ≤ 100000) :
    Pcs (w.alloc (.cells #[.slice A n c, .slice B m d, .slice C l e] t)) (some ⟨w.heap.size, 0, none⟩) [(n, f), (m, g), (l, q)] := by
  refine ⟨hE.below ((Below.refl _ _).alloc (Nat.le_refl _) _), by simp [hn, hm, hl], fun _ => ⟨_, 0, rfl, by simp, fun i p hp => ?_⟩⟩
  have hb : Below w.heap.size w (w.alloc (.cells #[.slice A n c, .slice B m d, .slice C l e] t)) := (Below.refl _ _).alloc (Nat.le_refl _) _
  have hcell : ∀ j, (w.alloc (.cells #[.slice A n c, .slice B m d, .slice C l e] t)).cell? ⟨w.heap.size, j, none⟩ = (#[Value.slice A n c, .slice B m d, .slice C l e] : Array Value)[j]? := fun j => cell_of_row _ _ j _ t (0, 0) (heap_alloc_new w _)
  match i, hp with
  | 0, hp => cases hp; exact ⟨A, c, by rw [hcell]; rfl, h.below hb⟩
  | 1, hp => cases hp; exact ⟨B, d, by rw [hcell]; rfl, k.below hb⟩
  | 2, hp => cases hp; exact ⟨C, e, by rw [hcell]; rfl, j.below hb⟩
theorem Row.none_ (w : World) (f : Nat → Nat) (hf : ∀ i, f i < 256) : Row w none 0 f := ⟨hf, fun h => absurd h (by omega)⟩

/-- A literal's bytes, marked or not. -/
theorem Row.lit (w : World) (t : TypeId) (xs : List Nat) (fz : Nat × Nat) (h : ∀ x ∈ xs, x < 256) : Row (w.alloc (.cells (lits8 xs) t fz)) (some ⟨w.heap.size, 0, none⟩) xs.length (lit8 xs) := by
  refine ⟨lit8_lt h, fun _ => ⟨_, 0, rfl, by simp, fun i hi => ?_⟩⟩
  rw [cell_of_row _ _ (0 + i) _ t fz (heap_alloc_new w _)]
  simp [lits8, lit8, List.getElem?_eq_getElem hi, List.getD_eq_getElem?_getD]

end Go.Proofs.YtmlmpflfejbbcaaDoor
namespace Go.Proofs.YtmlmpflfejbbcaaDoor
open Go.RowKit CrcM

set_option maxHeartbeats 400000 in
theorem rSum_any (A : Option Addr) (n c : Nat) (f : Nat → Nat) (w : World) (hn : n ≤ 100000) (hR : Row w A n f) :
    Calls Tryd.prog 36 #[.slice A n c] w fun e w' => e = .returned (.int .u32 (sum f n : Nat)) ∧ w = w' := by
  have HR := Lib.hid hR
  have HF := Lib.hid hR.1
  clear hR
  go_enter Tryd.func36, Tryd.ntmps36
  go_wp2
  go_loop [3, 4] (fun v i => ∃ k : Nat, k ≤ n ∧ i = .int .i64 k ∧ v = .int .u32 ((run ff f k : Nat) : Int)) (fun _ i => n - (intOf i).toNat)
  case atStart => exact ⟨0, Nat.zero_le _, rfl, rfl⟩
  case round =>
    obtain ⟨k, hk, rfl, rfl⟩ := hrel
    have hlt := run_lt (v := ff) (by unfold ff; omega) HF.out k
    by_cases hl : k < n
    · obtain ⟨b, o, rfl, _, hc⟩ := HR.out.2 (by omega)
      have ck := hc k hl
      have bk := HF.out k
      have fx := u32_xor_nat (run ff f k) (f k) hlt (by omega)
      have hx := Nat.xor_lt_two_pow (n := 32) (show run ff f k < 2 ^ 32 by omega) (show f k < 2 ^ 32 by omega)
      have fs : Hid (run ff f (k + 1) = shN 8 (run ff f k ^^^ f k)) := Lib.hid rfl
      clear hc
      go_wp2
      have HX := Lib.hid hx
      clear hx hlt
      go_loop [3, 5] (fun v i => ∃ j : Nat, j ≤ 8 ∧ i = .int .i64 j ∧ v = .int .u32 ((shN j (run ff f k ^^^ f k) : Nat) : Int)) (fun _ i => 8 - (intOf i).toNat)
      case atStart => exact ⟨0, Nat.zero_le _, rfl, rfl⟩
      case round =>
        obtain ⟨j, hj, rfl, rfl⟩ := hrel
        have hq := shN_lt j HX.out
        by_cases hl2 : j < 8
        · go_wp2_with (go_at_call 53; refine (rshift_any _ _ (by omega) (by omega)).mono ?_; rintro e w' ⟨rfl, rfl⟩; rw [Int.toNat_natCast])
          go_round
          case rel => exact ⟨j + 1, by omega, by go_num, by rw [shN_succ']⟩
          case measure => simp [intOf]; omega
        · obtain rfl : j = 8 := by omega
          clear hq
          go_wp2
          go_round
          case rel => exact ⟨k + 1, by omega, by go_num, by rw [fs.out]⟩
          case measure => simp [intOf]; omega
    · have hk' : k = n := by omega
      have g := Lib.hid hk'
      have t : decide ((k : Int) < n) = false := by simp; omega
      have h0 : (0 : Int) ≤ 4294967295 - (run ff f k : Nat) := by omega
      have f1 := Lib.hid (show ((4294967295 : Int) - (run ff f k : Nat)) = (sum f k : Nat) by
        have h1 : sum f k = ff - run ff f k := sum_sub HF.out k
        rw [h1]
        have hle : run ff f k ≤ 4294967295 := by omega
        show ((4294967295 : Int) - (run ff f k : Nat)) = ((4294967295 - run ff f k : Nat) : Int)
        omega)
      clear hk'
      go_wp2
      go_ret
      exact ⟨ret32 (by rw [← g.out]; exact f1.out), rfl⟩

end Go.Proofs.YtmlmpflfejbbcaaDoor
namespace Go.Proofs.YtmlmpflfejbbcaaDoor
open Go.RowKit CrcM

theorem u32_low4 (x : Nat) (h : x < 4294967296) : bits .and .u32 (x : Int) 15 = ((x % 16 : Nat) : Int) := by
  have := u32_and_nat x 15 h (by omega)
  rw [nat_mask4] at this
  exact this

set_option maxRecDepth 100000 in
set_option maxHeartbeats 400000 in
theorem four_any (x : Nat) (w : World) (h1 : x < 4294967296) (hE : Env w) :
    Calls Tryd.prog 55 #[.int .u32 (x : Int)] w fun e w' => e = .returned (.int .u32 (shN 4 x : Nat)) ∧ w = w' := by
  have hc := hE.2 (x % 16) (Nat.mod_lt _ (by omega))
  have hl := u32_low4 x h1
  have L4 : Hid (shN 4 (x % 16) < 4294967296) := Lib.hid (shN_lt 4 (by omega))
  have FX := Lib.hid (u32_xor_nat (x / 16) (shN 4 (x % 16)) (by omega) L4.out)
  have T := Lib.hid (shN4_table x)
  have hm : x % 16 < 16 := Nat.mod_lt _ (by omega)
  clear hE
  go_enter Tryd.func55, Tryd.ntmps55
  go_wp2
  go_ret
  exact ⟨ret32 (by rw [T.out]; exact FX.out), rfl⟩

theorem runs_snoc (v : Nat) (ps : List (Nat × (Nat → Nat))) (p : Nat × (Nat → Nat)) : runs v (ps ++ [p]) = run (runs v ps) p.2 p.1 := by
  induction ps generalizing v with
  | nil => rfl
  | cons q ps ih => exact ih _
theorem runs_take {ps : List (Nat × (Nat → Nat))} {k : Nat} (h : k < ps.length) (v : Nat) : runs v (ps.take (k + 1)) = run (runs v (ps.take k)) ps[k].2 ps[k].1 := by
  rw [List.take_succ_eq_append_getElem h, runs_snoc]

set_option maxRecDepth 100000 in
set_option maxHeartbeats 1000000 in
theorem sum_calls (A : Option Addr) (m c : Nat) (ps : List (Nat × (Nat → Nat))) (w : World) (hm : m = ps.length) (hm1 : m ≤ 100) (hP : Pcs w A ps) (hF : ∀ p ∈ ps, ∀ i, p.2 i < 256) :
    Calls Tryd.prog 40 #[.slice A m c] w fun e w' => e = .returned (.int .u32 (sums ps : Nat)) ∧ w = w' := by
  have M := Lib.hid hm
  have HP := Lib.hid hP
  have HF := Lib.hid hF
  clear hm hP hF
  go_enter Tryd.func40, Tryd.ntmps40
  go_wp2
  go_loop [3, 10] (fun v i => ∃ k : Nat, k ≤ m ∧ i = .int .i64 k ∧ v = .int .u32 ((runs ff (ps.take k) : Nat) : Int)) (fun _ i => m - (intOf i).toNat)
  case atStart => exact ⟨0, Nat.zero_le _, rfl, rfl⟩
  case round =>
    obtain ⟨k, hk, rfl, rfl⟩ := hrel
    have hV : runs ff (ps.take k) < 4294967296 := runs_lt (by unfold ff; omega) fun p hp => HF.out p (List.mem_of_mem_take hp)
    by_cases hl : k < m
    · have hkp : k < ps.length := M.out ▸ hl
      obtain ⟨b, o, rfl, _, hc⟩ := HP.out.2.2 (by omega)
      obtain ⟨Ai, ci, hcell, hrow⟩ := hc k ps[k] (List.getElem?_eq_getElem hkp)
      have hn := HP.out.2.1 ps[k] (List.getElem_mem hkp)
      have RT := Lib.hid (runs_take hkp ff)
      have hf := hrow.1
      clear hc
      generalize hq : ps[k] = q at hcell hrow hn RT hf
      obtain ⟨n, f⟩ := q
      dsimp only at hcell hrow hn RT hf
      have HV := Lib.hid hV
      have HR := Lib.hid hrow
      have HFf := Lib.hid hf
      clear hq hrow hf hV hkp
      generalize hvv : runs ff (ps.take k) = V at RT HV
      have HVV := Lib.hid hvv
      clear hvv
      go_wp2
      go_loop [3, 16] (fun v i => ∃ j : Nat, j ≤ n ∧ i = .int .i64 j ∧ v = .int .u32 ((run V f j : Nat) : Int)) (fun _ i => n - (intOf i).toNat)
      case atStart => exact ⟨0, Nat.zero_le _, rfl, rfl⟩
      case round =>
        obtain ⟨j, hj, rfl, rfl⟩ := hrel
        have hlt := run_lt HV.out HFf.out j
        by_cases hl2 : j < n
        · obtain ⟨b2, o2, rfl, _, hc2⟩ := HR.out.2 (by omega)
          have cj := hc2 j hl2
          have bj := HFf.out j
          have fx := u32_xor_nat (run V f j) (f j) hlt (by omega)
          have hx : run V f j ^^^ f j < 4294967296 := Nat.xor_lt_two_pow (n := 32) hlt (by omega)
          have HX := Lib.hid hx
          have HX4 := Lib.hid (shN_lt 4 hx)
          have FS : Hid (shN 4 (shN 4 (run V f j ^^^ f j)) = run V f (j + 1)) := Lib.hid (byte_four _)
          clear hc2 hx hlt
          go_wp2_with fail
          refine (four_any _ _ HX.out HP.out.1).mono ?_
          rintro e w' ⟨rfl, rfl⟩
          go_wp2_with fail
          refine (four_any _ _ HX4.out HP.out.1).mono ?_
          rintro e w' ⟨rfl, rfl⟩
          rw [FS.out]
          go_wp2_with fail
          go_round
          case rel => exact ⟨j + 1, by omega, by go_num, rfl⟩
          case measure => simp [intOf]; omega
        · obtain rfl : j = n := by omega
          clear hlt
          go_wp2
          go_round
          case rel => exact ⟨k + 1, by omega, by go_num, by rw [RT.out]⟩
          case measure => simp [intOf]; omega
    · have hk' : k = m := by omega
      have G := Lib.hid (show ps.take k = ps by rw [hk', M.out, List.take_length])
      have t : decide ((k : Int) < m) = false := by simp; omega
      have f1 := Lib.hid (show bits .xor .u32 IntKind.u32.max ((runs ff (ps.take k) : Nat) : Int) = ((runs ff (ps.take k) ^^^ ff : Nat) : Int) by
        rw [Nat.xor_comm]
        exact u32_xor_nat ff (runs ff (ps.take k)) (by unfold ff; omega) hV)
      clear hk' hV
      go_wp2
      go_ret
      exact ⟨ret32 (by unfold sums; rw [f1.out, G.out]), rfl⟩

theorem Pcs.bytes {w : World} {A : Option Addr} {ps : List (Nat × (Nat → Nat))} (h : Pcs w A ps) : ∀ p ∈ ps, ∀ i, p.2 i < 256 := by
  intro p hp i
  obtain ⟨k, hk, rfl⟩ := List.mem_iff_getElem.1 hp
  obtain ⟨b, o, _, _, hc⟩ := h.2.2 (by omega)
  obtain ⟨_, _, _, hr⟩ := hc k _ (List.getElem?_eq_getElem hk)
  exact hr.1 i
theorem sumSays : SumSays := fun A m c ps w hm h1 hP => (sum_calls A m c ps w hm h1 hP hP.bytes).mono fun _ _ ⟨he, hw⟩ => ⟨he, hw ▸ Below.refl _ _⟩

end Go.Proofs.YtmlmpflfejbbcaaDoor
