import Derived.WalkKit
namespace Go.Proofs.YtoopoemkickpkaaDoor.CrcM

/-! Sums of bytes: a number of 32 bits that is shifted down bit by bit, and put over by 0xEDB88320. Plain numbers; no program. -/
def sh (v : Nat) : Nat := if v % 2 = 1 then v / 2 ^^^ 3988292384 else v / 2
def shN : Nat → Nat → Nat
  | 0, v => v
  | k + 1, v => shN k (sh v)

theorem xor_swap (a b c d : Nat) : a ^^^ b ^^^ (c ^^^ d) = a ^^^ c ^^^ (b ^^^ d) := by
  rw [Nat.xor_assoc, Nat.xor_assoc, ← Nat.xor_assoc b, ← Nat.xor_assoc c, Nat.xor_comm b c]
theorem xor_cancel (a b : Nat) : a ^^^ b ^^^ b = a := by rw [Nat.xor_assoc, Nat.xor_self, Nat.xor_zero]
theorem xor_eq_zero {a b : Nat} (h : a ^^^ b = 0) : a = b := by
  have := xor_cancel a b
  rw [h, Nat.zero_xor] at this
  exact this.symm

theorem sh_xor (a b : Nat) : sh (a ^^^ b) = sh a ^^^ sh b := by
  unfold sh
  rw [Nat.xor_div_two]
  have hm : (a ^^^ b) % 2 = (a + b) % 2 := by
    have h : (a ^^^ b) % 2 ^ 1 = a % 2 ^ 1 ^^^ b % 2 ^ 1 := Nat.xor_mod_two_pow
    rw [Nat.pow_one] at h
    rw [h]
    rcases Nat.mod_two_eq_zero_or_one a with ha | ha <;> rcases Nat.mod_two_eq_zero_or_one b with hb | hb <;> rw [ha, hb, Nat.add_mod, ha, hb] <;> rfl
  by_cases ha : a % 2 = 1 <;> by_cases hb : b % 2 = 1
  · rw [if_neg (by omega), if_pos ha, if_pos hb, xor_swap, Nat.xor_self, Nat.xor_zero]
  · rw [if_pos (by omega), if_pos ha, if_neg hb, Nat.xor_assoc, Nat.xor_assoc, Nat.xor_comm (b / 2)]
  · rw [if_pos (by omega), if_neg ha, if_pos hb, Nat.xor_assoc]
  · rw [if_neg (by omega), if_neg ha, if_neg hb]
theorem sh_lt {v : Nat} (h : v < 4294967296) : sh v < 4294967296 := by
  unfold sh
  split
  · exact Nat.xor_lt_two_pow (n := 32) (by omega) (by omega)
  · omega
theorem sh_zero : sh 0 = 0 := rfl
theorem sh_eq_zero {v : Nat} (hv : v < 4294967296) (h : sh v = 0) : v = 0 := by
  unfold sh at h
  split at h
  · have := xor_eq_zero h
    omega
  · omega

theorem shN_xor (k : Nat) : ∀ a b, shN k (a ^^^ b) = shN k a ^^^ shN k b := by
  induction k with
  | zero => intro a b; rfl
  | succ k ih => intro a b; simp only [shN]; rw [sh_xor, ih]
theorem shN_lt (k : Nat) : ∀ {v : Nat}, v < 4294967296 → shN k v < 4294967296 := by
  induction k with
  | zero => intro v h; exact h
  | succ k ih => intro v h; exact ih (sh_lt h)
theorem shN_zero (k : Nat) : shN k 0 = 0 := by
  induction k with
  | zero => rfl
  | succ k ih => exact ih
theorem shN_eq_zero (k : Nat) : ∀ {v : Nat}, v < 4294967296 → shN k v = 0 → v = 0 := by
  induction k with
  | zero => intro v _ h; exact h
  | succ k ih => intro v hv h; exact sh_eq_zero hv (ih (sh_lt hv) h)
theorem shN_add (j k : Nat) : ∀ v, shN (j + k) v = shN k (shN j v) := by
  induction j with
  | zero => intro v; rw [Nat.zero_add]; rfl
  | succ j ih => intro v; rw [Nat.add_right_comm]; exact ih (sh v)
theorem shN_comm (j k v : Nat) : shN j (shN k v) = shN k (shN j v) := by rw [← shN_add, ← shN_add, Nat.add_comm]
theorem shN_succ' (k v : Nat) : shN (k + 1) v = sh (shN k v) := shN_add k 1 v
theorem shN_pow (j : Nat) : shN j (2 ^ j) = 1 := by
  induction j with
  | zero => rfl
  | succ j ih =>
    have h : sh (2 ^ (j + 1)) = 2 ^ j := by
      unfold sh
      rw [Nat.pow_succ, if_neg (by omega)]
      omega
    show shN j (sh (2 ^ (j + 1))) = 1
    rw [h, ih]
/-- A bit that is put in later counts as one that stands higher. -/
theorem shN_bit {m k : Nat} (h : k ≤ m) : shN (m - k) 1 = shN m (2 ^ k) := by
  rw [← shN_pow k, ← shN_add, show k + (m - k) = m by omega]

/-! Bytes, as a function of their index. -/
def run (v : Nat) (f : Nat → Nat) : Nat → Nat
  | 0 => v
  | k + 1 => shN 8 (run v f k ^^^ f k)
def ff : Nat := 4294967295
def sum (f : Nat → Nat) (n : Nat) : Nat := run ff f n ^^^ ff

theorem run_lt {v : Nat} {f : Nat → Nat} (hv : v < 4294967296) (hf : ∀ i, f i < 256) : ∀ n, run v f n < 4294967296
  | 0 => hv
  | n + 1 => shN_lt 8 (Nat.xor_lt_two_pow (n := 32) (run_lt hv hf n) (by have := hf n; omega))
theorem run_congr {v : Nat} {f g : Nat → Nat} : ∀ n, (∀ i, i < n → f i = g i) → run v f n = run v g n
  | 0, _ => rfl
  | n + 1, h => by simp only [run]; rw [run_congr n fun i hi => h i (by omega), h n (by omega)]
/-- The sum is linear. -/
theorem run_xor (u v : Nat) (f g : Nat → Nat) : ∀ n, run (u ^^^ v) (fun i => f i ^^^ g i) n = run u f n ^^^ run v g n
  | 0 => rfl
  | n + 1 => by simp only [run]; rw [run_xor u v f g n, xor_swap, shN_xor]
theorem run_zero : ∀ n, run 0 (fun _ => 0) n = 0
  | 0 => rfl
  | n + 1 => by simp only [run]; rw [run_zero n]; exact shN_zero 8
theorem run_shift (v : Nat) : ∀ n, run v (fun _ => 0) n = shN (8 * n) v
  | 0 => rfl
  | n + 1 => by simp only [run]; rw [run_shift v n, Nat.xor_zero, ← shN_add, Nat.mul_succ]
theorem run_start (v : Nat) (f : Nat → Nat) (n : Nat) : run v f n = shN (8 * n) v ^^^ run 0 f n := by
  have h := run_xor v 0 (fun _ => 0) f n
  simp only [Nat.xor_zero, Nat.zero_xor] at h
  rw [h, run_shift]
/-- Bytes, and others behind them. -/
theorem run_append (v : Nat) (f : Nat → Nat) (m : Nat) : ∀ n, run v f (m + n) = run (run v f m) (fun i => f (m + i)) n
  | 0 => rfl
  | n + 1 => by rw [← Nat.add_assoc]; simp only [run]; rw [run_append v f m n]

/-- What is joined. -/
def join (a b n : Nat) : Nat := shN (8 * n) a ^^^ b
theorem sum_zero (f : Nat → Nat) : sum f 0 = 0 := Nat.xor_self _
theorem sum_lt {f : Nat → Nat} (hf : ∀ i, f i < 256) (n : Nat) : sum f n < 4294967296 :=
  Nat.xor_lt_two_pow (n := 32) (run_lt (by unfold ff; omega) hf n) (by unfold ff; omega)
theorem ff_sub {v : Nat} (h : v < 4294967296) : v ^^^ ff = ff - v := by
  have e : (4294967295 : Nat) = 2 ^ 32 - 1 := rfl
  unfold ff
  rw [e]
  apply Nat.eq_of_testBit_eq
  intro i
  rw [Nat.testBit_xor, Nat.testBit_two_pow_sub_one, Nat.sub_sub, Nat.add_comm 1 v, Nat.testBit_two_pow_sub_succ (show v < 2 ^ 32 by omega)]
  by_cases hi : i < 32
  · simp [hi]
  · have hv : v.testBit i = false := Nat.testBit_lt_two_pow (Nat.lt_of_lt_of_le (show v < 2 ^ 32 by omega) (Nat.pow_le_pow_right (by omega) (by omega)))
    simp [hi, hv]
theorem sum_sub {f : Nat → Nat} (hf : ∀ i, f i < 256) (n : Nat) : sum f n = ff - run ff f n := ff_sub (run_lt (by unfold ff; omega) hf n)
theorem sum_append (f : Nat → Nat) (m n : Nat) : sum f (m + n) = join (sum f m) (sum (fun i => f (m + i)) n) n := by
  unfold sum join
  rw [run_append, run_start (run ff f m), run_start ff (fun i => f (m + i)), shN_xor]
  generalize shN (8 * n) (run ff f m) = a
  generalize shN (8 * n) ff = b
  generalize run 0 (fun i => f (m + i)) n = c
  rw [← Nat.xor_assoc, ← Nat.xor_assoc, xor_cancel]
theorem join_assoc (x y z n m : Nat) : join (join x y n) z m = join x (join y z m) (n + m) := by
  unfold join
  rw [shN_xor, ← shN_add, Nat.xor_assoc, ← Nat.mul_add]
theorem join_far (a b n m : Nat) : join a b (n + m) = join (join a 0 n) b m := by
  unfold join
  rw [Nat.xor_zero, ← shN_add, ← Nat.mul_add]
theorem join_zero (b n : Nat) : join 0 b n = b := by unfold join; rw [shN_zero, Nat.zero_xor]

/-- Three rows. -/
theorem sum_mixed (f g h : Nat → Nat) (n : Nat) : sum (fun i => f i ^^^ g i ^^^ h i) n = sum f n ^^^ sum g n ^^^ sum h n := by
  unfold sum
  have e : run ff (fun i => f i ^^^ g i ^^^ h i) n = run ff f n ^^^ run ff g n ^^^ run ff h n := by
    have h1 := run_xor (ff ^^^ ff) ff (fun i => f i ^^^ g i) h n
    rw [run_xor ff ff f g n] at h1
    simpa [Nat.xor_self] using h1
  rw [e]
  generalize run ff f n = a
  generalize run ff g n = b
  generalize run ff h n = c
  rw [xor_swap a ff b ff, Nat.xor_self, Nat.xor_zero, Nat.xor_assoc (a ^^^ b) c ff]

/-- One bit is turned about. -/
def flip (f : Nat → Nat) (i j : Nat) : Nat → Nat := fun k => if k = i then f k ^^^ 2 ^ j else f k
theorem run_one (i b : Nat) : ∀ n, i < n → run 0 (fun k => if k = i then b else 0) n = shN (8 * (n - i)) b
  | 0, h => absurd h (by omega)
  | n + 1, h => by
    simp only [run]
    by_cases e : n = i
    · subst e
      rw [if_pos rfl, run_congr n (g := fun _ => 0) (fun k hk => if_neg (by omega)), run_zero, Nat.zero_xor, show n + 1 - n = 1 by omega]
    · rw [if_neg e, run_one i b n (by omega), Nat.xor_zero, ← shN_add, show 8 * (n - i) + 8 = 8 * (n + 1 - i) by omega]
theorem run_flip (v : Nat) (f : Nat → Nat) {i j n : Nat} (h : i < n) : run v (flip f i j) n = run v f n ^^^ shN (8 * (n - i)) (2 ^ j) := by
  rw [← run_one i (2 ^ j) n h]
  have h1 := run_xor v 0 f (fun k => if k = i then 2 ^ j else 0) n
  rw [Nat.xor_zero] at h1
  rw [← h1]
  apply run_congr
  intro k _
  unfold flip
  split
  · rfl
  · rw [Nat.xor_zero]
/-- .. by its number. -/
theorem run_flip_bit (v : Nat) (f : Nat → Nat) {p n : Nat} (h : p < 8 * n) : run v (flip f (p / 8) (p % 8)) n = run v f n ^^^ shN (8 * n - p) 1 := by
  rw [run_flip v f (show p / 8 < n by omega), ← shN_bit (show p % 8 ≤ 8 * (n - p / 8) by omega), show 8 * (n - p / 8) - p % 8 = 8 * n - p by omega]

/-- Bits that stand together, turned about one by one. -/
def turn (over at_ : Nat) (f : Nat → Nat) : Nat → (Nat → Nat)
  | 0 => f
  | k + 1 => if over / 2 ^ k % 2 = 1 then flip (turn over at_ f k) ((at_ + k) / 8) ((at_ + k) % 8) else turn over at_ f k
theorem mod_pow_succ (x k : Nat) : x % 2 ^ (k + 1) = if x / 2 ^ k % 2 = 1 then x % 2 ^ k ^^^ 2 ^ k else x % 2 ^ k := by
  have h1 : x % 2 ^ (k + 1) = x % 2 ^ k + 2 ^ k * (x / 2 ^ k % 2) := by rw [Nat.pow_succ, Nat.mod_mul]
  have hlt : x % 2 ^ k < 2 ^ k := Nat.mod_lt _ (Nat.two_pow_pos k)
  split
  · rename_i h
    rw [h1, h, Nat.mul_one, Nat.add_comm, Nat.xor_comm]
    have h2 := Nat.shiftLeft_add_eq_or_of_lt hlt 1
    rw [Nat.shiftLeft_eq, Nat.one_mul] at h2
    rw [h2]
    apply Nat.eq_of_testBit_eq
    intro j
    rw [Nat.testBit_or, Nat.testBit_xor]
    by_cases hj : j = k
    · subst hj
      rw [Nat.testBit_lt_two_pow hlt]
      simp
    · rw [Nat.testBit_two_pow_of_ne (fun e => hj e.symm)]
      simp
  · rename_i h
    have h0 : x / 2 ^ k % 2 = 0 := by omega
    rw [h1, h0, Nat.mul_zero, Nat.add_zero]
theorem run_turn (v : Nat) (f : Nat → Nat) {over at_ n : Nat} (h : at_ + 32 ≤ 8 * n) : ∀ k, k ≤ 32 → run v (turn over at_ f k) n = run v f n ^^^ shN (8 * n - at_) (over % 2 ^ k)
  | 0, _ => by simp [turn, Nat.mod_one, shN_zero]
  | k + 1, hk => by
    rw [mod_pow_succ]
    unfold turn
    by_cases hb : over / 2 ^ k % 2 = 1
    · rw [if_pos hb, if_pos hb, run_flip_bit v _ (show at_ + k < 8 * n by omega), run_turn v f h k (by omega), shN_xor, ← shN_bit (show k ≤ 8 * n - at_ by omega), Nat.xor_assoc, show 8 * n - (at_ + k) = 8 * n - at_ - k by omega]
    · rw [if_neg hb, if_neg hb, run_turn v f h k (by omega)]
/-- Bytes that differ within 32 bits that stand together have different sums. -/
theorem sum_turn (f : Nat → Nat) {over at_ n : Nat} (ho : over < 4294967296) (h : at_ + 32 ≤ 8 * n) : sum (turn over at_ f 32) n = sum f n ↔ over = 0 := by
  unfold sum
  rw [run_turn ff f h 32 (Nat.le_refl _), Nat.mod_eq_of_lt (show over < 2 ^ 32 by omega)]
  constructor
  · intro e
    have e2 := congrArg (· ^^^ ff) e
    simp only [xor_cancel] at e2
    have e3 : shN (8 * n - at_) over = 0 := by
      have e4 := congrArg (run ff f n ^^^ ·) e2
      simp only [← Nat.xor_assoc, Nat.xor_self, Nat.zero_xor] at e4
      exact e4
    exact shN_eq_zero _ ho e3
  · rintro rfl
    rw [shN_zero, Nat.xor_zero]

/-! A table of a byte's eight steps. -/
theorem split_xor (x k : Nat) : x = x % 2 ^ k ^^^ 2 ^ k * (x / 2 ^ k) := by
  apply Nat.eq_of_testBit_eq
  intro j
  rw [Nat.testBit_xor, Nat.testBit_mod_two_pow, Nat.testBit_two_pow_mul, Nat.testBit_div_two_pow]
  by_cases h : j < k
  · simp [h, show ¬ k ≤ j by omega]
  · simp [h, show k ≤ j by omega, show j - k + k = j by omega]
theorem shN_mul (k : Nat) : ∀ q, shN k (2 ^ k * q) = q := by
  induction k with
  | zero => intro q; simp [shN]
  | succ k ih =>
    intro q
    have h : sh (2 ^ (k + 1) * q) = 2 ^ k * q := by
      unfold sh
      rw [Nat.pow_succ, Nat.mul_right_comm, if_neg (by omega)]
      omega
    show shN k (sh (2 ^ (k + 1) * q)) = q
    rw [h, ih]
theorem shN_table (k v : Nat) : shN k v = shN k (v % 2 ^ k) ^^^ v / 2 ^ k := by
  have h := congrArg (shN k) (split_xor v k)
  rw [shN_xor, shN_mul] at h
  exact h
theorem shN8_table (v : Nat) : shN 8 v = shN 8 (v % 256) ^^^ v / 256 := shN_table 8 v

/-! A linear map, by what it makes of each bit. -/
def byBits (t : Nat → Nat) (v : Nat) : Nat → Nat
  | 0 => 0
  | k + 1 => if v / 2 ^ k % 2 = 1 then byBits t v k ^^^ t k else byBits t v k
theorem byBits_lin {f t : Nat → Nat} (hf : ∀ a b, f (a ^^^ b) = f a ^^^ f b) (v n : Nat) (ht : ∀ i, i < n → t i = f (2 ^ i)) : ∀ k, k ≤ n → byBits t v k = f (v % 2 ^ k)
  | 0, _ => by
    have h := hf 0 0
    rw [Nat.xor_self] at h
    have h0 : f 0 = 0 := by rw [Nat.xor_self] at h; exact h
    simp [byBits, Nat.mod_one, h0]
  | k + 1, hk => by
    unfold byBits
    rw [mod_pow_succ]
    by_cases hb : v / 2 ^ k % 2 = 1
    · rw [if_pos hb, if_pos hb, byBits_lin hf v n ht k (by omega), hf, ht k (by omega)]
    · rw [if_neg hb, if_neg hb, byBits_lin hf v n ht k (by omega)]
theorem byBits_all {f t : Nat → Nat} (hf : ∀ a b, f (a ^^^ b) = f a ^^^ f b) {v : Nat} (hv : v < 4294967296) (ht : ∀ i, i < 32 → t i = f (2 ^ i)) : byBits t v 32 = f v := by
  rw [byBits_lin hf v 32 ht 32 (Nat.le_refl _), Nat.mod_eq_of_lt (show v < 2 ^ 32 by omega)]

end Go.Proofs.YtoopoemkickpkaaDoor.CrcM
