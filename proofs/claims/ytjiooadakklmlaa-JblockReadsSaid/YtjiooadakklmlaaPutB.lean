import Derived.Test.YtjiooadakklmlaaBlk0
import Derived.Test.YtjiooadakklmlaaNumsMath2
namespace Go.Proofs.Ytjiooadakklmlaa
open Go.RowKit

/-! Blocks into which numbers are put, told plainly. -/
def putB16 (x : Blk) (a v : Nat) : Blk := .of (p16 x.f a v) fun i _ => p16_lt x.lt a v i
def putB32 (x : Blk) (a v : Nat) : Blk := .of (p32 x.f a v) fun i _ => p32_lt x.lt a v i
theorem putB16_f {x : Blk} {a v i : Nat} (h : i < 256) : (putB16 x a v).f i = p16 x.f a v i := Blk.of_f h
theorem putB32_f {x : Blk} {a v i : Nat} (h : i < 256) : (putB32 x a v).f i = p32 x.f a v i := Blk.of_f h
theorem putB16_off {x : Blk} {a v i : Nat} (h : i < a ∨ a + 2 ≤ i) : (putB16 x a v).f i = x.f i := by
  by_cases hi : i < 256
  · rw [putB16_f hi, p16_off _ _ _ _ h]
  · rw [Blk.past _ i (by omega), Blk.past _ i (by omega)]
theorem putB32_off {x : Blk} {a v i : Nat} (h : i < a ∨ a + 4 ≤ i) : (putB32 x a v).f i = x.f i := by
  by_cases hi : i < 256
  · rw [putB32_f hi, p32_off _ _ _ _ h]
  · rw [Blk.past _ i (by omega), Blk.past _ i (by omega)]
theorem g16_putB16 {x : Blk} {a v : Nat} (h : a + 2 ≤ 256) (hv : v < 65536) : g16 (putB16 x a v).f a = v := by
  unfold g16
  rw [putB16_f (by omega), putB16_f (by omega), p16_at, p16_at, if_neg (by omega), if_pos rfl, if_pos rfl]; omega
theorem g32_putB32 {x : Blk} {a v : Nat} (h : a + 4 ≤ 256) (hv : v < 4294967296) : g32 (putB32 x a v).f a = v := by
  unfold g32
  rw [putB32_f (by omega), putB32_f (by omega), putB32_f (by omega), putB32_f (by omega), p32_0, p32_1, p32_2, p32_3]; omega
theorem g16_putB16_off {x : Blk} {a b v : Nat} (h : b + 2 ≤ a ∨ a + 2 ≤ b) : g16 (putB16 x a v).f b = g16 x.f b := by
  unfold g16; rw [putB16_off (by omega), putB16_off (by omega)]
theorem g32_putB16_off {x : Blk} {a b v : Nat} (h : b + 4 ≤ a ∨ a + 2 ≤ b) : g32 (putB16 x a v).f b = g32 x.f b := by
  unfold g32; rw [putB16_off (by omega), putB16_off (by omega), putB16_off (by omega), putB16_off (by omega)]
theorem g16_putB32_off {x : Blk} {a b v : Nat} (h : b + 2 ≤ a ∨ a + 4 ≤ b) : g16 (putB32 x a v).f b = g16 x.f b := by
  unfold g16; rw [putB32_off (by omega), putB32_off (by omega)]
theorem g32_putB32_off {x : Blk} {a b v : Nat} (h : b + 4 ≤ a ∨ a + 4 ≤ b) : g32 (putB32 x a v).f b = g32 x.f b := by
  unfold g32; rw [putB32_off (by omega), putB32_off (by omega), putB32_off (by omega), putB32_off (by omega)]
theorem same16 {x y : Blk} {a : Nat} (h : g16 x.f a = g16 y.f a) : x.f a = y.f a ∧ x.f (a + 1) = y.f (a + 1) := by
  unfold g16 at h
  have := x.lt a; have := y.lt a; have := x.lt (a + 1); have := y.lt (a + 1)
  omega
theorem same32 {x y : Blk} {a : Nat} (h : g32 x.f a = g32 y.f a) : x.f a = y.f a ∧ x.f (a + 1) = y.f (a + 1) ∧ x.f (a + 2) = y.f (a + 2) ∧ x.f (a + 3) = y.f (a + 3) := by
  unfold g32 at h
  have := x.lt a; have := y.lt a; have := x.lt (a + 1); have := y.lt (a + 1)
  have := x.lt (a + 2); have := y.lt (a + 2); have := x.lt (a + 3); have := y.lt (a + 3)
  omega
theorem g16_congr {f h : Nat → Nat} {a : Nat} (e : ∀ i, a ≤ i → i < a + 2 → f i = h i) : g16 f a = g16 h a := by
  unfold g16; rw [e a (by omega) (by omega), e (a + 1) (by omega) (by omega)]
theorem g32_congr {f h : Nat → Nat} {a : Nat} (e : ∀ i, a ≤ i → i < a + 4 → f i = h i) : g32 f a = g32 h a := by
  unfold g32; rw [e a (by omega) (by omega), e (a + 1) (by omega) (by omega), e (a + 2) (by omega) (by omega), e (a + 3) (by omega) (by omega)]
end Go.Proofs.Ytjiooadakklmlaa
