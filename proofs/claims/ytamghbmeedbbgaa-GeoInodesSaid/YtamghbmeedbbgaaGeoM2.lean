import Derived.Test.YtamghbmeedbbgaaGeoM
namespace Go.Proofs.Ytamghbmeedbbgaa
open Go.RowKit

/-! What stands where. -/
def kindG (g : GeoV) (a : Int) : Int := if a = 0 then 4 else if a = 1 then 5 else if a < 2 + g.ino / 4 then 6 else 7
theorem group_below {gr sz k a : Int} (h1 : k < gr) (h2 : 0 ≤ sz) (h3 : a < sz) : k * sz + a < gr * sz := by
  have := Int.mul_le_mul_of_nonneg_right (show k + 1 ≤ gr by omega) h2
  rw [Int.add_mul, Int.one_mul] at this
  omega
theorem what_at {g : GeoV} (hm : May g) {k a : Int} (h0 : 0 ≤ k) (h1 : k < g.gr) (h2 : 0 ≤ a) (h3 : a < g.sz) : whatG g (2 + g.jr + k * g.sz + a) = (kindG g a, k, a) := by
  have hm' := hm
  obtain ⟨m1, m2, m3, m4, m5, m6, m7, m8, m9, m10, m11⟩ := hm'
  have hb := group_below (a := a) h1 (by omega) h3
  have hk : 0 ≤ k * g.sz := Int.mul_nonneg h0 (by omega)
  have e : 2 + g.jr + k * g.sz + a - 2 - g.jr = a + k * g.sz := by omega
  unfold whatG blocksG
  rw [if_pos hm, if_neg (by simp only [hm, not_true_eq_false, false_or]; omega), if_neg (by omega), if_neg (by omega), if_neg (by omega), e]
  rw [Int.add_mul_ediv_right _ _ (by omega), Int.add_mul_emod_self_right, Int.ediv_eq_zero_of_lt h2 h3, Int.emod_eq_of_lt h2 h3, Int.zero_add]
  rfl
theorem what_end {g : GeoV} (hm : May g) : whatG g (2 + g.jr + g.gr * g.sz) = (0, 0, 0) := by
  unfold whatG blocksG
  rw [if_pos hm, if_pos (by right; right; omega)]
theorem kind_last {g : GeoV} (hm : May g) : kindG g (g.sz - 1) = 7 := by
  obtain ⟨m1, m2, m3, m4, m5, m6, m7, m8, m9, m10, m11⟩ := hm
  unfold kindG
  rw [if_neg (by omega), if_neg (by omega), if_neg (by omega)]
theorem what_next {g : GeoV} (hm : May g) {k : Int} (h0 : 0 ≤ k) (h1 : k < g.gr) : (whatG g (2 + g.jr + k * g.sz + g.sz)).1 = if k = g.gr - 1 then 0 else 4 := by
  have e : k * g.sz + g.sz = (k + 1) * g.sz := by rw [Int.add_mul, Int.one_mul]
  rw [Int.add_assoc, e]
  by_cases h : k = g.gr - 1
  · rw [if_pos h, show k + 1 = g.gr by omega, what_end hm]
  · rw [if_neg h]
    have := what_at hm (k := k + 1) (a := 0) (by omega) (by omega) (by omega) (by have := hm.2.2.1; omega)
    rw [Int.add_zero] at this
    rw [this]
    rfl
end Go.Proofs.Ytamghbmeedbbgaa
