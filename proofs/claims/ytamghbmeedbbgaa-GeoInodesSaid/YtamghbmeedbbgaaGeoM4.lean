import Derived.Test.YtamghbmeedbbgaaGeoP7
namespace Go.Proofs.Ytamghbmeedbbgaa
open Go.RowKit

/-! How many blocks of each kind stand ahead of a block. -/
def cntW (g : GeoV) (i : Int) : Nat → Int
  | 0 => 0
  | b + 1 => cntW g i b + if (whatG g (b : Int)).1 = i then 1 else 0
theorem cnt_run {g : GeoV} {k : Nat} (hk : k < numG g) (hm : May g) (i : Int) : ∀ m : Nat, (m : Int) ≤ (partG g k).cnt → cntW g i ((partG g k).first.toNat + m) = cntW g i (partG g k).first.toNat + if (partG g k).kind = i then (m : Int) else 0
  | 0, _ => by simp
  | m + 1, h => by
    obtain ⟨q1, q2, q3, q4, q5, q6⟩ := partG_fits hm (Nat.le_of_lt hk)
    rw [← Nat.add_assoc, cntW, cnt_run hk hm i m (by omega), what_part hk (b := ((partG g k).first.toNat + m : Nat)) (by omega) (by omega)]
    by_cases e : (partG g k).kind = i
    · simp only [e, if_true]; omega
    · simp only [e, if_false]; omega
theorem cnt_part {g : GeoV} {k : Nat} (hk : k < numG g) (hm : May g) (i : Int) : cntW g i (partG g (k + 1)).first.toNat = cntW g i (partG g k).first.toNat + if (partG g k).kind = i then (partG g k).cnt else 0 := by
  obtain ⟨q1, q2, q3, q4, q5, q6⟩ := partG_fits hm (Nat.le_of_lt hk)
  have h := cnt_run hk hm i (partG g k).cnt.toNat (by omega)
  rw [← partG_next, show ((partG g k).first + (partG g k).cnt).toNat = (partG g k).first.toNat + (partG g k).cnt.toNat by omega, h, Int.toNat_of_nonneg q5]
def perW (g : GeoV) (i : Int) : Int := (if i = 4 then 1 else 0) + (if i = 5 then 1 else 0) + (if i = 6 then ownG g - 2 else 0) + (if i = 7 then g.sz - ownG g else 0)
def baseW (g : GeoV) (i : Int) : Int := (if i = 1 then 1 else 0) + (if i = 2 then 1 else 0) + (if i = 3 then g.jr else 0)
theorem flip_if {a b : Int} {x : Int} : (if a = b then x else 0) = (if b = a then x else 0) := by
  by_cases h : a = b
  · rw [if_pos h, if_pos h.symm]
  · rw [if_neg h, if_neg fun q => h q.symm]
theorem cnt_group {g : GeoV} (hm : May g) (i : Int) : ∀ q : Nat, (q : Int) ≤ g.gr → cntW g i (partG g (3 + 4 * q)).first.toNat = baseW g i + q * perW g i
  | 0, _ => by
    have hN : 3 ≤ numG g := by unfold numG; rw [if_pos hm]; omega
    have h0 := cnt_part (k := 0) (by omega) hm i
    have h1 := cnt_part (k := 1) (by omega) hm i
    have h2 := cnt_part (k := 2) (by omega) hm i
    rw [show 3 + 4 * 0 = 2 + 1 from rfl, h2, h1, h0]
    show 0 + (if (1 : Int) = i then (1 : Int) else 0) + (if (2 : Int) = i then (1 : Int) else 0) + (if (3 : Int) = i then g.jr else 0) = _
    unfold baseW
    rw [flip_if, flip_if (a := 2), flip_if (a := 3)]
    simp
  | q + 1, h => by
    have hN : 3 + 4 * q + 4 ≤ numG g := by unfold numG; rw [if_pos hm]; omega
    have h0 := cnt_part (k := 3 + 4 * q + 0) (by omega) hm i
    have h1 := cnt_part (k := 3 + 4 * q + 1) (by omega) hm i
    have h2 := cnt_part (k := 3 + 4 * q + 2) (by omega) hm i
    have h3 := cnt_part (k := 3 + 4 * q + 3) (by omega) hm i
    rw [partG_in g q (by omega)] at h0 h1 h2 h3
    have e0 := partG_in g q (i := 0) (by omega)
    have e1 := partG_in g q (i := 1) (by omega)
    have e2 := partG_in g q (i := 2) (by omega)
    have e3 := partG_in g q (i := 3) (by omega)
    rw [show 3 + 4 * (q + 1) = 3 + 4 * q + 3 + 1 by omega, h3, ← e3, show 3 + 4 * q + 3 = 3 + 4 * q + 2 + 1 from rfl, h2, ← e2, show 3 + 4 * q + 2 = 3 + 4 * q + 1 + 1 from rfl, h1, ← e1, show 3 + 4 * q + 1 = 3 + 4 * q + 0 + 1 from rfl, h0, ← e0, Nat.add_zero, cnt_group hm i q (by omega)]
    rw [show partG g (3 + 4 * q) = inG g q 0 from e0, show 3 + 4 * q + 1 + 1 + 1 = 3 + 4 * q + 3 from rfl, show 3 + 4 * q + 1 + 1 = 3 + 4 * q + 2 from rfl, e1, e2, e3]
    show baseW g i + q * perW g i + (if (4 : Int) = i then (1 : Int) else 0) + (if (5 : Int) = i then (1 : Int) else 0) + (if (6 : Int) = i then ownG g - 2 else 0) + (if (7 : Int) = i then g.sz - ownG g else 0) = _
    rw [flip_if (a := 4), flip_if (a := 5), flip_if (a := 6), flip_if (a := 7), Int.natCast_add, Int.add_mul]
    unfold perW
    generalize (q : Int) * _ = z
    omega
theorem cnt_all {g : GeoV} (hm : May g) (i : Int) : cntW g i (blocksG g).toNat = baseW g i + g.gr * perW g i := by
  have h := cnt_group hm i g.gr.toNat (by have := hm.1; omega)
  rw [Int.toNat_of_nonneg (by have := hm.1; omega)] at h
  rw [← h, ← first_num]
  unfold numG
  rw [if_pos hm]
theorem cnt_bounds (g : GeoV) (i : Int) : ∀ b : Nat, 0 ≤ cntW g i b ∧ cntW g i b ≤ b
  | 0 => by simp [cntW]
  | b + 1 => by
    have := cnt_bounds g i b
    rw [cntW]
    split <;> omega
theorem part_of_kind' {g : GeoV} {k : Nat} (hk : k + 3 < numG g) : May g ∧ ∃ q r : Nat, (q : Int) < g.gr ∧ r < 4 ∧ partG g (k + 3) = inG g q r := by
  have hm : May g := by
    by_cases h : May g
    · exact h
    · unfold numG at hk; rw [if_neg h] at hk; omega
  unfold numG at hk
  rw [if_pos hm] at hk
  have := hm.1
  exact ⟨hm, k / 4, k % 4, by omega, Nat.mod_lt _ (by omega), rfl⟩
theorem start_in' {g : GeoV} (hm : May g) {q : Nat} (hq : (q : Int) < g.gr) : inGroup g q = true ∧ startG g q = baseG g q := by
  have h : inGroup g q = true := by unfold inGroup; exact decide_eq_true ⟨hm, by omega, hq⟩
  exact ⟨h, by unfold startG; rw [h]; rfl⟩
theorem start_fits' {g : GeoV} {k : Int} (h : inGroup g k = true) : 0 ≤ startG g k ∧ startG g k ≤ 4096 := by
  obtain ⟨hm, h1, h2⟩ := of_decide_eq_true h
  obtain ⟨n, rfl⟩ := Int.eq_ofNat_of_zero_le h1
  have := inG_first hm (Int.le_of_lt h2)
  rw [(start_in' hm h2).2]
  omega
/-- What a block that there is is. -/
theorem what_facts {g : GeoV} {b : Int} (hm : May g) (h0 : 0 ≤ b) (h1 : b < blocksG g) : ∃ k q a : Int, whatG g b = (k, q, a) ∧ 1 ≤ k ∧ k ≤ 7 ∧ inGroup g q = true ∧ 0 ≤ a ∧ a ≤ 4096 ∧ (4 ≤ k → startG g q + a = b) ∧ (k = 3 → a + 2 = b) ∧ (k ≤ 2 → b = k - 1) := by
  rw [← first_num] at h1
  obtain ⟨k, hk, p1, p2⟩ := part_covers h0 _ h1
  have hw := what_part hk p1 p2
  have g0 : inGroup g 0 = true := decide_eq_true ⟨hm, by omega, by have := hm.1; omega⟩
  match k with
  | 0 =>
    simp [partG] at p1 p2
    refine ⟨_, _, _, hw, ?_⟩
    simp [partG, g0]; omega
  | 1 =>
    simp [partG] at p1 p2
    refine ⟨_, _, _, hw, ?_⟩
    simp [partG, g0]; omega
  | 2 =>
    have := hm.2.2.2.2.2.2.2.2.1
    simp [partG] at p1 p2
    refine ⟨_, _, _, hw, ?_⟩
    simp [partG, g0]; omega
  | k + 3 =>
    obtain ⟨hm', q, r, hq, hr, e⟩ := part_of_kind' hk
    rw [e] at hw p1 p2
    obtain ⟨s1, s2⟩ := start_in' hm hq
    have hif := inG_first hm (Int.le_of_lt hq)
    refine ⟨_, _, _, hw, ?_⟩
    have h : r = 0 ∨ r = 1 ∨ r = 2 ∨ r = 3 := by omega
    rcases h with rfl | rfl | rfl | rfl <;> simp only [inG] at p1 p2 ⊢ <;> rw [s1, s2] <;> refine ⟨by omega, by omega, rfl, by omega, by omega, fun _ => by omega, fun h => by omega, fun h => by omega⟩
end Go.Proofs.Ytamghbmeedbbgaa
