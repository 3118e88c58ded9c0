import Derived.Test.YtamghbmeedbbgaaGeoM2
namespace Go.Proofs.Ytamghbmeedbbgaa
open Go.RowKit

/-! Numbers, homes, places. -/
theorem in_may {g : GeoV} {a : Int} (h : inInode g a = true) : May g ∧ 1 ≤ a ∧ a ≤ g.gr * g.ino := by
  unfold inInode at h
  have h := of_decide_eq_true h
  by_cases hm : May g
  · refine ⟨hm, h.1, ?_⟩
    have := h.2
    unfold inodesG at this
    rwa [if_pos hm] at this
  · have := h.2
    unfold inodesG at this
    rw [if_neg hm] at this
    omega
theorem home_in {g : GeoV} {a : Int} (h : inInode g a = true) : homeG g a = ((a - 1) / g.ino, (a - 1) % g.ino) := by unfold homeG; rw [if_pos h]
theorem home_bounds {g : GeoV} {a : Int} (h : inInode g a = true) : 0 ≤ (homeG g a).1 ∧ (homeG g a).1 < g.gr ∧ 0 ≤ (homeG g a).2 ∧ (homeG g a).2 < g.ino := by
  obtain ⟨hm, h1, h2⟩ := in_may h
  have hi : 0 < g.ino := by have := hm.2.2.2.2.1; omega
  rw [home_in h]
  refine ⟨Int.ediv_nonneg (by omega) (by omega), Int.ediv_lt_of_lt_mul hi (by omega), Int.emod_nonneg _ (by omega), Int.emod_lt_of_pos _ hi⟩
theorem home_back {g : GeoV} {a : Int} (h : inInode g a = true) : a = (homeG g a).1 * g.ino + (homeG g a).2 + 1 := by
  rw [home_in h]
  have := Int.mul_ediv_add_emod (a - 1) g.ino
  rw [Int.mul_comm] at this
  show a = (a - 1) / g.ino * g.ino + (a - 1) % g.ino + 1
  omega
theorem number_home {g : GeoV} {a : Int} (h : inInode g a = true) : numberG g (homeG g a).1 (homeG g a).2 = a := by
  obtain ⟨h1, h2, h3, h4⟩ := home_bounds h
  unfold numberG
  rw [if_pos ⟨by unfold inGroup; exact decide_eq_true ⟨(in_may h).1, h1, h2⟩, h3, h4⟩]
  exact (home_back h).symm
theorem home_inj {g : GeoV} {a b : Int} (ha : inInode g a = true) (hb : inInode g b = true) (h1 : (homeG g a).1 = (homeG g b).1) (h2 : (homeG g a).2 = (homeG g b).2) : a = b := by
  rw [home_back ha, home_back hb, h1, h2]
theorem inode_in {g : GeoV} {a : Int} (h : inInode g a = true) : inodeG g a = (2 + g.jr + (homeG g a).1 * g.sz + (2 + (homeG g a).2 / 4), (homeG g a).2 % 4 * 64) := by
  obtain ⟨h1, h2, h3, h4⟩ := home_bounds h
  unfold inodeG
  rw [if_pos h]
  have : startG g (homeG g a).1 = 2 + g.jr + (homeG g a).1 * g.sz := by
    unfold startG
    rw [show inGroup g (homeG g a).1 = true by unfold inGroup; exact decide_eq_true ⟨(in_may h).1, h1, h2⟩]
    rfl
  rw [this, Int.add_assoc]
theorem inode_inj {g : GeoV} {a b : Int} (ha : inInode g a = true) (hb : inInode g b = true) (h1 : (inodeG g a).1 = (inodeG g b).1) (h2 : (inodeG g a).2 = (inodeG g b).2) : a = b := by
  have hm := (in_may ha).1
  have m1 := hm.2.2.2.2.2.2.2.2.2.1
  have m2 := hm.2.2.1
  have m3 := hm.2.2.2.2.2.2.1
  obtain ⟨a1, a2, a3, a4⟩ := home_bounds ha
  obtain ⟨b1, b2, b3, b4⟩ := home_bounds hb
  have wa := what_at hm (k := (homeG g a).1) (a := 2 + (homeG g a).2 / 4) a1 a2 (by omega) (by omega)
  have wb := what_at hm (k := (homeG g b).1) (a := 2 + (homeG g b).2 / 4) b1 b2 (by omega) (by omega)
  rw [inode_in ha, inode_in hb] at h1 h2
  have e : (kindG g (2 + (homeG g a).2 / 4), (homeG g a).1, 2 + (homeG g a).2 / 4) = (kindG g (2 + (homeG g b).2 / 4), (homeG g b).1, 2 + (homeG g b).2 / 4) := by
    rw [← wa, ← wb]
    exact congrArg (whatG g) h1
  have e1 := congrArg (·.2.1) e
  have e2 := congrArg (·.2.2) e
  simp only at e1 e2
  have e3 : (homeG g a).2 % 4 * 64 = (homeG g b).2 % 4 * 64 := h2
  exact home_inj ha hb e1 (by omega)
end Go.Proofs.Ytamghbmeedbbgaa
