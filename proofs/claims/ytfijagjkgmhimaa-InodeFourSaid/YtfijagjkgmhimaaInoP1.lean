import Derived.Test.YtfijagjkgmhimaaInoE
import Derived.Test.YtfijagjkgmhimaaVals
import Derived.Test.YtfijagjkgmhimaaClassTail
import Derived.Deep.RegionWith
import Derived.Deep.CutBlock
namespace Go.Proofs.Ytfijagjkgmhimaa
open Go.RowKit

/-! The landed package: places, bounds, whether an inode may be. -/
def placeB (at_ : Int) : Bool := decide (PlaceI at_)
theorem placeB_iff (at_ : Int) : placeB at_ = true ↔ PlaceI at_ := by unfold placeB; exact decide_eq_true_iff
theorem placeB_no {at_ : Int} (h : at_ < 0 ∨ 256 ≤ at_) : placeB at_ = false := by rw [← Bool.not_eq_true, placeB_iff]; unfold PlaceI; omega
theorem placeB_in {at_ : Int} (h : 0 ≤ at_) (h1 : at_ < 256) : placeB at_ = decide (at_ % 64 = 0) := by rw [Bool.eq_iff_iff, placeB_iff, decide_eq_true_iff]; unfold PlaceI; omega
def toB (v most : Int) : Bool := decide (0 ≤ v ∧ v ≤ most)
theorem tmod64 (x : Int) (h : 0 ≤ x) : x.tmod 64 = x % 64 := Int.tmod_eq_emod_of_nonneg h
theorem isPlace_any (at_ : Int) (w : World) (h0 : -9223372036854775808 ≤ at_) (h1 : at_ ≤ 9223372036854775807) :
    Calls Try.prog 17 #[.int .i64 at_] w fun e w' => e = .returned (.bool (placeB at_)) ∧ w' = w := by
  go_enter Try.func17, Try.ntmps17
  by_cases a0 : 0 ≤ at_
  · by_cases a1 : at_ < 256
    · have e : at_.tmod 64 = at_ % 64 := tmod64 at_ a0
      rw [placeB_in a0 a1]
      have d0 : decide (0 ≤ at_) = true := by simp; omega
      have d1 : decide (at_ < 256) = true := by simp; omega
      go_wp2
      go_ret
      refine ⟨?_, rfl⟩
      show Ending.returned (.bool (at_ % 64 == 0)) = _
      congr 2
    · rw [placeB_no (by omega)]
      have d0 : decide (0 ≤ at_) = true := by simp; omega
      have d1 : decide (at_ < 256) = false := by simp; omega
      go_wp2
      go_ret
      exact ⟨rfl, rfl⟩
  · rw [placeB_no (by omega)]
    have d0 : decide (0 ≤ at_) = false := by simp; omega
    go_wp2
    go_ret
    exact ⟨rfl, rfl⟩
theorem upTo_any (v most : Int) (w : World) : Calls Try.prog 22 #[.int .i64 v, .int .i64 most] w fun e w' => e = .returned (.bool (toB v most)) ∧ w' = w := by
  go_enter Try.func22, Try.ntmps22
  by_cases a0 : 0 ≤ v
  · have d0 : decide (0 ≤ v) = true := by simp; omega
    have ep : toB v most = decide (v ≤ most) := by unfold toB; rw [Bool.eq_iff_iff, decide_eq_true_iff, decide_eq_true_iff]; omega
    rw [ep]
    go_wp2
    go_ret
    exact ⟨rfl, rfl⟩
  · have ep : toB v most = false := by unfold toB; rw [decide_eq_false_iff_not]; omega
    rw [ep]
    have d0 : decide (0 ≤ v) = false := by simp; omega
    go_wp2
    go_ret
    exact ⟨rfl, rfl⟩
noncomputable def mayB (x : InoV) : Bool := decide (MayI x)
theorem mayB_iff (x : InoV) : mayB x = true ↔ MayI x := by unfold mayB; exact decide_eq_true_iff
/-- Whether it may be, told by its kind. -/
theorem mayB_0 {x : InoV} (h : x.kd = 0) : mayB x = decide (x = ⟨0, 0, x.gen, 0, .zero, 0⟩) := by
  rw [Bool.eq_iff_iff, mayB_iff, decide_eq_true_iff, InoV.eq_iff]
  unfold MayI
  constructor
  · rintro (⟨h1, h2, h3, h4, h5⟩ | ⟨h1, _⟩ | ⟨h1, _⟩)
    · exact ⟨h1, h2, rfl, h3, h4, h5⟩
    · omega
    · omega
  · rintro ⟨h1, h2, _, h3, h4, h5⟩; exact .inl ⟨h1, h2, h3, h4, h5⟩
theorem mayB_1 {x : InoV} (h : x.kd = 1) : mayB x = (toB x.ln 1000 && toB x.sz 16777216) := by
  rw [Bool.eq_iff_iff, mayB_iff, Bool.and_eq_true]
  unfold MayI toB
  rw [decide_eq_true_iff, decide_eq_true_iff]
  constructor
  · rintro (⟨h1, _⟩ | ⟨_, h1, h2, h3, h4⟩ | ⟨h1, _⟩) <;> omega
  · rintro ⟨⟨h1, h2⟩, h3, h4⟩; exact .inr (.inl ⟨h, h1, h2, h3, h4⟩)
theorem mayB_2 {x : InoV} (h : x.kd = 2) : mayB x = (decide (x.ln = 1) && (decide (x.sz.tmod 256 = 0) && (decide (x.nx = 0) && (toB x.ln 1000 && toB x.sz 16777216)))) := by
  have ht : 0 ≤ x.sz → x.sz.tmod 256 = x.sz % 256 := fun q => Int.tmod_eq_emod_of_nonneg q
  rw [Bool.eq_iff_iff, mayB_iff, Bool.and_eq_true, Bool.and_eq_true, Bool.and_eq_true, Bool.and_eq_true]
  unfold MayI toB
  simp only [decide_eq_true_iff]
  constructor
  · rintro (⟨h1, _⟩ | ⟨h1, _⟩ | ⟨_, h1, h2, h3, h4, h5⟩)
    · omega
    · omega
    · have := ht h2; omega
  · rintro ⟨h1, h2, h3, ⟨h4, h5⟩, h6, h7⟩
    have := ht h6
    exact .inr (.inr ⟨h, h1, h6, h7, by omega, h3⟩)
theorem mayB_other {x : InoV} (h0 : x.kd ≠ 0) (h1 : x.kd ≠ 1) (h2 : x.kd ≠ 2) : mayB x = false := by
  rw [← Bool.not_eq_true, mayB_iff]; unfold MayI; omega
set_option maxRecDepth 100000 in
set_option maxHeartbeats 2000000 in
theorem pMay (x : InoV) (w : World) (hx : x.Fits) : Calls Try.prog 12 #[.agg (ics x)] w fun e w' => e = .returned (.bool (mayB x)) ∧ Below w.heap.size w w' := by
  have V : Hid (IVar (w.alloc (.cells (ics x) 27)) w.heap.size x) := Lib.hid (heap_alloc_new w _)
  have B := Lib.hid (below_new w (.cells (ics x) 27))
  have c0 := V.out.cell (ics_0 x)
  have c1 := V.out.cell (ics_1 x)
  have c2 := V.out.cell (ics_2 x)
  have c3 := V.out.cell (ics_3 x)
  have c15 := V.out.cell (ics_15 x)
  obtain ⟨hk, hl, hg, hs, hn⟩ := hx
  rcases (by omega : x.kd = 0 ∨ x.kd = 1 ∨ x.kd = 2 ∨ 3 ≤ x.kd) with k | k | k | k
  · have E := Lib.hid (mayB_0 k)
    rw [k] at c0
    clear k
    go_enter Try.func12, Try.ntmps12
    go_upto_region 1 with fail
    generalize w.alloc (.cells (ics x) 27) = w1 at V B c0 c1 c2 c3 c15 ⊢
    have he := fun W => equalIn_ino x ⟨0, 0, x.gen, 0, .zero, 0⟩ W
    have hq := ino_guard
    go_wp2_with (first
      | (refine load_ino rfl (.tmp 1) rfl w.heap.size 0 rfl x V.out.at ?_)
      | (refine build_ino rfl _ rfl ⟨0, 0, x.gen, 0, .zero, 0⟩ (ino_built2 x.gen) ?_))
    go_ret
    exact ⟨by rw [E.out]; rfl, B.out⟩
  · have E := Lib.hid (mayB_1 k)
    rw [k] at c0
    clear k
    go_enter Try.func12, Try.ntmps12
    go_upto_region 1 with fail
    generalize w.alloc (.cells (ics x) 27) = w1 at V B c0 c1 c2 c3 c15 ⊢
    rcases h1 : toB x.ln 1000 with _ | _
    · go_wp2_with (go_at_call 22; refine (upTo_any _ _ _).mono ?_; rintro e w' ⟨rfl, rfl⟩)
      go_ret
      exact ⟨by rw [E.out]; simp [h1], B.out⟩
    · go_wp2_with (go_at_call 22; refine (upTo_any _ _ _).mono ?_; rintro e w' ⟨rfl, rfl⟩)
      go_ret
      exact ⟨by rw [E.out]; simp [h1], B.out⟩
  · have E := Lib.hid (mayB_2 k)
    rw [k] at c0
    clear k
    go_enter Try.func12, Try.ntmps12
    go_upto_region 1 with fail
    generalize w.alloc (.cells (ics x) 27) = w1 at V B c0 c1 c2 c3 c15 ⊢
    by_cases q1 : x.ln = 1
    · by_cases q2 : x.sz.tmod 256 = 0
      · by_cases q3 : x.nx = 0
        · have d1 : (x.ln != 1) = false := by simpa using q1
          have d2 : (x.sz.tmod 256 != 0) = false := by simpa using q2
          have d3 : ((x.nx : Int) != 0) = false := by simp; omega
          have h1 : toB 1 1000 = true := by decide
          go_wp2_with (go_at_call 22; refine (upTo_any _ _ _).mono ?_; rintro e w' ⟨rfl, rfl⟩)
          go_ret
          exact ⟨by rw [E.out]; simp [h1, q1, q2, q3], B.out⟩
        · have d1 : (x.ln != 1) = false := by simpa using q1
          have d2 : (x.sz.tmod 256 != 0) = false := by simpa using q2
          have d3 : ((x.nx : Int) != 0) = true := by simp; omega
          go_wp2
          go_ret
          exact ⟨by rw [E.out]; simp [q3], B.out⟩
      · have d1 : (x.ln != 1) = false := by simpa using q1
        have d2 : (x.sz.tmod 256 != 0) = true := by simpa using q2
        go_wp2
        go_ret
        exact ⟨by rw [E.out]; simp [q2], B.out⟩
    · have d1 : (x.ln != 1) = true := by simpa using q1
      go_wp2
      go_ret
      exact ⟨by rw [E.out]; simp [q1], B.out⟩
  · have E := Lib.hid (mayB_other (x := x) (by omega) (by omega) (by omega))
    have d0 : ((x.kd : Int) == 0) = false := by simp; omega
    have d1 : ((x.kd : Int) == 1) = false := by simp; omega
    have d2 : ((x.kd : Int) == 2) = false := by simp; omega
    go_enter Try.func12, Try.ntmps12
    go_wp2
    go_ret
    exact ⟨by rw [E.out]; rfl, B.out⟩
end Go.Proofs.Ytfijagjkgmhimaa
