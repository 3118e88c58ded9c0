import Derived.Test.YtfijagjkgmhimaaInoP1
namespace Go.Proofs.Ytfijagjkgmhimaa
open Go.RowKit

/-! The document's own: places, whether an inode may be. -/
set_option maxHeartbeats 1000000 in
theorem rPlace_any (at_ : Int) (w : World) : Calls Try.prog 19 #[.int .i64 at_] w fun e w' => e = .returned (.bool (placeB at_)) ∧ w' = w := by
  by_cases a0 : at_ = 0
  · subst a0
    go_enter Try.func19, Try.ntmps19
    go_wp2
    go_ret
    exact ⟨rfl, rfl⟩
  · have d0 : (at_ == 0) = false := by simpa using a0
    by_cases a1 : at_ = 64
    · subst a1
      go_enter Try.func19, Try.ntmps19
      go_wp2
      go_ret
      exact ⟨rfl, rfl⟩
    · have d1 : (at_ == 64) = false := by simpa using a1
      by_cases a2 : at_ = 128
      · subst a2
        go_enter Try.func19, Try.ntmps19
        go_wp2
        go_ret
        exact ⟨rfl, rfl⟩
      · have d2 : (at_ == 128) = false := by simpa using a2
        have E : Hid (placeB at_ = (at_ == 192)) := Lib.hid (by rw [Bool.eq_iff_iff, placeB_iff]; unfold PlaceI; simp; omega)
        clear a0 a1 a2
        go_enter Try.func19, Try.ntmps19
        go_wp2
        go_ret
        exact ⟨by rw [E.out]; rfl, rfl⟩
@[irreducible] def noneK (x : InoV) (k : Nat) : Bool := decide (x.ln = 0 ∧ x.sz = 0 ∧ x.nx = 0) && (List.range k).all fun i => x.p.f i == 0
theorem noneK_0 (x : InoV) : noneK x 0 = decide (x.ln = 0 ∧ x.sz = 0 ∧ x.nx = 0) := by unfold noneK; simp
theorem noneK_succ (x : InoV) (k : Nat) : noneK x (k + 1) = (noneK x k && (x.p.f k == 0)) := by
  unfold noneK
  rw [List.range_succ, List.all_append, Bool.and_assoc]; simp
theorem noneK_all {x : InoV} (h : x.kd = 0) : noneK x 11 = mayB x := by
  rw [Bool.eq_iff_iff, mayB_iff]
  unfold noneK MayI
  rw [Bool.and_eq_true, decide_eq_true_iff, List.all_eq_true]
  constructor
  · rintro ⟨⟨h1, h2, h3⟩, h4⟩
    exact .inl ⟨h, h1, h2, Ptrs.same fun i hi => by have := h4 i (List.mem_range.2 hi); simp at this; rw [this]; rfl, h3⟩
  · rintro (⟨_, h1, h2, h3, h4⟩ | ⟨h1, _⟩ | ⟨h1, _⟩)
    · exact ⟨⟨h1, h2, h4⟩, fun i _ => by rw [h3]; rfl⟩
    · omega
    · omega
set_option maxRecDepth 100000 in
set_option maxHeartbeats 4000000 in
theorem rMay (x : InoV) (w : World) (hx : x.Fits) : Calls Try.prog 13 #[.agg (ics x)] w fun e w' => e = .returned (.bool (mayB x)) ∧ Below w.heap.size w w' := by
  have V : Hid (IVar (w.alloc (.cells (ics x) 27)) w.heap.size x) := Lib.hid (heap_alloc_new w _)
  have B := Lib.hid (below_new w (.cells (ics x) 27))
  have c0 := V.out.cell (ics_0 x)
  have c1 := V.out.cell (ics_1 x)
  have c3 := V.out.cell (ics_3 x)
  have c15 := V.out.cell (ics_15 x)
  obtain ⟨hk, hl, hg, hs, hn⟩ := hx
  rcases (by omega : x.kd = 0 ∨ x.kd = 1 ∨ x.kd = 2 ∨ 3 ≤ x.kd) with k | k | k | k
  · have E := Lib.hid (noneK_all k)
    rw [k] at c0
    clear k
    go_enter Try.func13, Try.ntmps13
    go_upto_region 3 with fail
    generalize w.alloc (.cells (ics x) 27) = w1 at V B c0 c1 c3 c15 ⊢
    go_cut [3] from 9 to 21 (fun s3 wx => s3 = .bool (noneK x 0) ∧ IVar wx w.heap.size x ∧ Below w.heap.size w wx)
    case first =>
      by_cases q1 : x.ln = 0
      · have d1 : (x.ln == 0) = true := by simpa using q1
        by_cases q2 : x.sz = 0
        · have d2 : (x.sz == 0) = true := by simpa using q2
          have E0 := Lib.hid (show noneK x 0 = ((x.nx : Int) == 0) by rw [noneK_0, Bool.eq_iff_iff]; simp [q1, q2])
          clear q1 q2
          go_wp2
          go_meet
          exact ⟨by rw [E0.out], V.out, B.out⟩
        · have d2 : (x.sz == 0) = false := by simpa using q2
          have E0 := Lib.hid (show noneK x 0 = false by rw [noneK_0]; simp [q2])
          clear q1 q2
          go_wp2
          go_meet
          exact ⟨by rw [E0.out], V.out, B.out⟩
      · have d1 : (x.ln == 0) = false := by simpa using q1
        have E0 := Lib.hid (show noneK x 0 = false by rw [noneK_0]; simp [q1])
        clear q1
        go_wp2
        go_meet
        exact ⟨by rw [E0.out], V.out, B.out⟩
    case rest =>
      obtain ⟨rfl, hv, hb⟩ := hcut
      have V2 := Lib.hid hv
      have B2 := Lib.hid hb
      clear hv hb V B c0 c1 c3 c15
      go_wp2_with fail
      go_loopw [3, 4] (fun nv iv wr => ∃ k : Nat, k ≤ 11 ∧ nv = .bool (noneK x k) ∧ iv = .int .i64 k ∧ IVar wr w.heap.size x ∧ Below w.heap.size w wr) (fun _ iv _ => 11 - (intOf iv).toNat)
      case atStart => exact ⟨0, Nat.zero_le _, rfl, rfl, V2.out, B2.out⟩
      case round =>
        obtain ⟨k, hk, rfl, rfl, hv, hb⟩ := hrel
        have V := Lib.hid hv
        have B := Lib.hid hb
        clear hv hb V2 B2
        by_cases hlt : k < 11
        · have cK := V.out.cell (ics_p x hlt)
          rcases hb : noneK x k with _ | _
          · have E1 := Lib.hid (show noneK x (k + 1) = false by rw [noneK_succ, hb]; rfl)
            clear hb
            go_wp2
            go_roundw
            case rel => exact ⟨k + 1, by omega, by rw [E1.out], by congr 1, V.out, B.out⟩
            case measure => simp [intOf]; omega
          · have E1 := Lib.hid (show noneK x (k + 1) = (((x.p.f k : Nat) : Int) == 0) by rw [noneK_succ, hb, Bool.eq_iff_iff]; simp)
            clear hb
            go_wp2
            go_roundw
            case rel => exact ⟨k + 1, by omega, by rw [E1.out], by congr 1, V.out, B.out⟩
            case measure => simp [intOf]; omega
        · obtain rfl : k = 11 := by omega
          go_wp2
          go_ret
          exact ⟨by rw [← E.out]; rfl, B.out⟩
  · rw [k] at c0
    by_cases q3 : 0 ≤ x.ln
    · have d3 : (decide (0 ≤ x.ln)) = true := by simp; omega
      by_cases q2 : x.ln ≤ 1000
      · have d2 : (decide (x.ln ≤ 1000)) = true := by simp; omega
        by_cases q1 : 0 ≤ x.sz
        · have d1 : (decide (0 ≤ x.sz)) = true := by simp; omega
          have E := Lib.hid (show mayB x = decide (x.sz ≤ 16777216) by rw [Bool.eq_iff_iff, mayB_iff]; unfold MayI; simp; omega)
          clear k
          go_enter Try.func13, Try.ntmps13
          go_wp2
          go_ret
          exact ⟨by rw [E.out]; rfl, B.out⟩
        · have d1 : (decide (0 ≤ x.sz)) = false := by simp; omega
          have E := Lib.hid (show mayB x = false by rw [Bool.eq_iff_iff, mayB_iff]; unfold MayI; simp; omega)
          clear k
          go_enter Try.func13, Try.ntmps13
          go_wp2
          go_ret
          exact ⟨by rw [E.out]; rfl, B.out⟩
      · have d2 : (decide (x.ln ≤ 1000)) = false := by simp; omega
        have E := Lib.hid (show mayB x = false by rw [Bool.eq_iff_iff, mayB_iff]; unfold MayI; simp; omega)
        clear k
        go_enter Try.func13, Try.ntmps13
        go_wp2
        go_ret
        exact ⟨by rw [E.out]; rfl, B.out⟩
    · have d3 : (decide (0 ≤ x.ln)) = false := by simp; omega
      have E := Lib.hid (show mayB x = false by rw [Bool.eq_iff_iff, mayB_iff]; unfold MayI; simp; omega)
      clear k
      go_enter Try.func13, Try.ntmps13
      go_wp2
      go_ret
      exact ⟨by rw [E.out]; rfl, B.out⟩
  · rw [k] at c0
    have ht : 0 ≤ x.sz → x.sz.tmod 256 = x.sz % 256 := fun q => Int.tmod_eq_emod_of_nonneg q
    by_cases q4 : x.ln = 1
    · have d4 : (x.ln == 1) = true := by simp; omega
      by_cases q3 : 0 ≤ x.sz
      · have d3 : (decide (0 ≤ x.sz)) = true := by simp; omega
        by_cases q2 : x.sz ≤ 16777216
        · have d2 : (decide (x.sz ≤ 16777216)) = true := by simp; omega
          by_cases q1 : x.sz.tmod 256 = 0
          · have d1 : (x.sz.tmod 256 == 0) = true := by simp; omega
            have E := Lib.hid (show mayB x = ((x.nx : Int) == 0) by rw [Bool.eq_iff_iff, mayB_iff]; unfold MayI; simp; omega)
            clear k
            go_enter Try.func13, Try.ntmps13
            go_wp2
            go_ret
            exact ⟨by rw [E.out]; rfl, B.out⟩
          · have d1 : (x.sz.tmod 256 == 0) = false := by simp; omega
            have E := Lib.hid (show mayB x = false by rw [Bool.eq_iff_iff, mayB_iff]; unfold MayI; simp; omega)
            clear k
            go_enter Try.func13, Try.ntmps13
            go_wp2
            go_ret
            exact ⟨by rw [E.out]; rfl, B.out⟩
        · have d2 : (decide (x.sz ≤ 16777216)) = false := by simp; omega
          have E := Lib.hid (show mayB x = false by rw [Bool.eq_iff_iff, mayB_iff]; unfold MayI; simp; omega)
          clear k
          go_enter Try.func13, Try.ntmps13
          go_wp2
          go_ret
          exact ⟨by rw [E.out]; rfl, B.out⟩
      · have d3 : (decide (0 ≤ x.sz)) = false := by simp; omega
        have E := Lib.hid (show mayB x = false by rw [Bool.eq_iff_iff, mayB_iff]; unfold MayI; simp; omega)
        clear k
        go_enter Try.func13, Try.ntmps13
        go_wp2
        go_ret
        exact ⟨by rw [E.out]; rfl, B.out⟩
    · have d4 : (x.ln == 1) = false := by simp; omega
      have E := Lib.hid (show mayB x = false by rw [Bool.eq_iff_iff, mayB_iff]; unfold MayI; simp; omega)
      clear k
      go_enter Try.func13, Try.ntmps13
      go_wp2
      go_ret
      exact ⟨by rw [E.out]; rfl, B.out⟩
  · have E := Lib.hid (mayB_other (x := x) (by omega) (by omega) (by omega))
    have d0 : ((x.kd : Int) == 0) = false := by simp; omega
    have d1 : ((x.kd : Int) == 1) = false := by simp; omega
    have d2 : ((x.kd : Int) == 2) = false := by simp; omega
    go_enter Try.func13, Try.ntmps13
    go_wp2
    go_ret
    exact ⟨by rw [E.out]; rfl, B.out⟩
end Go.Proofs.Ytfijagjkgmhimaa
