import Derived.Test.YtfijagjkgmhimaaInoS
namespace Go.Proofs.Ytfijagjkgmhimaa
open Go.RowKit

/-! Two inodes held against one another. -/
/-- Arrays of whole numbers of one kind. -/
theorem equalIn_ints {P : Program} {w : World} (d : Nat) (t e : TypeId) (n : Nat) (k : IntKind) (ht : P.underlying t = some (.array n e)) (he : P.underlying e = some (.int k)) (hsz : ∀ w, (sizeOf e).run P w = .ok 1 w)
    (A B : Array Value) (f g : Nat → Int) (hA : ∀ i, i < n → A[i]? = some (.int k (f i))) (hB : ∀ i, i < n → B[i]? = some (.int k (g i))) :
    (Op.equalIn (d + 2) t (.agg A) (.agg B)).run P w = .ok ((List.range n).all fun i => f i == g i) w := by
  rw [List.range_eq_range', Op.equalIn]
  simp only [Sem.run_bind, run_underlying ht, Result.andThen_ok, hsz, Std.Legacy.Range.forIn_eq_forIn_range', Std.Legacy.Range.size, Nat.sub_zero, Nat.add_sub_cancel, Nat.div_one]
  have hl : ∀ i ∈ List.range' 0 n 1, i < n := fun i hi => by simpa using (List.mem_range'_1.1 hi).2
  generalize List.range' 0 n 1 = l at hl ⊢
  induction l with
  | nil => simp
  | cons i l ih =>
    have hi : i < n := hl i (by simp)
    have px : (part e A (i * 1)).run P w = .ok (.int k (f i)) w := by
      simp [part, isAgg, run_underlying he, hA i hi]
    have py : (part e B (i * 1)).run P w = .ok (.int k (g i)) w := by
      simp [part, isAgg, run_underlying he, hB i hi]
    have pe : (Op.equalIn (d + 1) e (.int k (f i)) (.int k (g i))).run P w = .ok (f i == g i) w := by
      rw [run_equalIn_int w d e k k _ _ he]
    simp only [List.forIn_cons, Sem.run_bind, px, py, pe, Result.andThen_ok, List.all_cons]
    cases hb : (f i == g i)
    · simp
    · simp only [Bool.not_true, Bool.false_eq_true, if_false, Sem.run_pure, Result.andThen_ok, Bool.true_and]
      exact ih fun j hj => hl j (by simp [hj])
theorem u32_size (w : World) : (sizeOf 24).run Try.prog w = .ok 1 w := by kernel_rfl
theorem equalIn_pts (p q : Ptrs) (w : World) : (Op.equalIn 9999 25 (.agg (pts p)) (.agg (pts q))).run Try.prog w = .ok (decide (p = q)) w := by
  rw [equalIn_ints (P := Try.prog) 9997 25 24 11 .u32 Try.underlying25 Try.underlying24 u32_size (pts p) (pts q) (fun i => ((p.f i : Nat) : Int)) (fun i => ((q.f i : Nat) : Int)) (fun i hi => pts_p p hi) (fun i hi => pts_p q hi)]
  congr 1
  rw [Bool.eq_iff_iff, List.all_eq_true, decide_eq_true_iff]
  constructor
  · intro h
    refine Ptrs.same fun i hi => ?_
    have := h i (List.mem_range.2 hi)
    simp at this
    omega
  · rintro rfl i _
    simp
set_option maxRecDepth 100000 in
set_option maxHeartbeats 4000000 in
theorem equalIn_ino (x y : InoV) (w : World) : (Op.equalIn 10000 27 (.agg (ics x)) (.agg (ics y))).run Try.prog w = .ok (decide (x = y)) w := by
  have e : decide (x = y) = ((x.kd : Int) == (y.kd : Int) && (x.ln == y.ln && ((x.gen : Int) == (y.gen : Int) && (x.sz == y.sz && (decide (x.p = y.p) && ((x.nx : Int) == (y.nx : Int))))))) := by
    rw [Bool.eq_iff_iff]
    simp [InoV.eq_iff]
    constructor
    · rintro ⟨h1, h2, h3, h4, h5, h6⟩; exact ⟨by omega, h2, by omega, h4, h5, by omega⟩
    · rintro ⟨h1, h2, h3, h4, h5, h6⟩; exact ⟨by omega, h2, by omega, h4, h5, by omega⟩
  have hp := equalIn_pts x.p y.p w
  rw [pts_eq, pts_eq] at hp
  rw [e, ics_eq, ics_eq]
  generalize x.ln = x2
  generalize x.sz = x4
  generalize y.ln = y2
  generalize y.sz = y4
  generalize (x.kd : Int) = x1
  generalize (x.gen : Int) = x3
  generalize (x.nx : Int) = x5
  generalize (y.kd : Int) = y1
  generalize (y.gen : Int) = y3
  generalize (y.nx : Int) = y5
  go_simp
  by_cases h1 : x1 = y1 <;> by_cases h2 : x2 = y2 <;> by_cases h3 : x3 = y3 <;> by_cases h4 : x4 = y4 <;> by_cases h6 : x.p = y.p <;> by_cases h5 : x5 = y5 <;> simp [h1, h2, h3, h4, h5, h6]
end Go.Proofs.Ytfijagjkgmhimaa
