import Derived.Test.YtamghbmeedbbgaaOpen
import Derived.Test.YtamghbmeedbbgaaRowOpen
import Derived.Test.YtamghbmeedbbgaaGeoM
namespace Go.Proofs.Ytamghbmeedbbgaa
open Go.ChangeShapes Go.WideShapes Go.ChangeAt Go.RowKit Go.Deep

/-! A geometry that comes in. -/
abbrev RI : World → List Value → Int → Prop := fun _ cs n => cs = [.int .i64 n] ∧ (Lit.int .i64 n).wf = true
abbrev RCons {α β : Type} (R : World → List Value → α → Prop) (S : World → List Value → β → Prop) : World → List Value → α × β → Prop := fun w cs q => ∃ c r, cs = c ++ r ∧ R w c q.1 ∧ S w r q.2
abbrev RNil : World → List Value → Unit → Prop := fun _ _ _ => True
theorem geo_under : Try.prog.underlying 23 = some (.struct (Try.prog.fieldsOf 23)) := by kernel_rfl
theorem geo_fields : ∃ f0 f1 f2 f3 : Field, Try.prog.fieldsOf 23 = #[f0, f1, f2, f3] ∧ f0.offset = 0 ∧ f1.offset = 1 ∧ f2.offset = 2 ∧ f3.offset = 3 ∧ f0.type = 3 ∧ f1.type = 3 ∧ f2.type = 3 ∧ f3.type = 3 := ⟨_, _, _, _, rfl, rfl, rfl, rfl, rfl, rfl, rfl, rfl, rfl⟩
theorem cells_int : Try.prog.cellsOf 3 = 1 := by kernel_rfl
theorem cells_geo : Try.prog.cellsOf 23 = 4 := by kernel_rfl
theorem reads_geo : Reads Try.prog 23 (RCons RI (RCons RI (RCons RI (RCons RI RNil)))) := by
  obtain ⟨f0, f1, f2, f3, e, o0, o1, o2, o3, t0, t1, t2, t3⟩ := geo_fields
  refine Reads.struct geo_under ?_
  rw [e]
  have ri := Reads.int Try.underlying3
  exact ReadsFs.cons o0 (by rw [t0]; exact ri) (ReadsFs.cons (by rw [o1, t0, cells_int]) (by rw [t1]; exact ri) (ReadsFs.cons (by rw [o2, t0, t1, cells_int]) (by rw [t2]; exact ri) (ReadsFs.cons (by rw [o3, t0, t1, t2, cells_int]) (by rw [t3]; exact ri) ReadsFs.nil)))
theorem opened_geo {H : Type} {enc : TypeId × Value → H} {W : World} {d : DataW H} {p : List MemPlace} {ts : List TypeId} {ds : List (DataW H)} {j : Nat} {v : Value} {base : Nat} (hok : Value.okWide Try.prog W .any base 23 v) (hsz : (DataW.weightsEach Try.prog ts ds).all (· ≤ reachBytes) = true) (htj : ts[j]? = some 23) (hdj : ds[j]? = some d)
    (hT : DataW.Trod enc Try.prog W 0 (fun _ => true) true 23 v d p) : ∃ g : GeoV, v = .agg (gcs g) ∧ g.Fits := by
  obtain ⟨q, c, r, e, ⟨rfl, w0⟩, c1, r1, rfl, ⟨rfl, w1⟩, c2, r2, rfl, ⟨rfl, w2⟩, c3, r3, rfl, ⟨rfl, w3⟩, _⟩ := reads_geo.arg hsz htj hdj hT
  obtain ⟨cs, rfl, hcs⟩ := okWide_struct geo_under hok
  rw [cells_geo] at hcs
  have e' : cs.toList = [.int .i64 q.1] ++ ([.int .i64 q.2.1] ++ ([.int .i64 q.2.2.1] ++ ([.int .i64 q.2.2.2.1] ++ r3))) := e
  have hr : r3 = [] := List.eq_nil_of_length_eq_zero (by
    have h1 := congrArg List.length e'
    rw [Array.length_toList, hcs] at h1
    simp at h1
    first
      | omega
      | (rw [h1]; rfl)
      | simpa using h1)
  subst hr
  have e2 : cs = #[.int .i64 q.1, .int .i64 q.2.1, .int .i64 q.2.2.1, .int .i64 q.2.2.2.1] := by
    rw [← Array.toList_inj, e']; rfl
  exact ⟨⟨q.1, q.2.1, q.2.2.1, q.2.2.2.1⟩, by rw [e2, gcs_eq], ⟨wf_i64 w0, wf_i64 w1, wf_i64 w2, wf_i64 w3⟩⟩
end Go.Proofs.Ytamghbmeedbbgaa
