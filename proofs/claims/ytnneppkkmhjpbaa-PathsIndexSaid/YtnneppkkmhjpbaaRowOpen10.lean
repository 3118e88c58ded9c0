import Derived.Test.YtnneppkkmhjpbaaOpen
import Derived.Test.YtnneppkkmhjpbaaRowOpen
import Derived.Test.YtnneppkkmhjpbaaPaS
namespace Go.Proofs.Ytnneppkkmhjpbaa
open Go.ChangeShapes Go.WideShapes Go.ChangeAt Go.RowKit Go.Deep

/-! Lists of plain numbers that come in. -/
abbrev R10Int (k : IntKind) : World → List Value → Int → Prop := fun _ cs n => cs = [.int k n] ∧ (Lit.int k n).wf = true
abbrev R10Sl (e : TypeId) {α : Type} (R : World → List Value → α → Prop) : World → List Value → Option Addr × Nat × List α → Prop := fun w cs q => cs = [.slice q.1 q.2.2.length q.2.1] ∧ SlR Try.prog e R w q.1 q.2.2.length q.2.1 q.2.2
theorem cells10_int : Try.prog.cellsOf 3 = 1 := by kernel_rfl
theorem ints10_of {w : World} {A : Option Addr} {len cap : Nat} {l : List Int} (h : SlR Try.prog 3 (R10Int .i64) w A len cap l) : IntsAt w A l := fun h0 => by
  obtain ⟨b, o, e, hb, hc⟩ := h.mem h0
  rw [cells10_int] at hc
  refine ⟨b, o, e, hb, fun i p hp => ?_⟩
  obtain ⟨cs, _, hr, rfl, _⟩ := hc i p hp
  have := hr 0 _ rfl
  rwa [Nat.mul_one, Nat.add_zero] at this
section
variable {H : Type} {enc : TypeId × Value → H} {W : World} {A : Option Addr} {n c : Nat} {d : DataW H} {p : List MemPlace} {ts : List TypeId} {ds : List (DataW H)} {j : Nat}
theorem opened_ints10 (hsz : (DataW.weightsEach Try.prog ts ds).all (· ≤ reachBytes) = true) (htj : ts[j]? = some 22) (hdj : ds[j]? = some d)
    (hT : DataW.Trod enc Try.prog W 0 (fun _ => true) true 22 (.slice A n c) d p) : ∃ l : List Int, n = l.length ∧ IntsAt W A l ∧ (∀ x ∈ l, I64 x) ∧ n ≤ c := by
  have h : Reads Try.prog 22 (R10Sl 3 (R10Int .i64)) := Reads.slice Try.underlying22 (by rw [cells10_int]; omega) (Reads.int Try.underlying3)
  obtain ⟨q, e1, hS⟩ := h.arg hsz htj hdj hT
  simp [Value.cells] at e1
  obtain ⟨e1, e2, e3⟩ := e1
  subst e1 e2 e3
  refine ⟨_, rfl, ints10_of hS, fun x hx => ?_, hS.le⟩
  obtain ⟨i, hi⟩ := List.getElem?_of_mem hx
  obtain ⟨b, o, _, _, hc⟩ := hS.mem (by have := (List.getElem?_eq_some_iff.1 hi).1; omega)
  obtain ⟨cs, _, _, _, w1⟩ := hc i x hi
  exact wf_i64 w1
end
end Go.Proofs.Ytnneppkkmhjpbaa
