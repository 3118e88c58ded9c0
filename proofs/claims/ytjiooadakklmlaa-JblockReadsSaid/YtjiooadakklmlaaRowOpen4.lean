import Derived.Test.YtjiooadakklmlaaOpenArr
import Derived.Test.YtjiooadakklmlaaRowOpen
import Derived.Test.YtjiooadakklmlaaBlk0
namespace Go.Proofs.Ytjiooadakklmlaa
open Go.ChangeShapes Go.WideShapes Go.ChangeAt Go.RowKit Go.Deep

/-! A block that comes in. -/
abbrev RU8 : World → List Value → Int → Prop := fun _ cs n => cs = [.int .u8 n] ∧ (Lit.int .u8 n).wf = true
abbrev RArr (t e : TypeId) (n : Nat) {α : Type} (R : World → List Value → α → Prop) : World → List Value → List α → Prop := fun w cs l => cs.length = Try.prog.cellsOf t ∧ l.length = n ∧ ∀ i x, l[i]? = some x → R w ((cs.drop (i * Try.prog.cellsOf e)).take (Try.prog.cellsOf e)) x
theorem blk_under : Try.prog.underlying 28 = some (.array 256 5) := by kernel_rfl
theorem blk_cells : Try.prog.cellsOf 28 = 256 := by kernel_rfl
theorem u8_cells : Try.prog.cellsOf 5 = 1 := by kernel_rfl
theorem reads_blk : Reads Try.prog 28 (RArr 28 5 256 RU8) := Reads.array blk_under (Reads.int Try.underlying5)
set_option maxRecDepth 100000 in
theorem opened_blk {H : Type} {enc : TypeId × Value → H} {W : World} {d : DataW H} {p : List MemPlace} {ts : List TypeId} {ds : List (DataW H)} {j : Nat} {v : Value} {base : Nat} (hok : Value.okWide Try.prog W .any base 28 v) (hsz : (DataW.weightsEach Try.prog ts ds).all (· ≤ reachBytes) = true) (htj : ts[j]? = some 28) (hdj : ds[j]? = some d)
    (hT : DataW.Trod enc Try.prog W 0 (fun _ => true) true 28 v d p) : ∃ X : Blk, v = .agg (arr X) := by
  obtain ⟨l, _, h2, h3⟩ := reads_blk.arg hsz htj hdj hT
  obtain ⟨cs, rfl, hcs⟩ := okWide_array blk_under hok
  rw [blk_cells] at hcs
  rw [u8_cells] at h3
  have hv : ∀ i, i < 256 → ∃ n : Int, l[i]? = some n ∧ cs[i]? = some (.int .u8 n) ∧ 0 ≤ n ∧ n < 256 := by
    intro i hi
    have e1 : l[i]? = some l[i] := List.getElem?_eq_getElem (by omega)
    obtain ⟨h4, h5⟩ := h3 i _ e1
    have h6 : cs.toList[i]? = some (.int .u8 l[i]) := by
      have := congrArg (·[0]?) h4
      simpa [List.getElem?_take, Value.cells] using this
    have h7 := wf_u8 h5
    exact ⟨l[i], e1, by simpa using h6, h7.1, h7.2⟩
  have hlt : ∀ i, i < 256 → (l.getD i 0).toNat < 256 := fun i hi => by
    obtain ⟨n, e1, _, h5, h6⟩ := hv i hi
    rw [List.getD_eq_getElem?_getD, e1]
    show n.toNat < 256
    omega
  refine ⟨Blk.of (fun i => (l.getD i 0).toNat) hlt, ?_⟩
  rw [arr_ext hcs fun i hi => ?_]
  obtain ⟨n, e1, e2, h5, h6⟩ := hv i hi
  rw [e2, Blk.of_f hi, List.getD_eq_getElem?_getD, e1]
  show _ = some (Value.int .u8 ((n.toNat : Nat) : Int))
  rw [Int.toNat_of_nonneg h5]
end Go.Proofs.Ytjiooadakklmlaa
