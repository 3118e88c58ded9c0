import Derived.Test.YtoopoemkickpkaaDoorEnv
import Derived.Test.YtoopoemkickpkaaDoorRowOpen
import Derived.Test.YtoopoemkickpkaaDoorTie
import Derived.ProofKit
import Derived.LaidMore
import Derived.OpenShut
import Derived.Stop.Joined
namespace Go.Proofs.YtoopoemkickpkaaDoor
open Go.ChangeShapes Go.WideShapes Go.ChangeAt Go.RowKit CrcM

theorem stand_of {P : Program} {ps : Array TypeId} (h : (ps.toList.all fun t => !P.wantsStandIn t) = true) : ∀ (j : Nat) t, ps[j]? = some t → P.wantsStandIn t = false := by
  intro j t ht
  rw [List.all_eq_true] at h
  have := h t (by rw [Array.mem_toList_iff]; exact Array.mem_of_getElem? ht)
  simpa using this

/-- The listed variables, as every row of this seat lists them. -/
abbrev laids {H : Type} : List (String × DataW H) := [("quern/crc.steps", Rows.laid_quern_crc_steps)]
theorem gSteps : Tryd.prog.globalNamed "quern/crc.steps" = some 0 := by kernel_rfl
theorem tSteps : (Tryd.prog.globals[0]?).map (·.type) = some 41 := by kernel_rfl

/-- The door's own heap meets the condition. -/
theorem door_met (os : Os) (args : Array Value) : laidMetH Tryd.prog laids ((World.doorLaid Tryd.prog 100 os).forCall (fun _ _ => 0) ⟨#[], args, []⟩).memory :=
  laidMetH_of_parts3 (fuel := 8) (laidMet_of_run' 8 (by kernel_rfl) (by kernel_rfl)) (by kernel_rfl) (by kernel_rfl)

def steps16 : List Nat := [0, 498536548, 997073096, 651767980, 1994146192, 1802195444, 1303535960, 1342533948, 3988292384, 4027552580, 3604390888, 3412177804, 2607071920, 2262029012, 2685067896, 3183342108]
theorem steps16_at : ∀ i, i < 16 → steps16[i]? = some (shN 4 i) := by decide +kernel

/-- What the condition gives: the table's cells. -/
theorem env_of_laid {W : World} (h : laidMetH Tryd.prog laids W) : Env W := by
  rw [MakeChecks.laidMetH_plain _ _ _ (by kernel_rfl)] at h
  obtain ⟨ps, ⟨g0, t0, cs0, f0, p0, q0, hg0, ht0, hv0, hd0, _, _⟩, _, _⟩ := h
  obtain rfl := Option.some.inj (gSteps.symm.trans hg0)
  obtain rfl := Option.some.inj (tSteps.symm.trans ht0)
  have c1 : Tryd.prog.cellsOf 25 = 1 := by kernel_rfl
  obtain ⟨xs, m1, rfl, hx1, hlen, hn, hel⟩ := DataW.trod_array Tryd.underlying41 hd0
  have hx := congrArg Prod.fst hx1
  simp only at hx
  have hL : xs.map (·.1) = steps16.map (fun n => DataW.lit (.int .u32 ((n : Nat) : Int))) := by
    have : (DataW.agg (steps16.map (fun n => DataW.lit (.int .u32 ((n : Nat) : Int)))) : DataW Unit) = DataW.agg (xs.map (·.1)) := hx
    injection this with this
    exact this.symm
  have hcell : ∀ i, i < 16 → W.cell? ⟨0, i, none⟩ = some (.int .u32 ((shN 4 i : Nat) : Int)) := by
    intro i hi
    have h1 := hel i hi
    have h2 : (xs.map (·.1))[i]? = some (DataW.lit (.int .u32 ((shN 4 i : Nat) : Int))) := by
      rw [hL, List.getElem?_map, steps16_at i hi]; rfl
    rw [List.getElem?_map] at h2
    rcases hxi : xs[i]? with _ | x
    · rw [hxi] at h2; cases h2
    rw [hxi] at h1 h2
    obtain ⟨k, e1, e2, _⟩ := DataW.trod_int Tryd.underlying25 h1
    rw [e2] at h2
    simp at h2
    rw [c1, Nat.mul_one] at e1
    have h3 := World.var?_cell hg0 hv0 i
    have h4 : cs0.toList[i]? = some (.int .u32 k) := by
      have := congrArg (·[0]?) e1
      simpa using this
    rw [h3, ← h2, ← h4]
    simp
  exact ⟨by simpa using World.block_lt_of_cell? _ _ (hcell 0 (by omega)), hcell⟩

end Go.Proofs.YtoopoemkickpkaaDoor
