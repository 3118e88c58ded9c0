import Derived.Test.YtoopoemkickpkaaDoorCrcMul
import Derived.Below
import Derived.Deep.Draws
namespace Go.Proofs.YtoopoemkickpkaaDoor
open Go.RowKit CrcM

/-- What the program's own tables hold when a call begins: block 0 is the table of four steps. -/
def Env (w : World) : Prop := 0 < w.heap.size ∧ ∀ i, i < 16 → w.cell? ⟨0, i, none⟩ = some (.int .u32 ((shN 4 i : Nat) : Int))
theorem Env.below {w w' : World} (h : Env w) (hb : Below w.heap.size w w') : Env w' :=
  ⟨Nat.lt_of_lt_of_le h.1 hb.size, fun i hi => (hb.cell (p := ⟨0, i, none⟩) h.1).trans (h.2 i hi)⟩
theorem Env.drewN {w : World} (h : Env w) (k : Nat) : Env (w.drewN k) := h

end Go.Proofs.YtoopoemkickpkaaDoor
