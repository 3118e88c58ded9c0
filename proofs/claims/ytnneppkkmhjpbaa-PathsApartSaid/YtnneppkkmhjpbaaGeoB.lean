import Derived.Test.YtnneppkkmhjpbaaRows
import Derived.WalkKit
import Derived.WalkSpells
import Derived.WalkLawsBesides
import Derived.Lib.Hide
import Derived.Laws.BitsAllLaws
import Derived.Laws.Rows
import Derived.Laws.NewBlocks
import Derived.Deep.MidRow
import Derived.Deep.WholeRow
import Derived.Deep.LoopGhost
import Derived.Outline
import Derived.Below
import Derived.Stop.BytesEq
import Derived.Laws.MakeOwn
import Derived.Deep.QuietTactic
import Derived.BigQuiet
namespace Go.Proofs.Ytnneppkkmhjpbaa
open Go.RowKit

/-- One walk in the text's order, in a class of worlds that every operation and every callee keeps (their values must be the same in all of them). -/
theorem wp_region_class {id : Nat} {Q : Exit → Act → World → Prop} {a : Act} {w : World} {l : List Oper} (C : World → Prop) (hm : Try.prog.follows .mixedOrders = true) (hB : Region.lexB .any l.toArray = true) (hC : C w.drew)
    (h : wpQuiet Try.prog l.toArray C (fun a' => ∀ w', C w' → Q .normal a' w') l a) : (Code.region id l.toArray true).wp Try.prog Q a w :=
  wp_region_quiet (C := C) hm hB hC (by simpa using h)
/-- The worlds that have only more memory than w. -/
def More (w w' : World) : Prop := Below w.heap.size w w'
theorem More.drew (w : World) : More w w.drew := ⟨rfl, rfl, rfl, Nat.le_refl _, fun _ _ => rfl⟩
theorem More.on {w w' w'' : World} (h : More w w') (hb : Below w'.heap.size w' w'') : More w w'' := Below.trans h (hb.mono (Below.size h))
def I64 (i : Int) : Prop := -9223372036854775808 ≤ i ∧ i ≤ 9223372036854775807
/-- A number that is read in such a region. -/
theorem quiet_int {o : Oper} {a : Act} {C : World → Prop} {K : Act → Prop} (x : Operand) (ho : o.op = .load 3 x) (p : Addr) (hx : a.eval x = .pointer (some p)) (k : Int) (hc : ∀ w, C w → w.cell? p = some (.int .i64 k))
    (hk : K (a.put o.dst (.int .i64 k))) : o.quiet Try.prog a C K := by
  refine ⟨_, fun w hw => ?_, hk⟩
  have h := hc w hw
  unfold Oper.quietAt execOp
  simp only [ho, hx]
  go_simp
  first | done | exact ⟨rfl, hw⟩ | exact hw
end Go.Proofs.Ytnneppkkmhjpbaa
