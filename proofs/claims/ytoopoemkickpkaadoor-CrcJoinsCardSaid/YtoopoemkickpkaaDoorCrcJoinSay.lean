import Derived.Test.YtoopoemkickpkaaDoorRows
import Derived.Test.YtoopoemkickpkaaDoorCrcMath
import Derived.WalkSpells
import Derived.WalkLawsBesides
import Derived.Lib.Hide
import Derived.Deep.QuietTactic
import Derived.BigQuiet
import Derived.Deep.RegionWith
import Derived.Lib.SmallJoins
import Derived.Deep.Draws
import Derived.Below
import Derived.Laws.BitsAllLaws
namespace Go.Proofs.YtoopoemkickpkaaDoor
open Go.RowKit CrcM

/-- P2.2, of any numbers. -/
def joinZ (a b n : Int) : Int := if n < 0 then 0 else (join a.toNat b.toNat n.toNat : Nat)
def JoinSays : Prop := ∀ (a b n : Int) (w : World), 0 ≤ a → a < 4294967296 → 0 ≤ b → b < 4294967296 → -9223372036854775808 ≤ n → n ≤ 9223372036854775807 →
  Calls Tryd.prog 16 #[.int .u32 a, .int .u32 b, .int .i64 n] w fun e w' => e = .returned (.int .u32 (joinZ a b n)) ∧ Below w.heap.size w w'


theorem ret32 {a b : Int} (h : a = b) : Ending.returned (.int .u32 a) = .returned (.int .u32 b) := by rw [h]

end Go.Proofs.YtoopoemkickpkaaDoor
