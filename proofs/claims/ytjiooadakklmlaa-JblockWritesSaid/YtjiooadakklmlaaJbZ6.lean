import Derived.Test.YtjiooadakklmlaaJbL6
import Derived.Test.YtjiooadakklmlaaJbP10
namespace Go.Proofs.Ytjiooadakklmlaa
open Go.RowKit
theorem jWrites_i (h : HeadV) (A B : Option Addr) (c c' : Nat) (l : List TagV) (m : List Nat) (ct sm : Int) (w : World) (hT : TagsAt w A l) (hN : NumsAt w B m) (hsT : SmallT l) (hsN : Small32 m) (hsm : 0 ≤ sm ∧ sm < 4294967296) : Calls Try.prog 3 #[.agg (hcs h), .slice A l.length c, .slice B m.length c', .int .i64 ct, .int .u32 sm] w fun e w' => e = .returned (.bool true) ∧ Below w.heap.size w w' := by
  obtain ⟨n, rfl⟩ : ∃ n : Nat, sm = (n : Int) := ⟨sm.toNat, by omega⟩
  exact jWrites pJSays h A B c c' l m ct n w hT hN hsT hsN (by omega)
end Go.Proofs.Ytjiooadakklmlaa
