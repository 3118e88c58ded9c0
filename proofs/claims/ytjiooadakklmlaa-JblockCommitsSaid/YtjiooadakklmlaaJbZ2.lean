import Derived.Test.YtjiooadakklmlaaJbL2
import Derived.Test.YtjiooadakklmlaaJbP10
namespace Go.Proofs.Ytjiooadakklmlaa
open Go.RowKit
theorem jCommits_i (s ct sm : Int) (w : World) (h0 : 0 ≤ s ∧ s < 4294967296) (h1 : 0 ≤ sm ∧ sm < 4294967296) : Calls Try.prog 9 #[.int .u32 s, .int .i64 ct, .int .u32 sm] w fun e w' => e = .returned (.bool true) ∧ Below w.heap.size w w' := by
  obtain ⟨n, rfl⟩ : ∃ n : Nat, s = (n : Int) := ⟨s.toNat, by omega⟩
  obtain ⟨m, rfl⟩ : ∃ m : Nat, sm = (m : Int) := ⟨sm.toNat, by omega⟩
  exact jCommits pJSays n ct m w (by omega)
end Go.Proofs.Ytjiooadakklmlaa
