import Derived.Test.YtjiooadakklmlaaJbL7
import Derived.Test.YtjiooadakklmlaaJbP10
namespace Go.Proofs.Ytjiooadakklmlaa
open Go.RowKit
theorem jRows_i (s : Int) (A : Option Addr) (c : Nat) (l : List Nat) (w : World) (hs : 0 ≤ s ∧ s < 4294967296) (hc : l.length ≤ c) (hN : NumsAt w A l) (hsN : Small32 l) : Calls Try.prog 10 #[.int .u32 s, .slice A l.length c] w fun e w' => e = .returned (.bool true) ∧ Below w.heap.size w w' := by
  obtain ⟨n, rfl⟩ : ∃ n : Nat, s = (n : Int) := ⟨s.toNat, by omega⟩
  exact jRows pJSays n A c l w (by omega) hc hN hsN
end Go.Proofs.Ytjiooadakklmlaa
