import Derived.Test.YtnneppkkmhjpbaaNumsMath2
import Derived.Test.YtnneppkkmhjpbaaNumsOwn
namespace Go.Proofs.Ytnneppkkmhjpbaa
open Go.RowKit

/-! What lies below a world stays: step by step. -/
section
variable {w0 w w' : World} {g : Nat}
theorem low_go (h : Below w0.heap.size w0 w) (hb : Below w.heap.size w w') : Below w0.heap.size w0 w' := h.trans (hb.mono h.size)
theorem low_only (h : Below w0.heap.size w0 w) (ho : Only g w w') (hg : w0.heap.size ≤ g) : Below w0.heap.size w0 w' := h.trans (ho.below hg h.size)
theorem low_drewN (h : Below w0.heap.size w0 w) (n : Nat) : Below w0.heap.size w0 (w.drewN n) := h.trans (Below.drewN (Below.refl _ w) n)
end
end Go.Proofs.Ytnneppkkmhjpbaa
