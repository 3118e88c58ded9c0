import Derived.Test.YtnneppkkmhjpbaaPaP7
import Derived.Test.YtnneppkkmhjpbaaPaP8
namespace Go.Proofs.Ytnneppkkmhjpbaa
open Go.RowKit

/-- The landed paths keep the contract. -/
theorem pPaSays : PaSays where
  level p w _ := pLevel p w
  span p w _ := (pSpan p w).mono fun e w' q => ⟨q.1, by rw [q.2]; exact Below.refl _ _⟩
  first p w _ := pFirst p w
  of i w _ := pOf i w
  index p A c l w _ hl _ hA := pIndex p A c l w hl hA
  next i w _ := pNext i w
  indirect n w _ := pIndirect n w
end Go.Proofs.Ytnneppkkmhjpbaa
