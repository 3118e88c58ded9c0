import Derived.Test.YtmlmpflfejbbcaaDoorSupPb
import Derived.Test.YtmlmpflfejbbcaaDoorSupAw
namespace Go.Proofs.YtmlmpflfejbbcaaDoor
open Go.RowKit

/-- What the program's own package says of superblocks and descriptors. -/
theorem pSuperSays : PSays := ⟨fun s w h1 h2 => pWrite s w h1 h2, fun X w h => pRead X w h, fun g A n c l w h1 h2 h3 h4 => pWriteD g A n c l w h1 h2 h3 h4, fun g X w h1 h2 => pReadD g X w h1 h2⟩
end Go.Proofs.YtmlmpflfejbbcaaDoor
