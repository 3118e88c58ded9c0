import Derived.Test.YtjiooadakklmlaaJbL4a
import Derived.Test.YtjiooadakklmlaaJbL4b
import Derived.Test.YtjiooadakklmlaaJbL4c
import Derived.Test.YtjiooadakklmlaaJbL4d
import Derived.Test.YtjiooadakklmlaaJbL4e
namespace Go.Proofs.Ytjiooadakklmlaa
open Go.RowKit

/-! JblockBlocks, put together. -/
theorem kind_says (hS : JSays) {X : Blk} {k : Nat} (h : Begins X k) (h1 : 1 ≤ k) (h4 : k ≤ 4) (W : World) : Calls Try.prog 25 #[.agg (arr X)] W fun e w' => e = .returned (.tuple #[.int .u8 (k : Int), .int .u32 ((num X 2 : Nat) : Int)]) ∧ Below W.heap.size W w' := by
  have := hS.kind X W
  rw [kind_of h h1 h4] at this
  exact this
theorem jBlocks (hS : JSays) (X : Blk) (w : World) : Calls Try.prog 6 #[.agg (arr X)] w fun e w' => e = .returned (.bool true) ∧ Below w.heap.size w w' := by
  by_cases h4 : IsJH X
  · exact jBlocks4 hS X .zero (num X 2) w (kind_says hS (k := 4) h4.begins (by decide) (by decide)) (head_yes hS h4) (desc_no hS fun q => absurd (q.begins.one h4.begins) (by decide)) (rev_no hS fun q => absurd (q.begins.one h4.begins) (by decide)) (com_no hS fun q => absurd (q.begins.one h4.begins) (by decide))
  by_cases h1 : IsJT X
  · exact jBlocks1 hS X .zero (num X 2) w (kind_says hS (k := 1) h1.begins (by decide) (by decide)) (head_no hS h4) (desc_yes hS h1) (rev_no hS fun q => absurd (q.begins.one h1.begins) (by decide)) (com_no hS fun q => absurd (q.begins.one h1.begins) (by decide))
  by_cases h3 : IsJR X
  · exact jBlocks3 hS X .zero (num X 2) w (kind_says hS (k := 3) h3.begins (by decide) (by decide)) (head_no hS h4) (desc_no hS h1) (rev_yes hS h3) (com_no hS fun q => absurd (q.begins.one h3.begins) (by decide))
  by_cases h2 : IsJC X
  · exact jBlocks2 hS X .zero (num X 2) w (kind_says hS (k := 2) h2.begins (by decide) (by decide)) (head_no hS h4) (desc_no hS h1) (rev_no hS h3) (com_yes hS h2)
  · exact jBlocks0 hS X .zero (kindOf X).2 (kindOf X).1 w (fun W => hS.kind X W) (head_no hS h4) (desc_no hS h1) (rev_no hS h3) (com_no hS h2)
end Go.Proofs.Ytjiooadakklmlaa
