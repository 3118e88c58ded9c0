import Derived.Test.YtjiooadakklmlaaBlk0
import Derived.Laws.CopyOwn
namespace Go.Proofs.Ytjiooadakklmlaa
open Go.RowKit
/-- Result variables of a call's own that are blocks. -/
theorem results_blk {fn : Func} {p : Tmp} (h : fn.results = #[.cell p 28]) (tmps : Array Value) (w : World) (g : Nat) (X : Blk) (t : TypeId) (hp : tmps.getD p undef = .pointer (some ⟨g, 0, none⟩)) (hg : w.heap[g]? = some (.cells (arr X) t (0, 0))) :
    (results fn tmps).run Try.prog w = .ok (.agg (arr X)) w :=
  results_cell_row h tmps w g t (arr X) (0, 0) _ hp hg Try.underlying28 rfl (by rw [arr_size]; exact blk_size)
theorem results_blk_tmp {fn : Func} {p u : Tmp} (h : fn.results = #[.cell p 28, .tmp u]) (tmps : Array Value) (w : World) (g : Nat) (X : Blk) (t : TypeId) (hp : tmps.getD p undef = .pointer (some ⟨g, 0, none⟩)) (hg : w.heap[g]? = some (.cells (arr X) t (0, 0))) :
    (results fn tmps).run Try.prog w = .ok (.tuple #[.agg (arr X), tmps.getD u undef]) w := by
  have hp' : tmps[p]?.getD undef = .pointer (some ⟨g, 0, none⟩) := by simpa using hp
  simp [results, h, hp', asAddr, run_loadVar_row w g t 28 (arr X) (0, 0) _ hg Try.underlying28 rfl (by rw [arr_size]; exact blk_size)]
end Go.Proofs.Ytjiooadakklmlaa
