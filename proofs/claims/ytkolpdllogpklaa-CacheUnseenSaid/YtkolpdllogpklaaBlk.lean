import Derived.Test.YtkolpdllogpklaaBlk0
namespace Go.Proofs.Ytkolpdllogpklaa
open Go.RowKit
/-! XBlk0, and a slice of blocks that is made. -/
theorem make_blks (kl kc : IntKind) (n : Nat) (hn : n ≤ 1000000) (w : World) :
    (Instr.makeSlice 31 (.int kl (n : Int)) (.int kc (n : Int))).run Try.prog w = .ok (.slice (some ⟨w.heap.size, 0, none⟩) n n) (w.alloc (.cells (madeBlks n) 41)) := by
  obtain ⟨i, hi, hzz⟩ := Option.map_eq_some_iff.1 blk_row
  simp only [Prod.mk.injEq] at hzz
  obtain ⟨hz, hs, hb⟩ := hzz
  have hr := run_make (P := Try.prog) w 31 41 i _ Try.underlying31 hi hz kl kc n n (by omega) (Int.le_refl _) (by rw [hb]; omega) (by omega)
  rw [hr, Int.toNat_natCast, hs]
  unfold madeBlks
  have e : (Value.agg ⟨bytesOf (fun _ => 0) 256⟩).cells = arr .zero := by unfold arr; rfl
  rw [e]
end Go.Proofs.Ytkolpdllogpklaa
