import Derived.Test.YtinpdomcfijnmaaBlk0
import Derived.RegionTactic
namespace Go.Proofs.Ytinpdomcfijnmaa
open Go.RowKit

/-! A whole block's load and store, behind names that the walk does not open. -/
def doLoad (u : Value) : Sem Value := Instr.loadAt 23 u
def doStore (u v : Value) : Sem Unit := Instr.storeAt 23 u v
theorem exec_load (ρ : Operand → Value) (dst : Option Tmp) (x : Operand) (ty : TypeId) (pos : String) (after : Array Edge) (guard : Option (Nat × Bool)) :
    execOp ρ { dst, op := .load 23 x, type := ty, pos, after, guard } = (do pure (.value (← doLoad (ρ x)))) := by unfold execOp doLoad; simp
theorem exec_store (ρ : Operand → Value) (dst : Option Tmp) (x y : Operand) (ty : TypeId) (pos : String) (after : Array Edge) (guard : Option (Nat × Bool)) :
    execOp ρ { dst, op := .store 23 x y, type := ty, pos, after, guard } = (do doStore (ρ x) (ρ y); pure .skip) := by unfold execOp doStore; simp
theorem doLoad_run {w : World} {b off : Nat} {X : Blk} (hc : At w b off X) : (doLoad (.pointer (some ⟨b, off, none⟩))).run Try.prog w = .ok (.agg (arr X)) w := by
  have hl := run_loadAt_mid (P := Try.prog) w b off 23 (arr X).toList _ hc Try.underlying23 rfl (by rw [arr_length]; exact blk_size)
  simpa [doLoad] using hl
theorem doStore_run {w : World} {b : Nat} {X Y : Blk} {t : TypeId} (hb : w.heap[b]? = some (.cells (arr Y) t (0, 0))) : (doStore (.pointer (some ⟨b, 0, none⟩)) (.agg (arr X))).run Try.prog w = .ok () (w.setRow b (arr X)) := by
  unfold doStore
  simp only [Instr.storeAt, Instr.sureAddr, Sem.run_bind, Sem.run_pure, Result.andThen_ok, run_storeVar_row w b t 23 (arr Y) (arr X) hb (by rw [arr_size]; exact blk_size) (by rw [arr_size, arr_size]) (arr_one X)]
theorem setRow_alloc_old (w : World) (cs ds : Array Value) (t t' : TypeId) (x : Array Value) : ((w.alloc (.cells cs t)).alloc (.cells ds t')).setRow w.heap.size x = (w.alloc (.cells x t)).alloc (.cells ds t') := by
  unfold World.setRow World.alloc
  congr 1
  apply Array.ext_getElem?
  intro i
  simp only [Array.getElem?_modify, Array.getElem?_push, Array.size_push]
  by_cases e : w.heap.size = i
  · subst e; simp
  · simp [e]
    split <;> rename_i h
    · rfl
    · split
      · rename_i h2; exact absurd h2.symm e
      · rfl
theorem st_new (w : World) (X Y : Blk) : (doStore (.pointer (some ⟨w.heap.size, 0, none⟩)) (.agg (arr X))).run Try.prog (w.alloc (.cells (arr Y) 23)).drew = .ok () (w.alloc (.cells (arr X) 23)).drew := by
  rw [doStore_run (Y := Y) (t := 23) (by exact heap_alloc_new w _)]
  exact congrArg (fun z => Result.ok () (World.drew z)) (World.setRow_alloc_new w (arr Y) (arr X) 23)
theorem st_new2 (w : World) (X Y V : Blk) : (doStore (.pointer (some ⟨w.heap.size + 1, 0, none⟩)) (.agg (arr X))).run Try.prog ((w.alloc (.cells (arr V) 23)).alloc (.cells (arr Y) 23)).drew = .ok () ((w.alloc (.cells (arr V) 23)).alloc (.cells (arr X) 23)).drew := by
  have := st_new (w.alloc (.cells (arr V) 23)) X Y
  rwa [show (w.alloc (.cells (arr V) 23)).heap.size = w.heap.size + 1 by simp] at this
theorem st_old2 (w : World) (X Y V : Blk) : (doStore (.pointer (some ⟨w.heap.size, 0, none⟩)) (.agg (arr X))).run Try.prog ((w.alloc (.cells (arr V) 23)).alloc (.cells (arr Y) 23)).drew = .ok () ((w.alloc (.cells (arr X) 23)).alloc (.cells (arr Y) 23)).drew := by
  rw [doStore_run (Y := V) (t := 23) (by exact heap_alloc2_old w _ _)]
  exact congrArg (fun z => Result.ok () (World.drew z)) (setRow_alloc_old w (arr V) (arr Y) 23 23 (arr X))
end Go.Proofs.Ytinpdomcfijnmaa
