import Derived.Test.YtkblpildfeopiaaBitsL1
import Derived.RegionTactic
namespace Go.Proofs.Ytkblpildfeopiaa
open Go.RowKit

/-! A whole block's load and store, behind names that the walk does not open. -/
def doLoad (u : Value) : Sem Value := Instr.loadAt 23 u
def doStore (u v : Value) : Sem Unit := Instr.storeAt 23 u v
theorem exec_load (ρ : Operand → Value) (dst : Option Tmp) (x : Operand) (ty : TypeId) (pos : String) (after : Array Edge) (guard : Option (Nat × Bool)) :
    execOp ρ { dst, op := .load 23 x, type := ty, pos, after, guard } = (do pure (.value (← doLoad (ρ x)))) := by unfold execOp doLoad; simp
theorem exec_store (ρ : Operand → Value) (dst : Option Tmp) (x y : Operand) (ty : TypeId) (pos : String) (after : Array Edge) (guard : Option (Nat × Bool)) :
    execOp ρ { dst, op := .store 23 x y, type := ty, pos, after, guard } = (do doStore (ρ x) (ρ y); pure .skip) := by unfold execOp doStore; simp
theorem doLoad_run {w : World} {b off : Nat} {X : Blk} (hc : At w b off X) : (doLoad (.pointer (some ⟨b, off, none⟩))).run Try.prog w = .ok (.agg (arr X)) w := by
  have hl := run_loadAt_mid (P := Try.prog) w b off 23 (arr X).toList _ hc Try.underlying23 rfl (by rw [arr_length]; exact blk_size)
  simpa [doLoad] using hl
theorem doStore_run {w : World} {b : Nat} {X Y : Blk} {t : TypeId} (hb : w.heap[b]? = some (.cells (arr Y) t (0, 0))) : (doStore (.pointer (some ⟨b, 0, none⟩)) (.agg (arr X))).run Try.prog w = .ok () (w.setRow b (arr X)) := by
  unfold doStore
  simp only [Instr.storeAt, Instr.sureAddr, Sem.run_bind, Sem.run_pure, Result.andThen_ok, run_storeVar_row w b t 23 (arr Y) (arr X) hb (by rw [arr_size]; exact blk_size) (by rw [arr_size, arr_size]) (arr_one X)]
theorem setRow_alloc_old (w : World) (cs ds : Array Value) (t t' : TypeId) (x : Array Value) : ((w.alloc (.cells cs t)).alloc (.cells ds t')).setRow w.heap.size x = (w.alloc (.cells x t)).alloc (.cells ds t') := by
  unfold World.setRow World.alloc
  congr 1
  apply Array.ext_getElem?
  intro i
  simp only [Array.getElem?_modify, Array.getElem?_push, Array.size_push]
  by_cases e : w.heap.size = i
  · subst e; simp
  · simp [e]
    split <;> rename_i h
    · rfl
    · split
      · rename_i h2; exact absurd h2.symm e
      · rfl
theorem st_new (w : World) (X Y : Blk) : (doStore (.pointer (some ⟨w.heap.size, 0, none⟩)) (.agg (arr X))).run Try.prog (w.alloc (.cells (arr Y) 23)).drew = .ok () (w.alloc (.cells (arr X) 23)).drew := by
  rw [doStore_run (Y := Y) (t := 23) (by exact heap_alloc_new w _)]
  exact congrArg (fun z => Result.ok () (World.drew z)) (World.setRow_alloc_new w (arr Y) (arr X) 23)
theorem st_new2 (w : World) (X Y V : Blk) : (doStore (.pointer (some ⟨w.heap.size + 1, 0, none⟩)) (.agg (arr X))).run Try.prog ((w.alloc (.cells (arr V) 23)).alloc (.cells (arr Y) 23)).drew = .ok () ((w.alloc (.cells (arr V) 23)).alloc (.cells (arr X) 23)).drew := by
  have := st_new (w.alloc (.cells (arr V) 23)) X Y
  rwa [show (w.alloc (.cells (arr V) 23)).heap.size = w.heap.size + 1 by simp] at this
theorem st_old2 (w : World) (X Y V : Blk) : (doStore (.pointer (some ⟨w.heap.size, 0, none⟩)) (.agg (arr X))).run Try.prog ((w.alloc (.cells (arr V) 23)).alloc (.cells (arr Y) 23)).drew = .ok () ((w.alloc (.cells (arr X) 23)).alloc (.cells (arr Y) 23)).drew := by
  rw [doStore_run (Y := V) (t := 23) (by exact heap_alloc2_old w _ _)]
  exact congrArg (fun z => Result.ok () (World.drew z)) (setRow_alloc_old w (arr V) (arr Y) 23 23 (arr X))
attribute [local go_sem ↓] exec_load exec_store
set_option maxRecDepth 100000 in
set_option maxHeartbeats 2000000 in
theorem bitsTurn_any (hS : BitsSays) (X : Blk) (i : Int) (w : World) (h1 : I64 i) :
    Calls Try.prog 4 #[.agg (arr X), .int .i64 i] w fun e w' => e = .returned (.bool true) ∧ Below w.heap.size w w' := by
  have HS := Lib.hid hS
  have H1 := Lib.hid h1
  clear hS h1
  have hz := fun W => zero_blk W
  have VB := Lib.hid (heap_alloc_new w (.cells (arr X) 23))
  have B0 := Lib.hid ((Below.refl w.heap.size w).alloc (Nat.le_refl _) (.cells (arr X) 23))
  have L0 : Hid (w.heap.size < (w.alloc (.cells (arr X) 23)).heap.size) := Lib.hid (by simp)
  go_enter Try.func4, Try.ntmps4
  go_wp2_with fail
  generalize w.alloc (.cells (arr X) 23) = w1 at VB B0 L0 ⊢
  have ld0 := doLoad_run (w := w1.drew) (b := w.heap.size) (off := 0) (X := X) (At.row VB.out)
  have ld1 := fun A : Array Value => doLoad_run (w := (w1.alloc (.cells A 23)).drew) (b := w.heap.size) (off := 0) (X := X) (At.row ((heap_alloc_old w1 _ L0.out).trans VB.out))
  have ld2 := fun A B : Array Value => doLoad_run (w := ((w1.alloc (.cells A 23)).alloc (.cells B 23)).drew) (b := w.heap.size) (off := 0) (X := X) (At.row ((heap_alloc_old _ _ (by have := L0.out; simp; omega)).trans ((heap_alloc_old w1 _ L0.out).trans VB.out)))
  have s1 := st_new w1 X .zero
  have s2 := fun V => st_new2 w1 X .zero V
  have s3 := fun Y => st_old2 w1 X Y .zero
  go_region
  all_goals
    have Va : Hid (Var ((w1.alloc (.cells (arr X) 23)).alloc (.cells (arr X) 23)).drew w1.heap.size X) := Lib.hid (heap_alloc2_old w1 _ _)
    have Vb : Hid (Var ((w1.alloc (.cells (arr X) 23)).alloc (.cells (arr X) 23)).drew (w1.heap.size + 1) X) := Lib.hid (heap_alloc2_new w1 _ _)
    have Vc : Hid (Var ((w1.alloc (.cells (arr X) 23)).alloc (.cells (arr X) 23)).drew w.heap.size X) := Lib.hid ((heap_alloc_old _ _ (by have := L0.out; simp; omega)).trans ((heap_alloc_old w1 _ L0.out).trans VB.out))
    have B1 : Hid (Below w.heap.size w ((w1.alloc (.cells (arr X) 23)).alloc (.cells (arr X) 23)).drew) := Lib.hid (((B0.out.alloc B0.out.size _).alloc (by have := B0.out.size; simp; omega) _).drew)
    have Z0 : Hid (w.heap.size < w1.heap.size) := L0
    have ZB := Lib.hid B0.out.size
    clear ld0 ld1 ld2 s1 s2 s3 VB B0 L0
    generalize ((w1.alloc (.cells (arr X) 23)).alloc (.cells (arr X) 23)).drew = w2 at Va Vb Vc B1 ⊢
    generalize w1.heap.size = n at Va Vb Z0 ZB ⊢
    go_wp2_with fail
    refine (HS.out.set X _ i w2 H1.out (by first | exact Va.out | exact Vb.out)).mono ?_
    rintro e w3 ⟨rfl, hv, hb⟩
    have X3 := Lib.hid hv
    have C3 := Lib.hid (Vc.out.but hb (by have := Z0.out; omega))
    have B3 := Lib.hid (hb.below B1.out (by have := Z0.out; omega) B1.out.size)
    first
      | (have O3 := Lib.hid (Vb.out.but hb (by omega)); clear Va Vb)
      | (have O3 := Lib.hid (Va.out.but hb (by omega)); clear Va Vb)
    clear hv hb Vc B1
    go_wp2_with fail
    refine (HS.out.clear X _ i w3 H1.out O3.out).mono ?_
    rintro e w4 ⟨rfl, hv, hb⟩
    have Y4 := Lib.hid hv
    have X4 := Lib.hid (X3.out.but hb (by omega))
    have C4 := Lib.hid (C3.out.but hb (by have := Z0.out; omega))
    have B4 := Lib.hid (hb.below B3.out (by have := Z0.out; omega) B3.out.size)
    clear hv hb X3 O3 C3 B3
    have ld := doLoad_run C4.out.at
    go_wp2_with fail
    refine (rTurn_any X i true w4).mono ?_
    rintro e w5 ⟨rfl, hb⟩
    have X5 := Lib.hid (X4.out.below hb)
    have Y5 := Lib.hid (Y4.out.below hb)
    have C5 := Lib.hid (C4.out.below hb)
    have B5 := Lib.hid (B4.out.trans (hb.mono B4.out.size))
    clear hb X4 Y4 C4 B4 ld
    go_wp2_with (refine store_row rfl (.tmp 9) (.tmp 23) rfl w5.heap.size (turnB X i true) .zero 23 rfl rfl (heap_alloc_new w5 _) ?_; rw [World.setRow_alloc_new]; have ld := doLoad_run ((C5.out.below ((Below.refl _ w5).alloc (Nat.le_refl _) (.cells (arr (turnB X i true)) 23))).at))
    have hb : Below w5.heap.size w5 (w5.alloc (.cells (arr (turnB X i true)) 23)) := (Below.refl _ _).alloc (Nat.le_refl _) _
    have X6 := Lib.hid (X5.out.below hb)
    have Y6 := Lib.hid (Y5.out.below hb)
    have C6 := Lib.hid (C5.out.below hb)
    have T6 : Hid (Var (w5.alloc (.cells (arr (turnB X i true)) 23)) w5.heap.size (turnB X i true)) := Lib.hid (heap_alloc_new w5 _)
    have B6 := Lib.hid (B5.out.trans (hb.mono B5.out.size))
    clear hb X5 Y5 C5 B5 ld
    generalize w5.alloc (.cells (arr (turnB X i true)) 23) = w6 at X6 Y6 C6 T6 B6 ⊢
    generalize w5.heap.size = g9 at T6 ⊢
    refine (rTurn_any X i false w6).mono ?_
    rintro e w7 ⟨rfl, hb⟩
    have X7 := Lib.hid (X6.out.below hb)
    have Y7 := Lib.hid (Y6.out.below hb)
    have T7 := Lib.hid (T6.out.below hb)
    have B7 := Lib.hid (B6.out.trans (hb.mono B6.out.size))
    clear hb X6 Y6 C6 T6 B6
    have t1 : (turns X i true == turns X i true) = true := by simp
    have t2 : (turns X i false == turns X i false) = true := by simp
    have heq1 := fun W => equalIn_blk (turnB X i true) (turnB X i true) W
    have heq2 := fun W => equalIn_blk (turnB X i false) (turnB X i false) W
    have d1 : decide (turnB X i true = turnB X i true) = true := decide_eq_true rfl
    have d2 : decide (turnB X i false = turnB X i false) = true := decide_eq_true rfl
    have hgd := blk_guard
    have hb : Below w7.heap.size w7 (w7.alloc (.cells (arr (turnB X i false)) 23)) := (Below.refl _ _).alloc (Nat.le_refl _) _
    have l1 := doLoad_run (X7.out.below hb).at
    have l2 := doLoad_run (Y7.out.below hb).at
    have l3 := doLoad_run (T7.out.below hb).at
    have l4 := doLoad_run (At.row (x := turnB X i false) (heap_alloc_new w7 (.cells (arr (turnB X i false)) 23)))
    have B8 := Lib.hid (B7.out.trans (hb.mono B7.out.size))
    clear hb
    go_wp2_with (first
      | (refine store_row rfl (.tmp 11) (.tmp 29) rfl w7.heap.size (turnB X i false) .zero 23 rfl rfl (heap_alloc_new w7 _) ?_; rw [World.setRow_alloc_new])
      | (go_at_call 17; refine (HS.out.setNil i _ H1.out).mono ?_; rintro e w8 ⟨rfl, hb⟩; have B9 := Lib.hid (B8.out.trans (hb.mono B8.out.size)); clear hb)
      | (go_at_call 18; refine (HS.out.clearNil i _ H1.out).mono ?_; rintro e w9 ⟨rfl, hb⟩; have B10 := Lib.hid (B9.out.trans (hb.mono B9.out.size)); clear hb))
    go_ret
    exact ⟨rfl, B10.out⟩
end Go.Proofs.Ytkblpildfeopiaa
