import Derived.Test.YtkblpildfeopiaaBitsR3
namespace Go.Proofs.Ytkblpildfeopiaa
open Go.RowKit

/-! What the program's bitmaps say. -/
def I64 (i : Int) : Prop := -9223372036854775808 ≤ i ∧ i ≤ 9223372036854775807
/-- A block of memory that holds a block. -/
def Var (w : World) (g : Nat) (X : Blk) : Prop := w.heap[g]? = some (.cells (arr X) 23 (0, 0))
/-- Only block g has turned, and memory has come. -/
structure But (g : Nat) (w w' : World) : Prop where
  os : w'.os = w.os
  tape : w'.tape = w.tape
  output : w'.output = w.output
  size : w.heap.size ≤ w'.heap.size
  block : ∀ i, i < w.heap.size → i ≠ g → w'.heap[i]? = w.heap[i]?
theorem But.below {g B : Nat} {w0 w w' : World} (h0 : Below B w0 w) (h : But g w w') (hg : B ≤ g) (hB : B ≤ w.heap.size) : Below B w0 w' :=
  ⟨h.os.trans h0.os, h.tape.trans h0.tape, h.output.trans h0.output, Nat.le_trans h0.size h.size, fun i hi => (h.block i (by omega) (by omega)).trans (h0.block i hi)⟩
theorem Var.lt {w : World} {g : Nat} {X : Blk} (h : Var w g X) : g < w.heap.size := by
  rcases Nat.lt_or_ge g w.heap.size with q | q
  · exact q
  · unfold Var at h; rw [Array.getElem?_eq_none q] at h; cases h
theorem Var.below {w w' : World} {g : Nat} {X : Blk} (h : Var w g X) (hb : Below w.heap.size w w') : Var w' g X := (hb.block g h.lt).trans h
theorem Var.but {w w' : World} {g k : Nat} {X : Blk} (h : Var w g X) (hb : But k w w') (hk : g ≠ k) : Var w' g X := (hb.block g h.lt hk).trans h
theorem Var.at {w : World} {g : Nat} {X : Blk} (h : Var w g X) : At w g 0 X := At.row h
structure BitsSays : Prop where
  has : ∀ (X : Blk) (i : Int) (w : World), I64 i → Calls Try.prog 11 #[.agg (arr X), .int .i64 i] w fun e w' => e = .returned (.bool (hasI X i)) ∧ Below w.heap.size w w'
  first : ∀ (X : Blk) (a b : Int) (w : World), I64 a → I64 b → Calls Try.prog 13 #[.agg (arr X), .int .i64 a, .int .i64 b] w fun e w' => e = .returned (.int .i64 (firstI X a b)) ∧ Below w.heap.size w w'
  count : ∀ (X : Blk) (n : Int) (w : World), I64 n → Calls Try.prog 15 #[.agg (arr X), .int .i64 n] w fun e w' => e = .returned (.int .i64 (countI X n : Nat)) ∧ Below w.heap.size w w'
  set : ∀ (X : Blk) (g : Nat) (i : Int) (w : World), I64 i → Var w g X → Calls Try.prog 17 #[.pointer (some ⟨g, 0, none⟩), .int .i64 i] w fun e w' => e = .returned (.bool (turns X i true)) ∧ Var w' g (turnB X i true) ∧ But g w w'
  clear : ∀ (X : Blk) (g : Nat) (i : Int) (w : World), I64 i → Var w g X → Calls Try.prog 18 #[.pointer (some ⟨g, 0, none⟩), .int .i64 i] w fun e w' => e = .returned (.bool (turns X i false)) ∧ Var w' g (turnB X i false) ∧ But g w w'
  setNil : ∀ (i : Int) (w : World), I64 i → Calls Try.prog 17 #[.pointer none, .int .i64 i] w fun e w' => e = .returned (.bool false) ∧ Below w.heap.size w w'
  clearNil : ∀ (i : Int) (w : World), I64 i → Calls Try.prog 18 #[.pointer none, .int .i64 i] w fun e w' => e = .returned (.bool false) ∧ Below w.heap.size w w'

/-! BitsTell. -/
theorem lim_nat {n : Nat} (h : n ≤ 2048) : lim n = n := by unfold lim; omega
theorem i64_nat {n : Nat} (h : n ≤ 4096) : I64 n := by unfold I64; omega
end Go.Proofs.Ytkblpildfeopiaa
