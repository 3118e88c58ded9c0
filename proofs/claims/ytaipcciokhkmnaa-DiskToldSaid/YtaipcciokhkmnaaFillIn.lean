import Derived.Test.YtaipcciokhkmnaaBlk
import Derived.Great.BuildSlice
import Derived.Laws.Tables
namespace Go.Proofs.Ytaipcciokhkmnaa
open Go.RowKit

/-! What a composite literal's parts make of the zero value's cells. -/
def splice (cells : Array Value) (off : Nat) (vs : Array Value) : Array Value := vs.zipIdx.foldl (fun cs (c, j) => cs.setIfInBounds (off + j) c) cells
theorem foldl_set : ∀ (l : List Value) (k off : Nat) (cells : Array Value) (i : Nat), ((l.zipIdx k).foldl (fun cs (c, j) => cs.setIfInBounds (off + j) c) cells)[i]? = if off + k ≤ i ∧ i < off + k + l.length ∧ i < cells.size then l[i - (off + k)]? else cells[i]?
  | [], k, off, cells, i => by simp; intro h1 h2; omega
  | v :: l, k, off, cells, i => by
    rw [List.zipIdx_cons, List.foldl_cons, foldl_set l (k + 1) off _ i]
    simp only [Array.size_setIfInBounds, List.length_cons]
    by_cases h0 : i < cells.size
    · by_cases h1 : i = off + k
      · subst h1
        rw [if_neg (by omega), if_pos ⟨by omega, by omega, h0⟩, Array.getElem?_setIfInBounds_self_of_lt h0, Nat.sub_self]
        rfl
      · by_cases h2 : off + (k + 1) ≤ i ∧ i < off + (k + 1) + l.length ∧ i < cells.size
        · rw [if_pos h2, if_pos ⟨by omega, by omega, h0⟩, show i - (off + k) = (i - (off + (k + 1))) + 1 by omega]
          rfl
        · rw [if_neg h2, if_neg (by omega), Array.getElem?_setIfInBounds_ne (by omega)]
    · rw [if_neg (by omega), if_neg (by omega), Array.getElem?_eq_none (by simp; omega), Array.getElem?_eq_none (by omega)]
theorem splice_get (cells : Array Value) (off : Nat) (vs : Array Value) (i : Nat) : (splice cells off vs)[i]? = if off ≤ i ∧ i < off + vs.size ∧ i < cells.size then vs[i - off]? else cells[i]? := by
  unfold splice
  rw [← Array.foldl_toList, Array.toList_zipIdx]
  have h := foldl_set vs.toList 0 off cells i
  simpa using h
theorem foldl_set_size : ∀ (l : List (Value × Nat)) (off : Nat) (cells : Array Value), (l.foldl (fun cs (c, j) => cs.setIfInBounds (off + j) c) cells).size = cells.size
  | [], _, _ => rfl
  | p :: l, off, cells => by rw [List.foldl_cons, foldl_set_size l off]; simp
theorem splice_size (cells : Array Value) (off : Nat) (vs : Array Value) : (splice cells off vs).size = cells.size := by
  unfold splice
  rw [← Array.foldl_toList]
  exact foldl_set_size _ _ _
theorem fill_cons {place : Nat → Option (Nat × Nat)} {cells : Array Value} {i off size : Nat} {v : Value} {rest : List (Nat × Value)} (hp : place i = some (off, size)) (hv : v.cells.size = size) (hs : off + size ≤ cells.size) :
    Instr.fill place cells ((i, v) :: rest) = Instr.fill place (splice cells off v.cells) rest := by
  rw [Instr.fill, hp]
  have h2 : ¬ off + v.cells.size > cells.size := by omega
  simp only [hv, ne_eq, not_true_eq_false, decide_false, Bool.false_or]
  rw [if_neg (by simp; omega)]
  rfl
/-- A part that is as great as the whole. -/
theorem splice_whole {cells vs : Array Value} (h : cells.size = vs.size) : splice cells 0 vs = vs := by
  apply Array.ext_getElem?
  intro i
  rw [splice_get]
  by_cases hi : i < vs.size
  · rw [if_pos ⟨by omega, by omega, by omega⟩, Nat.sub_zero]
  · rw [if_neg (by omega), Array.getElem?_eq_none (by omega), Array.getElem?_eq_none (by omega)]

/-! A number, and a block behind it: 257 cells. -/
@[irreducible] def wcell (b : Int) (X : Blk) : Array Value := #[Value.int .i64 b] ++ arr X
theorem wcell_size (b : Int) (X : Blk) : (wcell b X).size = 257 := by unfold wcell; rw [Array.size_append, arr_size]; rfl
theorem wcell_zero (b : Int) (X : Blk) : (wcell b X)[0]? = some (.int .i64 b) := by unfold wcell; rw [Array.getElem?_append, if_pos (by simp)]; rfl
theorem wcell_succ (b : Int) (X : Blk) (i : Nat) : (wcell b X)[i + 1]? = (arr X)[i]? := by
  unfold wcell
  rw [Array.getElem?_append]
  rw [if_neg (by simp)]
  simp
theorem wcell_one (b : Int) (X : Blk) : (wcell b X).all (·.oneCell') = true := by
  unfold wcell
  rw [Array.all_append, arr_one]
  simp [Value.oneCell']
theorem wait_fill {Z : Array Value} (hZ : Z.size = 257) (b : Int) (X : Blk) {place : Nat → Option (Nat × Nat)} (h0 : place 0 = some (0, 1)) (h1 : place 1 = some (1, 256)) :
    Instr.fill place Z [(0, .int .i64 b), (1, .agg (arr X))] = some (wcell b X) := by
  rw [fill_cons h0 rfl (by omega), fill_cons h1 (by show (arr X).size = 256; exact arr_size X) (by rw [splice_size]; omega)]
  rw [Instr.fill]
  congr 1
  apply Array.ext_getElem?
  intro i
  show (splice (splice Z 0 #[.int .i64 b]) 1 (arr X))[i]? = _
  rw [splice_get, splice_size, arr_size]
  match i with
  | 0 =>
    rw [if_neg (by omega), splice_get, if_pos ⟨by omega, by simp, by omega⟩, wcell_zero]
    rfl
  | i + 1 =>
    rw [wcell_succ]
    by_cases hi : i < 256
    · rw [if_pos ⟨by omega, by omega, by omega⟩, Nat.add_sub_cancel]
    · rw [if_neg (by omega), splice_get, if_neg (by simp), Array.getElem?_eq_none (by omega), Array.getElem?_eq_none (by rw [arr_size]; omega)]
/-- The struct type t (a number, a block) as the program has it, in one closed fact. -/
theorem wait_built {t : TypeId} {z : Array Value} {d : Array Field} (hi : (Try.prog.info? t).map (·.zero) = some (some (.agg z))) (hu : Try.prog.underlying t = some (.struct d)) (hz : z.size = 257)
    (hp : d.toList.mapM (fun f => (Try.prog.info? f.type).map fun i => (f.offset, i.size)) = some [(0, 1), (1, 256)]) (b : Int) (X : Blk) :
    Try.prog.built t [(0, .int .i64 b), (1, .agg (arr X))] = some (wcell b X) := by
  obtain ⟨it, h1, h2⟩ := Option.map_eq_some_iff.1 hi
  unfold Program.built
  rw [h1, hu]
  simp only [h2, hp]
  exact wait_fill hz b X rfl rfl

end Go.Proofs.Ytaipcciokhkmnaa
