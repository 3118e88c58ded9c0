import Derived.Test.YtkblpildfeopiaaBitsL2
import Derived.RangeFuncNested
import Derived.RangeFuncBound
import Derived.RangeFuncCalls
import Derived.RangeFuncLeaves
import Derived.RangeFuncWrites
import Derived.Shelf.Abstract
import Derived.Shelf.RegionOpen
import Derived.Sort.BigQuietIn
import Derived.OwnWalkIn
import Derived.TacticsInMore
import Derived.LoopNIn
import Derived.LoopIn
import Derived.ControlIn
import Derived.Test.YtkblpildfeopiaaClassTail
namespace Go.Proofs.Ytkblpildfeopiaa
open Go.RowKit Go.Shelf Go.BigFrame

/-! What may be ranged over: the set bits of a block, rising. -/
abbrev Lift (F : Fence) : Prop := ∀ (k g : Nat) (args : Array Value) (w : World) (R : Ending → World → Prop), Calls Try.prog g args w R → CallsIn F k Try.prog g args w R
def nib (x : Nat) : Nat := x % 2048
theorem nib_lt (x : Nat) : nib x < 2048 := Nat.mod_lt _ (by omega)
theorem nib_of {x : Nat} (h : x < 2048) : nib x = x := Nat.mod_eq_of_lt h
@[irreducible] def allOnes (X : Blk) : List Nat := ones X 2048
def Stops (X : Blk) (lb : Array Value) (w : World) : Prop :=
  ∀ (F : Fence) (m : Nat) (W : World), (∀ f, F.fn f) → F.round = none → 2 ≤ m → Lift F → Below w.heap.size w W →
    SeqStopsK F m Try.prog 26 lb (fun x : Nat => #[Value.int .i64 ((nib x : Nat) : Int)]) (Below w.heap.size) (fun ys => ys = allOnes X) (fun pre => ∃ k, k ≤ (allOnes X).length ∧ pre = (allOnes X).take k) (allOnes X).length W
structure AllSays : Prop where
  all : ∀ (X : Blk) (w : World), Calls Try.prog 20 #[.agg (arr X)] w fun e w' => ∃ lb, e = .returned (.func (.func 26) #[] lb) ∧ Below w.heap.size w w' ∧ Stops X lb w'
theorem all_nil (fn : Fn) (a b : Array Value) (w : World) : (binOp .eql 33 (.func fn a b) .nilFunc).run Try.prog w = .ok (.bool false) w := by
  have h : ∀ d : Nat, (Op.equalIn (d + 1) 33 (.func fn a b) .nilFunc).run Try.prog w = .ok false w := fun d => by simp [Op.equalIn, run_underlying Try.underlying33]
  simp only [binOp]
  simp [Op.equal, Op.maxDepth, h 9999]
theorem ones_mem (X : Blk) : ∀ n, ∀ x, x ∈ ones X n ↔ x < n ∧ bit X x = true
  | 0, x => by simp [ones]
  | n + 1, x => by
    rw [ones, List.mem_append, ones_mem X n x]
    by_cases h : bit X n = true
    · rw [if_pos h, List.mem_singleton]
      constructor
      · rintro (q | rfl)
        · exact ⟨by omega, q.2⟩
        · exact ⟨by omega, h⟩
      · rintro ⟨q1, q2⟩
        rcases Nat.lt_or_ge x n with r | r
        · exact .inl ⟨r, q2⟩
        · exact .inr (by omega)
    · rw [if_neg h]
      constructor
      · rintro (q | q)
        · exact ⟨by omega, q.2⟩
        · simp at q
      · rintro ⟨q1, q2⟩
        rcases Nat.lt_or_ge x n with r | r
        · exact .inl ⟨r, q2⟩
        · obtain rfl : x = n := by omega
          exact absurd q2 h
theorem all_mem (X : Blk) (x : Nat) : x ∈ allOnes X ↔ x < 2048 ∧ bit X x = true := by unfold allOnes; exact ones_mem X 2048 x
theorem all_len (X : Blk) : (allOnes X).length = countN X 2048 := by unfold allOnes; exact ones_length X 2048
theorem ones_le (X : Blk) : (allOnes X).length ≤ 2048 := by rw [all_len]; exact countN_le X 2048
theorem ones_count (X : Blk) (n : Int) : ∀ m : Nat, m ≤ 2048 → (ones X m).countP (fun t : Nat => decide ((t : Int) < n)) = cntTo X n m
  | 0, _ => rfl
  | m + 1, h => by
    rw [ones, List.countP_append, ones_count X n m (by omega), cntTo]
    by_cases h1 : bit X m = true
    · rw [if_pos h1]
      by_cases h2 : (m : Int) < n <;> simp [h1, h2]
    · rw [if_neg h1]; simp [h1]
theorem ones_countI (X : Blk) (n : Int) : (allOnes X).countP (fun t : Nat => decide ((t : Int) < n)) = countI X n := by
  unfold allOnes
  rw [ones_count X n 2048 (by omega), cntTo_all X n 2048 (lim_le n) (by omega)]
theorem cell_of_one' {w : World} {g : Nat} {v : Value} {t : TypeId} (h : w.heap[g]? = some (.cells #[v] t (0, 0))) : w.cell? ⟨g, 0, none⟩ = some v := (cell_of_row w g 0 _ t (0, 0) h).trans (by rfl)
theorem World.frozen?_row {w : World} {g : Nat} {cs : Array Value} {t : TypeId} (h : w.heap[g]? = some (.cells cs t (0, 0))) : w.frozen? ⟨g, 0, none⟩ = false := by simp [World.frozen?, h]
theorem load_blk_in {F : Fence} {n : Nat} {ops : Array Oper} {rest : List Oper} {op : Oper} {a : Act} {w : World} {Q : Exit → Act → World → Prop} (hgd : op.guard = none) (x : Operand) (ho : op.op = .load 23 x) (b o : Nat) (hx : a.eval x = .pointer (some ⟨b, o, none⟩)) (X : Blk) (hc : At w b o X)
    (h : wpListIn F n Try.prog ops Q rest (a.put op.dst (.agg (arr X))) w) : wpListIn F n Try.prog ops Q (op :: rest) a w := by
  refine wpListIn_plain hgd fun K hK => ?_
  have hrun : (op.semAt F.round a.eval).run Try.prog w = .ok (.value (.agg (arr X))) w := by
    rw [Oper.semAt_eq F.round a.eval op (fun c e => by rw [ho] at e; cases e)]
    unfold execOp
    have hl := doLoad_run hc
    unfold doLoad at hl
    simp only [ho, hx, hl, Sem.run_bind, Sem.run_pure, Result.andThen_ok]
  refine ⟨fun f hf => (by unfold Oper.about at hf; rw [ho] at hf; cases hf), ?_⟩
  rw [hrun]
  exact hK _ _ h
theorem Var.cells {w : World} {g : Nat} {X : Blk} (h : Var w g X) : (doLoad (.pointer (some ⟨g, 0, none⟩))).run Try.prog w = .ok (.agg (arr X)) w := doLoad_run h.at
theorem keepsFrom_below {B : Nat} {W W' : World} (h : Below W.heap.size W W') : KeepsFrom B W W' :=
  ⟨h.size, fun k o _ hk _ => (h.block k (by
    rcases Nat.lt_or_ge k W.heap.size with q | q
    · exact q
    · rw [Array.getElem?_eq_none q] at hk; cases hk)).trans hk⟩
theorem Var.below' {w w' : World} {g B : Nat} {X : Blk} (h : Var w g X) (hb : Below B w w') (hg : g < B) : Var w' g X := (hb.block g hg).trans h
theorem range_below {w w' : World} {g o : Nat} {cl : List Value} (h : w.rangeAt g o cl) (hb : Below w.heap.size w w') : w'.rangeAt g o cl := fun j v hv => (hb.cell (World.block_lt_of_cell? _ _ (h j v hv))).trans (h j v hv)
theorem cell_below {w w' : World} {p : Addr} {v : Value} (h : w.cell? p = some v) (hb : Below w.heap.size w w') : w'.cell? p = some v := (hb.cell (World.block_lt_of_cell? _ _ h)).trans h
theorem frozen_below {w w' : World} {p : Addr} {v : Value} (h : w.frozen? p = false) (hc : w.cell? p = some v) (hb : Below w.heap.size w w') : w'.frozen? p = false := (hb.frozen (World.block_lt_of_cell? _ _ hc)).trans h
/-- A number that is read in such a region. -/
theorem quiet_int {o : Oper} {a : Act} {C : World → Prop} {K : Act → Prop} (x : Operand) (ho : o.op = .load 3 x) (p : Addr) (hx : a.eval x = .pointer (some p)) (k : Int) (hc : ∀ w, C w → w.cell? p = some (.int .i64 k))
    (hk : K (a.put o.dst (.int .i64 k))) : o.quiet Try.prog a C K := by
  refine ⟨_, fun w hw => ?_, hk⟩
  have h := hc w hw
  unfold Oper.quietAt execOp
  simp only [ho, hx]
  go_simp
  first | done | exact ⟨rfl, hw⟩ | exact hw
/-- A variable of one cell that the rounds turn. -/
def Cell1 (W : World) (g : Nat) (v : Value) : Prop := W.cell? ⟨g, 0, none⟩ = some v ∧ W.frozen? ⟨g, 0, none⟩ = false
theorem Cell1.lt {W : World} {g : Nat} {v : Value} (h : Cell1 W g v) : g < W.heap.size := World.block_lt_of_cell? _ _ h.1
theorem Cell1.below {W W' : World} {g : Nat} {v : Value} (h : Cell1 W g v) (hb : Below W.heap.size W W') : Cell1 W' g v := ⟨(hb.cell (p := ⟨g, 0, none⟩) h.lt).trans h.1, (hb.frozen (p := ⟨g, 0, none⟩) h.lt).trans h.2⟩
theorem Cell1.set {W : World} {g : Nat} {v : Value} (h : Cell1 W g v) (u : Value) : Cell1 (W.setCell ⟨g, 0, none⟩ u) g u := ⟨World.cell?_setCell_same' _ _ _ (by rw [h.1]; rfl), by rw [World.frozen?_setCell]; exact h.2⟩
theorem Cell1.other {W : World} {g k : Nat} {v : Value} (h : Cell1 W g v) (hk : g ≠ k) (u : Value) : Cell1 (W.setCell ⟨k, 0, none⟩ u) g v := ⟨by rw [World.cell?_setCell_other _ _ _ _ (by intro e; injection e with e; exact hk e.symm)]; exact h.1, by rw [World.frozen?_setCell]; exact h.2⟩
theorem cell1_own (g : Nat) (f : List Nat → Value) : _root_.Go.Own (fun pre W => Cell1 W g (f pre)) := fun _ _ _ _ hs hg hr => ⟨cell_kept hs.1 hg hr, (frozen_kept hs.1 hg hr).trans hs.2⟩
theorem cell1_new (w : World) (v : Value) (t : TypeId) : Cell1 (w.alloc (.cells #[v] t)) w.heap.size v := ⟨(cell_of_row _ _ 0 _ t (0, 0) (heap_alloc_new w _)).trans (by rfl), World.frozen?_row (heap_alloc_new w _)⟩
end Go.Proofs.Ytkblpildfeopiaa
