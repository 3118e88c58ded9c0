import Derived.Test.YtkolpdllogpklaaRows
import Derived.WalkKit
import Derived.WalkSpells
import Derived.WalkLawsBesides
import Derived.Lib.Hide
import Derived.Below
import Derived.OwnWalk
import Derived.Laws.Rows
import Derived.Laws.NewBlocks
import Derived.Laws.Tables
import Derived.Great.BuildSlice
namespace Go.Proofs.Ytkolpdllogpklaa
open Go.RowKit

/-! Lists of numbers in memory. -/
def IntsAt (w : World) (A : Option Addr) (l : List Int) : Prop := 0 < l.length → ∃ b o, A = some ⟨b, o, none⟩ ∧ b < w.heap.size ∧ ∀ i v, l[i]? = some v → w.cell? ⟨b, o + i, none⟩ = some (.int .i64 v)
theorem IntsAt.below {w w' : World} {A : Option Addr} {l : List Int} (h : IntsAt w A l) (hb : Below w.heap.size w w') : IntsAt w' A l := fun h0 => by
  obtain ⟨b, o, e, hlt, hc⟩ := h h0
  exact ⟨b, o, e, Nat.lt_of_lt_of_le hlt hb.size, fun i v hv => (hb.cell (p := ⟨b, o + i, none⟩) hlt).trans (hc i v hv)⟩
theorem IntsAt.nil (w : World) (A : Option Addr) : IntsAt w A [] := fun h => absurd h (Nat.lt_irrefl 0)
def iC (l : List Int) : List Value := l.map fun v => .int .i64 v
theorem iC_length (l : List Int) : (iC l).length = l.length * 1 := by simp [iC]
theorem iC_one (l : List Int) : ∀ u ∈ iC l, u.oneCell' = true := fun u hu => by
  obtain ⟨v, _, rfl⟩ := List.mem_map.1 hu
  rfl
theorem own_ints {w : World} {base n : Nat} {v : Value} {l : List Int} (h : w.ownsRow base 3 1 v n (iC l)) (hn : n = l.length) : ∃ A c, v = .slice A n c ∧ n ≤ c ∧ IntsAt w A l := by
  subst hn
  rcases h.2 with ⟨rfl, h0⟩ | ⟨g, cap, cur, rfl, hb, hg, hc, _, _, ht⟩
  · exact ⟨none, 0, by rw [h0], by omega, fun q => absurd q (by omega)⟩
  · refine ⟨_, cap, rfl, hc, fun _ => ⟨g, 0, rfl, (Array.getElem?_eq_some_iff.1 hg).1, fun k p hp => ?_⟩⟩
    have hk : k < l.length := by
      rcases Nat.lt_or_ge k l.length with q | q
      · exact q
      · rw [List.getElem?_eq_none q] at hp; cases hp
    rw [Nat.zero_add, cell_of_row w g _ _ _ _ hg]
    have h1 : (iC l)[k]? = some (.int .i64 p) := by unfold iC; rw [List.getElem?_map, hp]; rfl
    rw [← ht, List.getElem?_take_of_lt (by omega)] at h1
    rw [← Array.getElem?_toList, h1]
theorem own_keepI {w w' : World} {base n size : Nat} {e : TypeId} {v : Value} {xs : List Value} (h : w.ownsRow base e size v n xs) (hb : Below w.heap.size w w') : w'.ownsRow base e size v n xs :=
  h.kept (row := none) ⟨hb.os, hb.tape, hb.output, hb.size, fun j hj _ => hb.block j hj⟩ (by rcases h.2 with ⟨rfl, _⟩ | ⟨_, _, _, rfl, _⟩ <;> simp [Value.ownBlock])
theorem own_monoI {w : World} {base base' n size : Nat} {e : TypeId} {v : Value} {xs : List Value} (h : w.ownsRow base e size v n xs) (hb : base' ≤ base) : w.ownsRow base' e size v n xs := by
  refine ⟨h.1, ?_⟩
  rcases h.2 with h | ⟨g, cap, cur, h1, h2, h3⟩
  · exact .inl h
  · exact .inr ⟨g, cap, cur, h1, Nat.le_trans hb h2, h3⟩
theorem below_newI (W : World) (o : Obj) : Below W.heap.size W (W.alloc o) := (Below.refl _ _).alloc (Nat.le_refl _) o
/-- A literal list of the call's own. -/
theorem own_lit (w : World) {base : Nat} (hb : base ≤ w.heap.size) (l : List Int) (hl : l.length ≤ 1000) : (w.alloc (.cells (iC l).toArray 3)).ownsRow base 3 1 (.slice (some ⟨w.heap.size, 0, none⟩) l.length l.length) l.length (iC l) :=
  ⟨iC_length l, .inr ⟨w.heap.size, l.length, _, rfl, hb, heap_alloc_new w _, Nat.le_refl _, by simp only [maxLen]; omega, by simp [iC], by rw [List.take_of_length_le (by simp [iC])]⟩⟩
theorem int_two : (Try.prog.info? 3).map (fun i => (i.zero, i.size)) = some (some (.int .i64 0), 1) := by kernel_rfl
theorem int_info3 : (Try.prog.info? 3).map (fun i => (i.zero, i.size, i.bytes)) = some (some (.int .i64 0), 1, 8) := by kernel_rfl
theorem int_fill1 (a : Int) : Instr.fill (fun i => some (i * 1, 1)) ((Array.range (1 * 1)).map ((Value.int .i64 0).cells[· % (Value.int .i64 0).cells.size]!)) [(0, .int .i64 a)] = some #[.int .i64 a] := by kernel_rfl
theorem int_fill2 (a b : Int) : Instr.fill (fun i => some (i * 1, 1)) ((Array.range (2 * 1)).map ((Value.int .i64 0).cells[· % (Value.int .i64 0).cells.size]!)) [(0, .int .i64 a), (1, .int .i64 b)] = some #[.int .i64 a, .int .i64 b] := by kernel_rfl
theorem int_fill3 (a b c : Int) : Instr.fill (fun i => some (i * 1, 1)) ((Array.range (3 * 1)).map ((Value.int .i64 0).cells[· % (Value.int .i64 0).cells.size]!)) [(0, .int .i64 a), (1, .int .i64 b), (2, .int .i64 c)] = some #[.int .i64 a, .int .i64 b, .int .i64 c] := by kernel_rfl
section
variable {ops : Array Oper} {rest : List Oper} {op : Oper} {a : Act} {w : World} {Q : Exit → Act → World → Prop}
theorem build_int1 (hgd : op.guard = none) (y0 : Operand) (ho : op.op = .buildSlice 50 1 #[(0, y0)]) (x0 : Int) (h0 : a.eval y0 = .int .i64 x0)
    (h : wpList Try.prog ops Q rest (a.put op.dst (.slice (some ⟨w.heap.size, 0, none⟩) 1 1)) (w.alloc (.cells (iC [x0]).toArray 3))) : wpList Try.prog ops Q (op :: rest) a w := by
  obtain ⟨i, i1, i2⟩ := Option.map_eq_some_iff.1 int_two
  simp only [Prod.mk.injEq] at i2
  obtain ⟨hz, hs⟩ := i2
  refine wpList_plain hgd fun _ hK => wp_buildSlice 50 3 1 _ ho (iC [x0]).toArray i _ Try.underlying50 i1 hz (by rw [hs]; decide) (by rw [hs]; decide) ?_ (hK _ _ h)
  rw [hs]
  simp only [List.map_toArray, List.map_cons, List.map_nil, h0]
  exact int_fill1 x0
theorem build_int2 (hgd : op.guard = none) (y0 y1 : Operand) (ho : op.op = .buildSlice 50 2 #[(0, y0), (1, y1)]) (x0 x1 : Int) (h0 : a.eval y0 = .int .i64 x0) (h1 : a.eval y1 = .int .i64 x1)
    (h : wpList Try.prog ops Q rest (a.put op.dst (.slice (some ⟨w.heap.size, 0, none⟩) 2 2)) (w.alloc (.cells (iC [x0, x1]).toArray 3))) : wpList Try.prog ops Q (op :: rest) a w := by
  obtain ⟨i, i1, i2⟩ := Option.map_eq_some_iff.1 int_two
  simp only [Prod.mk.injEq] at i2
  obtain ⟨hz, hs⟩ := i2
  refine wpList_plain hgd fun _ hK => wp_buildSlice 50 3 2 _ ho (iC [x0, x1]).toArray i _ Try.underlying50 i1 hz (by rw [hs]; decide) (by rw [hs]; decide) ?_ (hK _ _ h)
  rw [hs]
  simp only [List.map_toArray, List.map_cons, List.map_nil, h0, h1]
  exact int_fill2 x0 x1
theorem build_int3 (hgd : op.guard = none) (y0 y1 y2 : Operand) (ho : op.op = .buildSlice 50 3 #[(0, y0), (1, y1), (2, y2)]) (x0 x1 x2 : Int) (h0 : a.eval y0 = .int .i64 x0) (h1 : a.eval y1 = .int .i64 x1) (h2 : a.eval y2 = .int .i64 x2)
    (h : wpList Try.prog ops Q rest (a.put op.dst (.slice (some ⟨w.heap.size, 0, none⟩) 3 3)) (w.alloc (.cells (iC [x0, x1, x2]).toArray 3))) : wpList Try.prog ops Q (op :: rest) a w := by
  obtain ⟨i, i1, i2⟩ := Option.map_eq_some_iff.1 int_two
  simp only [Prod.mk.injEq] at i2
  obtain ⟨hz, hs⟩ := i2
  refine wpList_plain hgd fun _ hK => wp_buildSlice 50 3 3 _ ho (iC [x0, x1, x2]).toArray i _ Try.underlying50 i1 hz (by rw [hs]; decide) (by rw [hs]; decide) ?_ (hK _ _ h)
  rw [hs]
  simp only [List.map_toArray, List.map_cons, List.map_nil, h0, h1, h2]
  exact int_fill3 x0 x1 x2
end
end Go.Proofs.Ytkolpdllogpklaa
