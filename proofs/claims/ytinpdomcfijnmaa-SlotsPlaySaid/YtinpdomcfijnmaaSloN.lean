import Derived.Test.YtinpdomcfijnmaaSloL6
import Derived.Test.YtinpdomcfijnmaaSloM2
import Derived.Test.YtinpdomcfijnmaaGen
namespace Go.Proofs.Ytinpdomcfijnmaa
open Go.RowKit

/-! Entries (a name, an inode) in memory: the list that SlotsPlay keeps. -/
def ecs (p : Entry) : List Value := [.string p.1, .int .u32 ((p.2 : Nat) : Int)]
def eC : List Entry → List Value
  | [] => []
  | p :: l => ecs p ++ eC l
theorem eC_length : ∀ l : List Entry, (eC l).length = l.length * 2
  | [] => rfl
  | p :: l => by simp [eC, ecs, eC_length l]; omega
theorem eC_append : ∀ l m : List Entry, eC (l ++ m) = eC l ++ eC m
  | [], m => rfl
  | p :: l, m => by show ecs p ++ eC (l ++ m) = _; rw [eC_append l m, ← List.append_assoc]; rfl
theorem eC_get : ∀ {l : List Entry} {k j : Nat} {p : Entry}, l[k]? = some p → j < 2 → (eC l)[k * 2 + j]? = (ecs p)[j]?
  | [], k, _, _, h, _ => by simp at h
  | q :: l, 0, j, p, h, hj => by
    obtain rfl : q = p := by simpa using h
    show (ecs q ++ eC l)[0 * 2 + j]? = _
    rw [List.getElem?_append_left (by simp [ecs]; omega)]
    congr 1; omega
  | q :: l, k + 1, j, p, h, hj => by
    show (ecs q ++ eC l)[(k + 1) * 2 + j]? = _
    rw [List.getElem?_append_right (by simp [ecs]; omega), show (k + 1) * 2 + j - (ecs q).length = k * 2 + j by simp [ecs]; omega]
    exact eC_get (by simpa using h) hj
theorem eC_one (l : List Entry) : ∀ u ∈ eC l, u.oneCell' = true := by
  induction l with
  | nil => intro u h; cases h
  | cons p l ih =>
    intro u h
    rcases List.mem_append.1 (show u ∈ ecs p ++ eC l from h) with h | h
    · unfold ecs at h
      simp at h
      rcases h with rfl | rfl <;> rfl
    · exact ih u h
theorem entry_info : (Try.prog.info? 52).map (fun i => (i.zero, i.size, i.bytes)) = some (some (.agg #[.string ⟨#[]⟩, .int .u32 0]), 2, 24) := by kernel_rfl
theorem entry_two : (Try.prog.info? 52).map (fun i => (i.zero, i.size)) = some (some (.agg #[.string ⟨#[]⟩, .int .u32 0]), 2) := by kernel_rfl
def Small (l : List Entry) : Prop := ∀ p ∈ l, p.2 < 4294967296
theorem own_turns {w : World} {base : Nat} {v : Value} {l : List Entry} (h : w.ownsRow base 52 2 v l.length (eC l)) (hs : Small l) : ∃ A c, v = .slice A l.length c ∧ l.length ≤ c ∧ TurnsAt w A l := by
  rcases h.2 with ⟨rfl, h0⟩ | ⟨g, cap, cur, rfl, hb, hg, hc, _, _, ht⟩
  · exact ⟨none, 0, by rw [h0], by omega, fun q => absurd q (by omega)⟩
  · refine ⟨_, cap, rfl, hc, fun _ => ⟨g, 0, rfl, (Array.getElem?_eq_some_iff.1 hg).1, fun k p hp => ?_⟩⟩
    have hk : k < l.length := by
      rcases Nat.lt_or_ge k l.length with q | q
      · exact q
      · rw [List.getElem?_eq_none q] at hp; cases hp
    have key : ∀ j, j < 2 → w.cell? ⟨g, 0 + k * 2 + j, none⟩ = (ecs p)[j]? := fun j hj => by
      rw [Nat.zero_add, cell_of_row w g _ _ _ _ hg]
      have h1 := eC_get hp hj
      rw [← ht, List.getElem?_take_of_lt (by omega)] at h1
      rw [← Array.getElem?_toList, h1]
    exact ⟨key 0 (by omega), key 1 (by omega), hs p (List.mem_of_getElem? hp)⟩
theorem own_mono2 {w : World} {base base' n : Nat} {v : Value} {xs : List Value} (h : w.ownsRow base 52 2 v n xs) (hb : base' ≤ base) : w.ownsRow base' 52 2 v n xs := by
  refine ⟨h.1, ?_⟩
  rcases h.2 with h | ⟨g, cap, cur, h1, h2, h3⟩
  · exact .inl h
  · exact .inr ⟨g, cap, cur, h1, Nat.le_trans hb h2, h3⟩
theorem own_below {w w' : World} {base n : Nat} {v : Value} {xs : List Value} (h : w.ownsRow base 52 2 v n xs) (hb : Below w.heap.size w w') : w'.ownsRow base 52 2 v n xs :=
  h.kept (row := none) ⟨hb.os, hb.tape, hb.output, hb.size, fun j hj _ => hb.block j hj⟩ (by rcases h.2 with ⟨rfl, _⟩ | ⟨_, _, _, rfl, _⟩ <;> simp [Value.ownBlock])
theorem own_only {w w' : World} {base n g : Nat} {v : Value} {xs : List Value} (h : w.ownsRow base 52 2 v n xs) (ho : Only g w w') (hg : g < base) : w'.ownsRow base 52 2 v n xs :=
  h.kept ho (.inr fun e => by have := (h.lt g e).1; omega)
/-- What SlotsPlay keeps in memory: the block, the list. -/
structure SP (w0 : World) (bb : Nat) (X : Blk) (v : Value) (l : List Entry) (w : World) : Prop where
  blk : BVar w bb X
  own : w.ownsRow (bb + 1) 52 2 v l.length (eC l)
  at_ : w0.heap.size ≤ bb
  low : Below w0.heap.size w0 w
section
variable {w0 w w' : World} {bb : Nat} {X Y : Blk} {v v' : Value} {l m : List Entry}
theorem SP.below (h : SP w0 bb X v l w) (hb : Below w.heap.size w w') : SP w0 bb X v l w' := ⟨h.blk.below hb, own_below h.own hb, h.at_, low_go h.low hb⟩
theorem SP.set (h : SP w0 bb X v l w) (ho : Only bb w w') (hv : BVar w' bb Y) : SP w0 bb Y v l w' := ⟨hv, own_only h.own ho (by omega), h.at_, low_only h.low ho h.at_⟩
theorem SP.app (h : SP w0 bb X v l w) {w1 : World} (o : Obj) (hown : w1.ownsRow (bb + 1) 52 2 v' m.length (eC m)) (hgrow : (w.alloc o).grownBy w1 v.ownBlock) : SP w0 bb X v' m w1 := by
  have ha := h.below (below_new w o)
  refine ⟨(hgrow.block bb ha.blk.lt (fun e => ?_)).trans ha.blk, hown, h.at_, ha.low.grown hgrow ha.low.size (fun k e => by have := (h.own.lt k e).1; have := h.at_; omega)⟩
  have := (h.own.lt _ e.symm).1
  omega
theorem SP.new (h : SP w0 bb X v l w) (hb : Below w.heap.size w w') (hown : w'.ownsRow w.heap.size 52 2 v' m.length (eC m)) : SP w0 bb X v' m w' :=
  ⟨h.blk.below hb, own_mono2 hown (by have := h.blk.lt; omega), h.at_, low_go h.low hb⟩
end
end Go.Proofs.Ytinpdomcfijnmaa
