import Derived.Test.YtkblpildfeopiaaBitsR2
namespace Go.Proofs.Ytkblpildfeopiaa
open Go.RowKit

def inR (i : Int) : Bool := decide (0 ≤ i) && decide (i < 2048)
/-- Whether a bit is turned, and the block then. -/
def turns (X : Blk) (i : Int) (v : Bool) : Bool := inR i && (hasI X i != v)
def turnB (X : Blk) (i : Int) (v : Bool) : Blk := if turns X i v then setB X i.toNat v else X
theorem turns_out {X : Blk} {i : Int} {v : Bool} (h : i < 0 ∨ 2048 ≤ i) : turns X i v = false := by
  unfold turns inR
  rcases h with h | h
  · have : decide (0 ≤ i) = false := by simp; omega
    rw [this]; rfl
  · have : decide (i < 2048) = false := by simp; omega
    rw [this]; simp
theorem turns_in {X : Blk} {k : Nat} {v : Bool} (h : k < 2048) : turns X k v = (bit X k != v) := by
  unfold turns inR
  rw [hasI_nat h]
  have h1 : decide ((0 : Int) ≤ k) = true := by simp
  have h2 : decide ((k : Int) < 2048) = true := by simp; omega
  rw [h1, h2]; rfl
theorem turnB_no {X : Blk} {i : Int} {v : Bool} (h : turns X i v = false) : turnB X i v = X := by unfold turnB; rw [h]; rfl
theorem turnB_yes {X : Blk} {k : Nat} {v : Bool} (h : turns X k v = true) : turnB X k v = setB X k v := by unfold turnB; rw [h, Int.toNat_natCast]; rfl
theorem rowset {w : World} {g n k : Nat} {l : Nat → Bool} {t : TypeId} (h : w.heap[g]? = some (.cells (barr l n) t (0, 0))) (v : Bool) : (w.setCell ⟨g, k, none⟩ (.bool v)).heap[g]? = some (.cells (barr (fun i => if i = k then v else l i) n) t (0, 0)) := by
  rw [heap_setCell_same w g k _ t _ h, barr_set]
theorem row_frozen {w : World} {b k : Nat} {cs : Array Value} {t : TypeId} (h : w.heap[b]? = some (.cells cs t (0, 0))) : w.frozen? ⟨b, k, none⟩ = false := by simp [World.frozen?, h]
theorem below_setCell {B : Nat} {a w : World} (h : Below B a w) {g k : Nat} (hg : B ≤ g) (v : Value) : Below B a (w.setCell ⟨g, k, none⟩ v) := by
  have := setCells_only g [v] k w
  exact h.trans ⟨this.1, this.2.1, this.2.2, by rw [show w.setCell ⟨g, k, none⟩ v = w.setCells g k [v] from rfl, setCells_size]; exact Nat.le_refl _, fun i hi => setCells_heap_ne g [v] k w i (by omega)⟩
set_option maxRecDepth 100000 in
set_option maxHeartbeats 1000000 in
theorem rTurn_any (X : Blk) (i : Int) (v : Bool) (w : World) :
    Calls Try.prog 19 #[.agg (arr X), .int .i64 i, .bool v] w fun e w' => e = .returned (.tuple #[.agg (arr (turnB X i v)), .bool (turns X i v)]) ∧ Below w.heap.size w w' := by
  have hz := fun W => zero_blk W
  have B0 := Lib.hid (((Below.refl w.heap.size w).alloc (Nat.le_refl _) (.cells (arr X) 23)).alloc (by simp) (.cells (arr .zero) 23))
  have hR := Lib.hid (At.row (heap_alloc2_old w (.cells (arr X) 23) (.cells (arr .zero) 23)))
  have hQ := Lib.hid (heap_alloc2_new w (.cells (arr X) 23) (.cells (arr .zero) 23))
  have hS : Hid (((w.alloc (.cells (arr X) 23)).alloc (.cells (arr .zero) 23)).heap.size = w.heap.size + 2) := Lib.hid (by simp)
  go_enter Try.func19, Try.ntmps19
  go_wp2_with (refine load_blk rfl (.tmp 3) rfl w.heap.size 0 rfl X hR.out ?_)
  generalize (w.alloc (.cells (arr X) 23)).alloc (.cells (arr .zero) 23) = w0 at B0 hR hQ hS ⊢
  refine (rOf_w X w0).mono ?_
  rintro e w1 ⟨g, rfl, hO⟩
  have RW := Lib.hid hO.row
  have B1 := Lib.hid (B0.out.trans (hO.below.mono B0.out.size))
  have GE : Hid (w.heap.size + 2 ≤ g) := Lib.hid (by have := hO.le; have := hS.out; omega)
  have hR1 := Lib.hid (hR.out.keep (hO.below.block w.heap.size (by have := hS.out; omega)))
  have hQ1 := Lib.hid ((hO.below.block (w.heap.size + 1) (by have := hS.out; omega)).trans hQ.out)
  clear hO hR hQ hS B0
  have no : ∀ T : Hid (turns X i v = false), Hid (Ending.returned (.tuple #[.agg (arr X), .bool false]) = Ending.returned (.tuple #[.agg (arr (turnB X i v)), .bool (turns X i v)])) := fun T => Lib.hid (by rw [turnB_no T.out, T.out])
  by_cases h0 : i < 0
  · have t0 : decide (i < 0) = true := by simp; omega
    have N := no (Lib.hid (turns_out (.inl h0)))
    clear no h0
    go_wp2_with (first
      | (refine load_blk rfl (.tmp 3) rfl w.heap.size 0 rfl X hR1.out ?_)
      | (refine store_row rfl (.tmp 6) (.tmp 25) rfl (w.heap.size + 1) X .zero 23 rfl rfl hQ1.out ?_))
    exact bodyPost_ret (v := .tuple #[.agg (arr X), .bool false]) (results_blk_tmp Try.results19 _ _ (w.heap.size + 1) X _ rfl (setRow_heap _ _ _ _ _ _ hQ1.out)) rfl ⟨N.out, below_setRow B1.out (by omega) _⟩
  · have t0 : decide (i < 0) = false := by simp; omega
    by_cases h1 : 2048 ≤ i
    · have t1 : decide (2048 ≤ i) = true := by simp; omega
      have N := no (Lib.hid (turns_out (.inr h1)))
      clear no h0 h1
      go_wp2_with (first
        | (refine load_blk rfl (.tmp 3) rfl w.heap.size 0 rfl X hR1.out ?_)
        | (refine store_row rfl (.tmp 6) (.tmp 25) rfl (w.heap.size + 1) X .zero 23 rfl rfl hQ1.out ?_))
      exact bodyPost_ret (v := .tuple #[.agg (arr X), .bool false]) (results_blk_tmp Try.results19 _ _ (w.heap.size + 1) X _ rfl (setRow_heap _ _ _ _ _ _ hQ1.out)) rfl ⟨N.out, below_setRow B1.out (by omega) _⟩
    · have t1 : decide (2048 ≤ i) = false := by simp; omega
      obtain ⟨k, rfl⟩ := Int.eq_ofNat_of_zero_le (show 0 ≤ i by omega)
      have hk : k < 2048 := by omega
      have t2 : decide (2048 ≤ k) = false := by simp; omega
      have j1 : (0 : Int) ≤ k := by omega
      have j2 : (k : Int) < 2048 := by omega
      have c1 := rowcell RW.out hk
      have f1 := row_frozen (k := k) RW.out
      by_cases hx : bit X k = v
      · have N := no (Lib.hid (by rw [turns_in hk, hx]; simp))
        rw [hx] at c1
        have hb : (v == v) = true := by simp
        clear no h0 h1 hx
        go_wp2_with (first
          | (refine load_blk rfl (.tmp 3) rfl w.heap.size 0 rfl X hR1.out ?_)
          | (refine store_row rfl (.tmp 6) (.tmp 25) rfl (w.heap.size + 1) X .zero 23 rfl rfl hQ1.out ?_))
        exact bodyPost_ret (v := .tuple #[.agg (arr X), .bool false]) (results_blk_tmp Try.results19 _ _ (w.heap.size + 1) X _ rfl (setRow_heap _ _ _ _ _ _ hQ1.out)) rfl ⟨N.out, below_setRow B1.out (by omega) _⟩
      · have T : Hid (turns X k v = true) := Lib.hid (by rw [turns_in hk]; simp [hx])
        have hb : (bit X k == v) = false := by simp [hx]
        have B2 := Lib.hid (below_setCell (k := k) B1.out (show w.heap.size ≤ g by have := GE.out; omega) (.bool v))
        have RW2 := Lib.hid (rowset (k := k) RW.out v)
        have hQ2 : Hid ((w1.setCell ⟨g, k, none⟩ (.bool v)).heap[w.heap.size + 1]? = some (.cells (arr .zero) 23 (0, 0))) := Lib.hid ((setCells_heap_ne g [.bool v] k w1 (w.heap.size + 1) (by have := GE.out; omega)).trans hQ1.out)
        have LQ : Hid (w.heap.size + 1 < (w1.setCell ⟨g, k, none⟩ (.bool v)).heap.size) := Lib.hid (by
          rcases Nat.lt_or_ge (w.heap.size + 1) (w1.setCell ⟨g, k, none⟩ (.bool v)).heap.size with q | q
          · exact q
          · have := hQ2.out; rw [Array.getElem?_eq_none q] at this; cases this)
        clear no h0 h1 hx
        go_wp2_with fail
        refine (rBlock_any _ g _ _ RW2.out).mono ?_
        rintro e w3 ⟨rfl, hb3⟩
        have B3 := Lib.hid (B2.out.trans (hb3.mono B2.out.size))
        have hQ3 := Lib.hid ((hb3.block (w.heap.size + 1) LQ.out).trans hQ2.out)
        have E : Hid (mk (fun j => if j = k then v else bit X j) = turnB X k v) := Lib.hid (by rw [turnB_yes T.out]; rfl)
        obtain ⟨Y, hY⟩ : ∃ Y, turnB X k v = Y := ⟨_, rfl⟩
        rw [E.out, hY]
        have EY := Lib.hid hY
        clear hb3 B2 hQ2 RW2 hY
        go_wp2_with (refine store_row rfl (.tmp 6) (.tmp 31) rfl (w.heap.size + 1) Y .zero 23 rfl rfl hQ3.out ?_)
        exact bodyPost_ret (v := .tuple #[.agg (arr Y), .bool true]) (results_blk_tmp Try.results19 _ _ (w.heap.size + 1) Y _ rfl (setRow_heap _ _ _ _ _ _ hQ3.out)) rfl ⟨by rw [T.out, EY.out], below_setRow B3.out (by omega) _⟩
end Go.Proofs.Ytkblpildfeopiaa
