import Derived.Test.YtjiooadakklmlaaJbW
import Derived.Test.YtjiooadakklmlaaJbL1
namespace Go.Proofs.Ytjiooadakklmlaa
open Go.RowKit

/-! JblockReads: what is told is the caller's own. -/
/-- A row of the call's own that may be written over. -/
def Room (w : World) (e : TypeId) (g k : Nat) : Prop := ∃ cur, w.heap[g]? = some (.cells cur e (0, 0)) ∧ k ≤ cur.size
section
variable {w w' : World} {e : TypeId} {g k : Nat}
theorem Room.lt (h : Room w e g k) : g < w.heap.size := by
  obtain ⟨cur, h, _⟩ := h
  exact (Array.getElem?_eq_some_iff.1 h).1
theorem Room.keep (h : Room w e g k) (hk : w'.heap[g]? = w.heap[g]?) : Room w' e g k := by
  obtain ⟨cur, h, hs⟩ := h
  exact ⟨cur, hk.trans h, hs⟩
theorem Room.below (h : Room w e g k) (hb : Below w.heap.size w w') : Room w' e g k := h.keep (hb.block _ h.lt)
theorem Room.only {b : Nat} (h : Room w e g k) (ho : Only b w w') (hne : g ≠ b) : Room w' e g k := h.keep (ho.block _ h.lt (fun e => by injection e with e; exact hne e))
theorem Room.cell (h : Room w e g k) {i : Nat} (hi : i < k) : ∃ v, w.cell? ⟨g, i, none⟩ = some v := by
  obtain ⟨cur, h, hs⟩ := h
  exact ⟨cur[i]'(by omega), by rw [cell_of_row w g i _ _ _ h, Array.getElem?_eq_getElem (by omega)]⟩
theorem Room.frozen (h : Room w e g k) (i : Nat) : w.frozen? ⟨g, i, none⟩ = false := by
  obtain ⟨cur, h, _⟩ := h
  simp [World.frozen?, h]
theorem Room.set (h : Room w e g k) (i : Nat) (v : Value) : Room (w.setCell ⟨g, i, none⟩ v) e g k := by
  obtain ⟨cur, h, hs⟩ := h
  exact ⟨_, heap_setCell_same w g i _ _ _ h, by simpa using hs⟩
end
/-- A told list: it may be written over, and lies where nothing lay. -/
def Told (w : World) (base : Nat) (e : TypeId) (A : Option Addr) (n s : Nat) : Prop := 0 < n → ∃ g, A = some ⟨g, 0, none⟩ ∧ base ≤ g ∧ Room w e g (n * s)
theorem Told.below {w w' : World} {base n s : Nat} {e : TypeId} {A : Option Addr} (h : Told w base e A n s) (hb : Below w.heap.size w w') : Told w' base e A n s := fun h0 => by
  obtain ⟨g, e, hg, hr⟩ := h h0
  exact ⟨g, e, hg, hr.below hb⟩
theorem told_of {w : World} {base n s : Nat} {e : TypeId} {A : Option Addr} {c : Nat} {cs : List Value} (h : w.ownsRow base e s (.slice A n c) n cs) : Told w base e A n s := fun h0 => by
  rcases h.2 with ⟨_, q⟩ | ⟨g, cap, cur, e1, hb, hg, h1, h2, h3, _⟩
  · omega
  · injection e1 with e1 _ _
    exact ⟨g, e1, hb, cur, hg, by rw [h3]; exact Nat.mul_le_mul_right _ h1⟩
/-- Both lists. -/
structure TT (W0 w : World) (base base2 : Nat) (A B : Option Addr) (n m : Nat) : Prop where
  one : Told w base 62 A n 2
  two : Told w base2 22 B m 1
  low : Below W0.heap.size W0 w
  ord : ∀ g, A = some ⟨g, 0, none⟩ → 0 < n → g < base2
theorem TT.set1 {W0 w : World} {base base2 n m g i : Nat} {A B : Option Addr} (h : TT W0 w base base2 A B n m) (hb : W0.heap.size ≤ base) (hA : A = some ⟨g, 0, none⟩) (h0 : 0 < n) (v : Value) : TT W0 (w.setCell ⟨g, i, none⟩ v) base base2 A B n m := by
  have ho : Only g w (w.setCell ⟨g, i, none⟩ v) := Only.set w g i v
  have hg2 := h.ord g hA h0
  refine ⟨fun h0 => ?_, fun h0 => ?_, ?_, h.ord⟩
  · obtain ⟨g', e, hg, hr⟩ := h.one h0
    obtain rfl : g' = g := by rw [hA] at e; injection e with e; injection e with e; exact e.symm
    exact ⟨g', e, hg, hr.set i v⟩
  · obtain ⟨g', e, hg, hr⟩ := h.two h0
    exact ⟨g', e, hg, hr.only ho (by omega)⟩
  · obtain ⟨g', e, hg, _⟩ := h.one h0
    obtain rfl : g' = g := by rw [hA] at e; injection e with e; injection e with e; exact e.symm
    exact low_only h.low ho (by omega)
theorem TT.set2 {W0 w : World} {base base2 n m g i : Nat} {A B : Option Addr} (h : TT W0 w base base2 A B n m) (hb : W0.heap.size ≤ base2) (hB : B = some ⟨g, 0, none⟩) (h0 : 0 < m) (v : Value) : TT W0 (w.setCell ⟨g, i, none⟩ v) base base2 A B n m := by
  have ho : Only g w (w.setCell ⟨g, i, none⟩ v) := Only.set w g i v
  have hgb : base2 ≤ g := by
    obtain ⟨g', e, hg, _⟩ := h.two h0
    obtain rfl : g' = g := by rw [hB] at e; injection e with e; injection e with e; exact e.symm
    exact hg
  refine ⟨fun h0 => ?_, fun h0 => ?_, low_only h.low ho (by omega), h.ord⟩
  · obtain ⟨g', e, hg, hr⟩ := h.one h0
    have := h.ord g' e h0
    exact ⟨g', e, hg, hr.only ho (by omega)⟩
  · obtain ⟨g', e, hg, hr⟩ := h.two h0
    obtain rfl : g' = g := by rw [hB] at e; injection e with e; injection e with e; exact e.symm
    exact ⟨g', e, hg, hr.set i v⟩
/-- What is read of a block as a list, by both. -/
def DescB (X : Blk) (s : Nat) (l : List TagV) (d : Int) : Prop := l.length ≤ 1000 ∧
  (∀ W, Calls Try.prog 29 #[.agg (arr X)] W fun e w' => (∃ A c, e = .returned (.tuple #[.int .u32 (s : Int), .slice A l.length c, .int .i64 d]) ∧ TagsAt w' A l ∧ Told w' W.heap.size 62 A l.length 2) ∧ Below W.heap.size W w') ∧
  (∀ W, Calls Try.prog 27 #[.agg (arr X)] W fun e w' => (∃ A c, e = .returned (.tuple #[.int .u32 (s : Int), .slice A l.length c, .int .i64 d]) ∧ TagsAt w' A l) ∧ Below W.heap.size W w')
def RevB (X : Blk) (s : Nat) (l : List Nat) (d : Int) : Prop := l.length ≤ 1000 ∧
  (∀ W, Calls Try.prog 30 #[.agg (arr X)] W fun e w' => (∃ A c, e = .returned (.tuple #[.int .u32 (s : Int), .slice A l.length c, .int .i64 d]) ∧ NumsAt w' A l ∧ Told w' W.heap.size 22 A l.length 1) ∧ Below W.heap.size W w') ∧
  (∀ W, Calls Try.prog 28 #[.agg (arr X)] W fun e w' => (∃ A c, e = .returned (.tuple #[.int .u32 (s : Int), .slice A l.length c, .int .i64 d]) ∧ NumsAt w' A l) ∧ Below W.heap.size W w')
theorem desc_b (hS : JSays) (X : Blk) : ∃ s l d, DescB X s l d := by
  by_cases q : IsJT X
  · refine ⟨num X 2, tagsOf X (num X 3), 0, by rw [tagsOf_length]; have := q.hi; omega, fun W => (hS.readDesc X W).mono fun e w' z => ⟨?_, z.2⟩, fun W => (rReadDesc X W).mono fun e w' z => ⟨?_, z.2⟩⟩
    · rcases z.1 with ⟨_, v, rfl, ho⟩ | ⟨n, _⟩
      · obtain ⟨A, c, rfl, _, hT⟩ := own_tagsN ho (tagsOf_length X _).symm
        rw [tagsOf_length]
        exact ⟨A, c, rfl, hT, told_of ho⟩
      · exact absurd q n
    · rcases z.1 with ⟨_, v, rfl, ho⟩ | ⟨n, _⟩
      · obtain ⟨A, c, rfl, _, hT⟩ := own_tagsN ho (tagsOf_length X _).symm
        rw [tagsOf_length]
        exact ⟨A, c, rfl, hT⟩
      · exact absurd q n
  · refine ⟨0, [], 90, by decide, fun W => (hS.readDesc X W).mono fun e w' z => ⟨?_, z.2⟩, fun W => (rReadDesc X W).mono fun e w' z => ⟨?_, z.2⟩⟩
    · rcases z.1 with ⟨n, _⟩ | ⟨_, rfl⟩
      · exact absurd n q
      · exact ⟨none, 0, rfl, TagsAt.nil _ _, fun h => absurd h (Nat.lt_irrefl 0)⟩
    · rcases z.1 with ⟨n, _⟩ | ⟨_, rfl⟩
      · exact absurd n q
      · exact ⟨none, 0, rfl, TagsAt.nil _ _⟩
theorem rev_b (hS : JSays) (X : Blk) : ∃ s l d, RevB X s l d := by
  by_cases q : IsJR X
  · refine ⟨num X 2, numsOf X (num X 3), 0, by rw [numsOf_length]; have := q.hi; omega, fun W => (hS.readRevoke X W).mono fun e w' z => ⟨?_, z.2⟩, fun W => (rReadRevoke X W).mono fun e w' z => ⟨?_, z.2⟩⟩
    · rcases z.1 with ⟨_, v, rfl, ho⟩ | ⟨n, _⟩
      · obtain ⟨A, c, rfl, _, hT⟩ := own_numsN ho (numsOf_length X _).symm
        rw [numsOf_length]
        exact ⟨A, c, rfl, hT, told_of ho⟩
      · exact absurd q n
    · rcases z.1 with ⟨_, v, rfl, ho⟩ | ⟨n, _⟩
      · obtain ⟨A, c, rfl, _, hT⟩ := own_numsN ho (numsOf_length X _).symm
        rw [numsOf_length]
        exact ⟨A, c, rfl, hT⟩
      · exact absurd q n
  · refine ⟨0, [], 90, by decide, fun W => (hS.readRevoke X W).mono fun e w' z => ⟨?_, z.2⟩, fun W => (rReadRevoke X W).mono fun e w' z => ⟨?_, z.2⟩⟩
    · rcases z.1 with ⟨n, _⟩ | ⟨_, rfl⟩
      · exact absurd n q
      · exact ⟨none, 0, rfl, NumsAt.nil _ _, fun h => absurd h (Nat.lt_irrefl 0)⟩
    · rcases z.1 with ⟨n, _⟩ | ⟨_, rfl⟩
      · exact absurd n q
      · exact ⟨none, 0, rfl, NumsAt.nil _ _⟩
/-- What lies in memory: the block, and what the document's own told. -/
structure JR (w0 w : World) (X : Blk) (A B : Option Addr) (l : List TagV) (m : List Nat) : Prop where
  blk : BVar w w0.heap.size X
  tags : TagsAt w A l
  nums : NumsAt w B m
  low : Below w0.heap.size w0 w
theorem JR.below {w0 w w' : World} {X : Blk} {A B : Option Addr} {l : List TagV} {m : List Nat} (k : JR w0 w X A B l m) (hb : Below w.heap.size w w') : JR w0 w' X A B l m := ⟨k.blk.below hb, k.tags.below hb, k.nums.below hb, low_go k.low hb⟩
end Go.Proofs.Ytjiooadakklmlaa
