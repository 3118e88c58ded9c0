import Derived.Test.YtnneppkkmhjpbaaNumsMath
namespace Go.Proofs.Ytnneppkkmhjpbaa
open Go.RowKit

/-! Memory that the call itself made: a block of bytes, known from the slice's own head on. -/
def Cells8 (w : World) (g o N : Nat) (f : Nat → Nat) : Prop :=
  ∃ (t : TypeId) (cs : Array Value), w.heap[g]? = some (.cells cs t (0, 0)) ∧ ∀ i, i < N → cs[o + i]? = some (.int .u8 ((f i : Nat) : Int))

/-- The slice value '.slice A _ _' has N bytes f 0 .. f (N - 1) from its head on, which lie in a block of the call's own (number base or above), that may be written. -/
def Own (w : World) (base : Nat) (A : Option Addr) (N : Nat) (f : Nat → Nat) : Prop :=
  (∀ i, f i < 256) ∧ (0 < N → ∃ g o, A = some ⟨g, o, none⟩ ∧ base ≤ g ∧ Cells8 w g o N f)

theorem Cells8.lt {w : World} {g o N : Nat} {f : Nat → Nat} (h : Cells8 w g o N f) : g < w.heap.size := by
  obtain ⟨t, cs, h, _⟩ := h
  rcases Nat.lt_or_ge g w.heap.size with hlt | hge
  · exact hlt
  · rw [Array.getElem?_eq_none hge] at h; cases h
theorem Cells8.cell {w : World} {g o N : Nat} {f : Nat → Nat} (h : Cells8 w g o N f) (i : Nat) (hi : i < N) : w.cell? ⟨g, o + i, none⟩ = some (.int .u8 ((f i : Nat) : Int)) := by
  obtain ⟨t, cs, h, hc⟩ := h
  rw [cell_of_row w g (o + i) cs t (0, 0) h]
  exact hc i hi
theorem Cells8.frozen {w : World} {g o N : Nat} {f : Nat → Nat} (h : Cells8 w g o N f) (i : Nat) : w.frozen? ⟨g, i, none⟩ = false := by
  obtain ⟨t, cs, h, _⟩ := h
  simp [World.frozen?, h]
theorem Cells8.keep {w w' : World} {g o N : Nat} {f : Nat → Nat} (h : Cells8 w g o N f) (hk : w'.heap[g]? = w.heap[g]?) : Cells8 w' g o N f := by
  obtain ⟨t, cs, h, hc⟩ := h
  exact ⟨t, cs, hk.trans h, hc⟩
def upd (f : Nat → Nat) (i x : Nat) : Nat → Nat := fun j => if j = i then x else f j
theorem Cells8.set {w : World} {g o N : Nat} {f : Nat → Nat} (h : Cells8 w g o N f) (i x : Nat) (hi : i < N) : Cells8 (w.setCell ⟨g, o + i, none⟩ (.int .u8 (x : Int))) g o N (upd f i x) := by
  obtain ⟨t, cs, h, hc⟩ := h
  refine ⟨t, cs.setIfInBounds (o + i) (.int .u8 (x : Int)), by simp [World.setCell, Array.getElem?_modify, h], fun j hj => ?_⟩
  have hlt : o + i < cs.size := by
    rcases Nat.lt_or_ge (o + i) cs.size with hlt | hge
    · exact hlt
    · have := hc i hi; rw [Array.getElem?_eq_none hge] at this; cases this
  unfold upd
  by_cases e : j = i
  · subst e; rw [if_pos rfl, Array.getElem?_setIfInBounds_self_of_lt hlt]
  · rw [if_neg e, Array.getElem?_setIfInBounds_ne (by omega)]; exact hc j hj

/-- The world w' is w but for block g. -/
def Only (g : Nat) (w w' : World) : Prop := w.grownBy w' (some g)
theorem Only.refl (g : Nat) (w : World) : Only g w w := World.grownBy.refl w _
theorem Only.trans {g : Nat} {a b c : World} (h : Only g a b) (k : Only g b c) : Only g a c :=
  ⟨k.os.trans h.os, k.tape.trans h.tape, k.output.trans h.output, Nat.le_trans h.size k.size, fun i hi hne => (k.block i (Nat.lt_of_lt_of_le hi h.size) hne).trans (h.block i hi hne)⟩
theorem Only.set (w : World) (g o : Nat) (u : Value) : Only g w (w.setCell ⟨g, o, none⟩ u) :=
  ⟨rfl, rfl, rfl, by simp [World.setCell], fun i hi hne => Below.heap_setCell w _ u i (fun e => hne (by rw [e]))⟩
theorem Only.drewN (g : Nat) (w : World) (d : Nat) : Only g w (w.drewN d) := ⟨rfl, rfl, rfl, Nat.le_refl _, fun _ _ _ => rfl⟩
theorem Own.drewN {w : World} {base : Nat} {A : Option Addr} {N : Nat} {f : Nat → Nat} (h : Own w base A N f) (d : Nat) : Own (w.drewN d) base A N f := h
theorem Only.below {g B : Nat} {a b : World} (h : Only g a b) (hg : B ≤ g) (hB : B ≤ a.heap.size) : Below B a b :=
  ⟨h.os, h.tape, h.output, h.size, fun i hi => h.block i (Nat.lt_of_lt_of_le hi hB) (fun e => by injection e with e; omega)⟩

theorem Own.row {w : World} {base : Nat} {A : Option Addr} {N n : Nat} {f : Nat → Nat} (h : Own w base A N f) (hn : n ≤ N) : Row w A n f :=
  ⟨h.1, fun h0 => by
    obtain ⟨g, o, e, _, hc⟩ := h.2 (by omega)
    exact ⟨g, o, e, hc.lt, fun i hi => hc.cell i (by omega)⟩⟩
theorem Own.keep {w w' : World} {base : Nat} {A : Option Addr} {N : Nat} {f : Nat → Nat} (h : Own w base A N f) (hk : ∀ g o, A = some ⟨g, o, none⟩ → w'.heap[g]? = w.heap[g]?) : Own w' base A N f :=
  ⟨h.1, fun h0 => by
    obtain ⟨g, o, e, hb, hc⟩ := h.2 h0
    exact ⟨g, o, e, hb, hc.keep (hk g o e)⟩⟩

def p16 (f : Nat → Nat) (a v : Nat) : Nat → Nat := upd (upd f a (v % 256)) (a + 1) (v / 256 % 256)
def p32 (f : Nat → Nat) (a v : Nat) : Nat → Nat := upd (upd (upd (upd f a (v % 256)) (a + 1) (v / 256 % 256)) (a + 2) (v / 65536 % 256)) (a + 3) (v / 16777216 % 256)

theorem upd_lt {f : Nat → Nat} (hf : ∀ i, f i < 256) (i x : Nat) (hx : x < 256) : ∀ j, upd f i x j < 256 := by
  intro j; unfold upd; split
  · exact hx
  · exact hf j
theorem p16_lt {f : Nat → Nat} (hf : ∀ i, f i < 256) (a v : Nat) : ∀ j, p16 f a v j < 256 := by
  unfold p16
  exact upd_lt (upd_lt hf _ _ (by omega)) _ _ (by omega)
theorem p32_lt {f : Nat → Nat} (hf : ∀ i, f i < 256) (a v : Nat) : ∀ j, p32 f a v j < 256 := by
  unfold p32
  exact upd_lt (upd_lt (upd_lt (upd_lt hf _ _ (by omega)) _ _ (by omega)) _ _ (by omega)) _ _ (by omega)
theorem put16_end {w : World} {base g o N : Nat} {f : Nat → Nat} (hb : base ≤ g) (hc : Cells8 w g o N f) (hf : ∀ i, f i < 256) (a x : Nat) (ha : a + 2 ≤ N) (y0 y1 : Int) (e0 : y0 = ((x % 256 : Nat) : Int)) (e1 : y1 = ((x / 256 % 256 : Nat) : Int)) :
    Own ((w.setCell ⟨g, o + a, none⟩ (.int .u8 y0)).setCell ⟨g, o + (a + 1), none⟩ (.int .u8 y1)) base (some ⟨g, o, none⟩) N (p16 f a x) ∧
    ∀ g' o', (some ⟨g, o, none⟩ : Option Addr) = some ⟨g', o', none⟩ → Only g' w ((w.setCell ⟨g, o + a, none⟩ (.int .u8 y0)).setCell ⟨g, o + (a + 1), none⟩ (.int .u8 y1)) := by
  subst e0 e1
  refine ⟨⟨p16_lt hf a x, fun _ => ⟨g, o, rfl, hb, (hc.set a _ (by omega)).set (a + 1) _ (by omega)⟩⟩, fun g' o' e => ?_⟩
  injection e with e; injection e with e _; subst e
  exact (Only.set _ _ _ _).trans (Only.set _ _ _ _)
theorem put32_end {w : World} {base g o N : Nat} {f : Nat → Nat} (hb : base ≤ g) (hc : Cells8 w g o N f) (hf : ∀ i, f i < 256) (a x : Nat) (ha : a + 4 ≤ N) (y0 y1 y2 y3 : Int) (e0 : y0 = ((x % 256 : Nat) : Int)) (e1 : y1 = ((x / 256 % 256 : Nat) : Int))
    (e2 : y2 = ((x / 65536 % 256 : Nat) : Int)) (e3 : y3 = ((x / 16777216 % 256 : Nat) : Int)) :
    Own ((((w.setCell ⟨g, o + a, none⟩ (.int .u8 y0)).setCell ⟨g, o + (a + 1), none⟩ (.int .u8 y1)).setCell ⟨g, o + (a + 2), none⟩ (.int .u8 y2)).setCell ⟨g, o + (a + 3), none⟩ (.int .u8 y3)) base (some ⟨g, o, none⟩) N (p32 f a x) ∧
    ∀ g' o', (some ⟨g, o, none⟩ : Option Addr) = some ⟨g', o', none⟩ →
      Only g' w ((((w.setCell ⟨g, o + a, none⟩ (.int .u8 y0)).setCell ⟨g, o + (a + 1), none⟩ (.int .u8 y1)).setCell ⟨g, o + (a + 2), none⟩ (.int .u8 y2)).setCell ⟨g, o + (a + 3), none⟩ (.int .u8 y3)) := by
  subst e0 e1 e2 e3
  refine ⟨⟨p32_lt hf a x, fun _ => ⟨g, o, rfl, hb, (((hc.set a _ (by omega)).set (a + 1) _ (by omega)).set (a + 2) _ (by omega)).set (a + 3) _ (by omega)⟩⟩, fun g' o' e => ?_⟩
  injection e with e; injection e with e _; subst e
  exact (((Only.set _ _ _ _).trans (Only.set _ _ _ _)).trans (Only.set _ _ _ _)).trans (Only.set _ _ _ _)

/-- The bytes of a literal. -/
def lit8 (xs : List Nat) : Nat → Nat := fun i => xs.getD i 0
def lits8 (xs : List Nat) : Array Value := (xs.map fun x => Value.int .u8 ((x : Nat) : Int)).toArray
theorem lit8_lt {xs : List Nat} (h : ∀ x ∈ xs, x < 256) : ∀ i, lit8 xs i < 256 := by
  intro i
  unfold lit8
  rw [List.getD_eq_getElem?_getD]
  rcases hx : xs[i]? with _ | x
  · simp
  · simpa using h x (List.mem_of_getElem? hx)
theorem Own.lit (w : World) (base : Nat) (t : TypeId) (xs : List Nat) (hb : base ≤ w.heap.size) (h : ∀ x ∈ xs, x < 256) : Own (w.alloc (.cells (lits8 xs) t)) base (some ⟨w.heap.size, 0, none⟩) xs.length (lit8 xs) := by
  refine ⟨lit8_lt h, fun _ => ⟨_, 0, rfl, hb, t, lits8 xs, heap_alloc_new w _, fun i hi => ?_⟩⟩
  simp [lits8, lit8, List.getElem?_eq_getElem hi, List.getD_eq_getElem?_getD]
theorem Own.alloc {w : World} {base : Nat} {A : Option Addr} {N : Nat} {f : Nat → Nat} (h : Own w base A N f) (o : Obj) : Own (w.alloc o) base A N f :=
  ⟨h.1, fun h0 => by
    obtain ⟨g, o', e, hb, hc⟩ := h.2 h0
    exact ⟨g, o', e, hb, hc.keep (Below.heap_alloc w o g hc.lt)⟩⟩

theorem Own.lit' (w : World) (base g : Nat) (t : TypeId) (xs : List Nat) (hg : g = w.heap.size) (hb : base ≤ g) (h : ∀ x ∈ xs, x < 256) : Own (w.alloc (.cells (lits8 xs) t)) base (some ⟨g, 0, none⟩) xs.length (lit8 xs) := by
  subst hg
  exact Own.lit w base t xs hb h

end Go.Proofs.Ytnneppkkmhjpbaa
