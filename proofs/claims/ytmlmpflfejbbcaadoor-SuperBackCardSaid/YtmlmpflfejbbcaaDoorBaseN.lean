import Derived.Test.YtmlmpflfejbbcaaDoorRows
import Derived.WalkKit
import Derived.WalkSpells
import Derived.WalkLawsBesides
import Derived.Deep.Draws
import Derived.Laws.BitsAllLaws
import Derived.Maps.AppendAt
import Derived.Lib.Hide
import Derived.Deep.QuietTactic
import Derived.BigQuiet
namespace Go.Proofs.YtmlmpflfejbbcaaDoor
open Go.RowKit

/-- The slice value '.slice A n _' reads as the bytes f 0, .., f (n - 1). -/
def Row (w : World) (A : Option Addr) (n : Nat) (f : Nat → Nat) : Prop :=
  (∀ i, f i < 256) ∧ (0 < n → ∃ b o, A = some ⟨b, o, none⟩ ∧ b < w.heap.size ∧ ∀ i, i < n → w.cell? ⟨b, o + i, none⟩ = some (.int .u8 ((f i : Nat) : Int)))

def g16 (f : Nat → Nat) (a : Nat) : Nat := f a + 256 * f (a + 1)
def g32 (f : Nat → Nat) (a : Nat) : Nat := f a + 256 * f (a + 1) + 65536 * f (a + 2) + 16777216 * f (a + 3)

theorem Row.drewN {w : World} {A : Option Addr} {n : Nat} {f : Nat → Nat} (h : Row w A n f) (k : Nat) : Row (w.drewN k) A n f := h
theorem Row.below {w w' : World} {A : Option Addr} {n : Nat} {f : Nat → Nat} (h : Row w A n f) (hb : Below w.heap.size w w') : Row w' A n f :=
  ⟨h.1, fun hn => by
    obtain ⟨b, o, e, hlt, hc⟩ := h.2 hn
    exact ⟨b, o, e, Nat.lt_of_lt_of_le hlt hb.size, fun i hi => (hb.cell (p := ⟨b, o + i, none⟩) hlt).trans (hc i hi)⟩⟩

theorem join32 (x y : Int) (h0 : 0 ≤ x) (h1 : x < 16777216) (h2 : 0 ≤ y) (h3 : y < 256) : bits .or .u32 (x * 256 % 4294967296) y = x * 256 + y := by
  obtain ⟨a, rfl⟩ := Int.eq_ofNat_of_zero_le h0
  obtain ⟨b, rfl⟩ := Int.eq_ofNat_of_zero_le h2
  have e : (a : Int) * 256 % 4294967296 = ((a * 256 : Nat) : Int) := by omega
  rw [e, u32_or_nat _ _ (by omega) (by omega), nat_join 8 _ _ (by omega) (by omega)]
  omega
theorem join16 (x y : Int) (h0 : 0 ≤ x) (h1 : x < 256) (h2 : 0 ≤ y) (h3 : y < 256) : bits .or .u16 (x * 256 % 65536) y = x * 256 + y := by
  obtain ⟨a, rfl⟩ := Int.eq_ofNat_of_zero_le h0
  obtain ⟨b, rfl⟩ := Int.eq_ofNat_of_zero_le h2
  have e : (a : Int) * 256 % 65536 = ((a * 256 : Nat) : Int) := by omega
  rw [e, u16_or_nat _ _ (by omega) (by omega), nat_join 8 _ _ (by omega) (by omega)]
  omega
theorem or0_32 (y : Nat) (h : y < 256) : bits .or .u32 0 (y : Int) = y := by
  have := u32_or_nat 0 y (by omega) (by omega)
  simpa using this
theorem or0_16 (y : Nat) (h : y < 256) : bits .or .u16 0 (y : Int) = y := by
  have := u16_or_nat 0 y (by omega) (by omega)
  simpa using this
theorem val32 (a b c d : Nat) (ha : a < 256) (hb : b < 256) (hc : c < 256) (hd : d < 256) :
    bits .or .u32 (bits .or .u32 (bits .or .u32 (bits .or .u32 0 (d : Int) * 256 % 4294967296) c * 256 % 4294967296) b * 256 % 4294967296) a = ((a + 256 * b + 65536 * c + 16777216 * d : Nat) : Int) := by
  rw [or0_32 d hd, join32 d c (by omega) (by omega) (by omega) (by omega), join32 _ b (by omega) (by omega) (by omega) (by omega), join32 _ a (by omega) (by omega) (by omega) (by omega)]
  omega
theorem val16 (a b : Nat) (ha : a < 256) (hb : b < 256) :
    bits .or .u16 (bits .or .u16 0 (b : Int) * 256 % 65536) a = ((a + 256 * b : Nat) : Int) := by
  rw [or0_16 b hb, join16 b a (by omega) (by omega) (by omega) (by omega)]
  omega

end Go.Proofs.YtmlmpflfejbbcaaDoor
namespace Go.Proofs.YtmlmpflfejbbcaaDoor
open Go.RowKit

/-! Memory that the call itself made: a block of bytes, known from the slice's own head on. -/
def Cells8 (w : World) (g o N : Nat) (f : Nat → Nat) : Prop :=
  ∃ (t : TypeId) (cs : Array Value), w.heap[g]? = some (.cells cs t (0, 0)) ∧ ∀ i, i < N → cs[o + i]? = some (.int .u8 ((f i : Nat) : Int))

/-- The slice value '.slice A _ _' has N bytes f 0 .. f (N - 1) from its head on, which lie in a block of the call's own (number base or above), that may be written. -/
def Own (w : World) (base : Nat) (A : Option Addr) (N : Nat) (f : Nat → Nat) : Prop :=
  (∀ i, f i < 256) ∧ (0 < N → ∃ g o, A = some ⟨g, o, none⟩ ∧ base ≤ g ∧ Cells8 w g o N f)

theorem Cells8.lt {w : World} {g o N : Nat} {f : Nat → Nat} (h : Cells8 w g o N f) : g < w.heap.size := by
  obtain ⟨t, cs, h, _⟩ := h
  rcases Nat.lt_or_ge g w.heap.size with hlt | hge
  · exact hlt
  · rw [Array.getElem?_eq_none hge] at h; cases h
theorem Cells8.cell {w : World} {g o N : Nat} {f : Nat → Nat} (h : Cells8 w g o N f) (i : Nat) (hi : i < N) : w.cell? ⟨g, o + i, none⟩ = some (.int .u8 ((f i : Nat) : Int)) := by
  obtain ⟨t, cs, h, hc⟩ := h
  rw [cell_of_row w g (o + i) cs t (0, 0) h]
  exact hc i hi
theorem Cells8.frozen {w : World} {g o N : Nat} {f : Nat → Nat} (h : Cells8 w g o N f) (i : Nat) : w.frozen? ⟨g, i, none⟩ = false := by
  obtain ⟨t, cs, h, _⟩ := h
  simp [World.frozen?, h]
theorem Cells8.keep {w w' : World} {g o N : Nat} {f : Nat → Nat} (h : Cells8 w g o N f) (hk : w'.heap[g]? = w.heap[g]?) : Cells8 w' g o N f := by
  obtain ⟨t, cs, h, hc⟩ := h
  exact ⟨t, cs, hk.trans h, hc⟩
def upd (f : Nat → Nat) (i x : Nat) : Nat → Nat := fun j => if j = i then x else f j
theorem Cells8.set {w : World} {g o N : Nat} {f : Nat → Nat} (h : Cells8 w g o N f) (i x : Nat) (hi : i < N) : Cells8 (w.setCell ⟨g, o + i, none⟩ (.int .u8 (x : Int))) g o N (upd f i x) := by
  obtain ⟨t, cs, h, hc⟩ := h
  refine ⟨t, cs.setIfInBounds (o + i) (.int .u8 (x : Int)), by simp [World.setCell, Array.getElem?_modify, h], fun j hj => ?_⟩
  have hlt : o + i < cs.size := by
    rcases Nat.lt_or_ge (o + i) cs.size with hlt | hge
    · exact hlt
    · have := hc i hi; rw [Array.getElem?_eq_none hge] at this; cases this
  unfold upd
  by_cases e : j = i
  · subst e; rw [if_pos rfl, Array.getElem?_setIfInBounds_self_of_lt hlt]
  · rw [if_neg e, Array.getElem?_setIfInBounds_ne (by omega)]; exact hc j hj

/-- The world w' is w but for block g. -/
def Only (g : Nat) (w w' : World) : Prop := w.grownBy w' (some g)
theorem Only.refl (g : Nat) (w : World) : Only g w w := World.grownBy.refl w _
theorem Only.trans {g : Nat} {a b c : World} (h : Only g a b) (k : Only g b c) : Only g a c :=
  ⟨k.os.trans h.os, k.tape.trans h.tape, k.output.trans h.output, Nat.le_trans h.size k.size, fun i hi hne => (k.block i (Nat.lt_of_lt_of_le hi h.size) hne).trans (h.block i hi hne)⟩
theorem Only.set (w : World) (g o : Nat) (u : Value) : Only g w (w.setCell ⟨g, o, none⟩ u) :=
  ⟨rfl, rfl, rfl, by simp [World.setCell], fun i hi hne => Below.heap_setCell w _ u i (fun e => hne (by rw [e]))⟩
theorem Only.drewN (g : Nat) (w : World) (d : Nat) : Only g w (w.drewN d) := ⟨rfl, rfl, rfl, Nat.le_refl _, fun _ _ _ => rfl⟩
theorem Own.drewN {w : World} {base : Nat} {A : Option Addr} {N : Nat} {f : Nat → Nat} (h : Own w base A N f) (d : Nat) : Own (w.drewN d) base A N f := h
theorem Only.below {g B : Nat} {a b : World} (h : Only g a b) (hg : B ≤ g) (hB : B ≤ a.heap.size) : Below B a b :=
  ⟨h.os, h.tape, h.output, h.size, fun i hi => h.block i (Nat.lt_of_lt_of_le hi hB) (fun e => by injection e with e; omega)⟩

theorem Own.row {w : World} {base : Nat} {A : Option Addr} {N n : Nat} {f : Nat → Nat} (h : Own w base A N f) (hn : n ≤ N) : Row w A n f :=
  ⟨h.1, fun h0 => by
    obtain ⟨g, o, e, _, hc⟩ := h.2 (by omega)
    exact ⟨g, o, e, hc.lt, fun i hi => hc.cell i (by omega)⟩⟩
theorem Own.keep {w w' : World} {base : Nat} {A : Option Addr} {N : Nat} {f : Nat → Nat} (h : Own w base A N f) (hk : ∀ g o, A = some ⟨g, o, none⟩ → w'.heap[g]? = w.heap[g]?) : Own w' base A N f :=
  ⟨h.1, fun h0 => by
    obtain ⟨g, o, e, hb, hc⟩ := h.2 h0
    exact ⟨g, o, e, hb, hc.keep (hk g o e)⟩⟩

def p16 (f : Nat → Nat) (a v : Nat) : Nat → Nat := upd (upd f a (v % 256)) (a + 1) (v / 256 % 256)
def p32 (f : Nat → Nat) (a v : Nat) : Nat → Nat := upd (upd (upd (upd f a (v % 256)) (a + 1) (v / 256 % 256)) (a + 2) (v / 65536 % 256)) (a + 3) (v / 16777216 % 256)

theorem upd_lt {f : Nat → Nat} (hf : ∀ i, f i < 256) (i x : Nat) (hx : x < 256) : ∀ j, upd f i x j < 256 := by
  intro j; unfold upd; split
  · exact hx
  · exact hf j
theorem p16_lt {f : Nat → Nat} (hf : ∀ i, f i < 256) (a v : Nat) : ∀ j, p16 f a v j < 256 := by
  unfold p16
  exact upd_lt (upd_lt hf _ _ (by omega)) _ _ (by omega)
theorem p32_lt {f : Nat → Nat} (hf : ∀ i, f i < 256) (a v : Nat) : ∀ j, p32 f a v j < 256 := by
  unfold p32
  exact upd_lt (upd_lt (upd_lt (upd_lt hf _ _ (by omega)) _ _ (by omega)) _ _ (by omega)) _ _ (by omega)
theorem put16_end {w : World} {base g o N : Nat} {f : Nat → Nat} (hb : base ≤ g) (hc : Cells8 w g o N f) (hf : ∀ i, f i < 256) (a x : Nat) (ha : a + 2 ≤ N) (y0 y1 : Int) (e0 : y0 = ((x % 256 : Nat) : Int)) (e1 : y1 = ((x / 256 % 256 : Nat) : Int)) :
    Own ((w.setCell ⟨g, o + a, none⟩ (.int .u8 y0)).setCell ⟨g, o + (a + 1), none⟩ (.int .u8 y1)) base (some ⟨g, o, none⟩) N (p16 f a x) ∧
    ∀ g' o', (some ⟨g, o, none⟩ : Option Addr) = some ⟨g', o', none⟩ → Only g' w ((w.setCell ⟨g, o + a, none⟩ (.int .u8 y0)).setCell ⟨g, o + (a + 1), none⟩ (.int .u8 y1)) := by
  subst e0 e1
  refine ⟨⟨p16_lt hf a x, fun _ => ⟨g, o, rfl, hb, (hc.set a _ (by omega)).set (a + 1) _ (by omega)⟩⟩, fun g' o' e => ?_⟩
  injection e with e; injection e with e _; subst e
  exact (Only.set _ _ _ _).trans (Only.set _ _ _ _)
theorem put32_end {w : World} {base g o N : Nat} {f : Nat → Nat} (hb : base ≤ g) (hc : Cells8 w g o N f) (hf : ∀ i, f i < 256) (a x : Nat) (ha : a + 4 ≤ N) (y0 y1 y2 y3 : Int) (e0 : y0 = ((x % 256 : Nat) : Int)) (e1 : y1 = ((x / 256 % 256 : Nat) : Int))
    (e2 : y2 = ((x / 65536 % 256 : Nat) : Int)) (e3 : y3 = ((x / 16777216 % 256 : Nat) : Int)) :
    Own ((((w.setCell ⟨g, o + a, none⟩ (.int .u8 y0)).setCell ⟨g, o + (a + 1), none⟩ (.int .u8 y1)).setCell ⟨g, o + (a + 2), none⟩ (.int .u8 y2)).setCell ⟨g, o + (a + 3), none⟩ (.int .u8 y3)) base (some ⟨g, o, none⟩) N (p32 f a x) ∧
    ∀ g' o', (some ⟨g, o, none⟩ : Option Addr) = some ⟨g', o', none⟩ →
      Only g' w ((((w.setCell ⟨g, o + a, none⟩ (.int .u8 y0)).setCell ⟨g, o + (a + 1), none⟩ (.int .u8 y1)).setCell ⟨g, o + (a + 2), none⟩ (.int .u8 y2)).setCell ⟨g, o + (a + 3), none⟩ (.int .u8 y3)) := by
  subst e0 e1 e2 e3
  refine ⟨⟨p32_lt hf a x, fun _ => ⟨g, o, rfl, hb, (((hc.set a _ (by omega)).set (a + 1) _ (by omega)).set (a + 2) _ (by omega)).set (a + 3) _ (by omega)⟩⟩, fun g' o' e => ?_⟩
  injection e with e; injection e with e _; subst e
  exact (((Only.set _ _ _ _).trans (Only.set _ _ _ _)).trans (Only.set _ _ _ _)).trans (Only.set _ _ _ _)

/-- The bytes of a literal. -/
def lit8 (xs : List Nat) : Nat → Nat := fun i => xs.getD i 0
def lits8 (xs : List Nat) : Array Value := (xs.map fun x => Value.int .u8 ((x : Nat) : Int)).toArray
theorem lit8_lt {xs : List Nat} (h : ∀ x ∈ xs, x < 256) : ∀ i, lit8 xs i < 256 := by
  intro i
  unfold lit8
  rw [List.getD_eq_getElem?_getD]
  rcases hx : xs[i]? with _ | x
  · simp
  · simpa using h x (List.mem_of_getElem? hx)
theorem Own.lit (w : World) (base : Nat) (t : TypeId) (xs : List Nat) (hb : base ≤ w.heap.size) (h : ∀ x ∈ xs, x < 256) : Own (w.alloc (.cells (lits8 xs) t)) base (some ⟨w.heap.size, 0, none⟩) xs.length (lit8 xs) := by
  refine ⟨lit8_lt h, fun _ => ⟨_, 0, rfl, hb, t, lits8 xs, heap_alloc_new w _, fun i hi => ?_⟩⟩
  simp [lits8, lit8, List.getElem?_eq_getElem hi, List.getD_eq_getElem?_getD]
theorem Own.alloc {w : World} {base : Nat} {A : Option Addr} {N : Nat} {f : Nat → Nat} (h : Own w base A N f) (o : Obj) : Own (w.alloc o) base A N f :=
  ⟨h.1, fun h0 => by
    obtain ⟨g, o', e, hb, hc⟩ := h.2 h0
    exact ⟨g, o', e, hb, hc.keep (Below.heap_alloc w o g hc.lt)⟩⟩

theorem Own.lit' (w : World) (base g : Nat) (t : TypeId) (xs : List Nat) (hg : g = w.heap.size) (hb : base ≤ g) (h : ∀ x ∈ xs, x < 256) : Own (w.alloc (.cells (lits8 xs) t)) base (some ⟨g, 0, none⟩) xs.length (lit8 xs) := by
  subst hg
  exact Own.lit w base t xs hb h

end Go.Proofs.YtmlmpflfejbbcaaDoor
namespace Go.Proofs.YtmlmpflfejbbcaaDoor
open Go.RowKit

/-! What was put, got: plain numbers. -/
theorem p32_at (f : Nat → Nat) (a v i : Nat) : p32 f a v i = if i = a + 3 then v / 16777216 % 256 else if i = a + 2 then v / 65536 % 256 else if i = a + 1 then v / 256 % 256 else if i = a then v % 256 else f i := rfl
theorem p16_at (f : Nat → Nat) (a v i : Nat) : p16 f a v i = if i = a + 1 then v / 256 % 256 else if i = a then v % 256 else f i := rfl
theorem p32_0 (f : Nat → Nat) (a v : Nat) : p32 f a v a = v % 256 := by rw [p32_at, if_neg (by omega), if_neg (by omega), if_neg (by omega), if_pos rfl]
theorem p32_1 (f : Nat → Nat) (a v : Nat) : p32 f a v (a + 1) = v / 256 % 256 := by rw [p32_at, if_neg (by omega), if_neg (by omega), if_pos rfl]
theorem p32_2 (f : Nat → Nat) (a v : Nat) : p32 f a v (a + 2) = v / 65536 % 256 := by rw [p32_at, if_neg (by omega), if_pos rfl]
theorem p32_3 (f : Nat → Nat) (a v : Nat) : p32 f a v (a + 3) = v / 16777216 % 256 := by rw [p32_at, if_pos rfl]
theorem p32_off (f : Nat → Nat) (a v i : Nat) (h : i < a ∨ a + 4 ≤ i) : p32 f a v i = f i := by
  rw [p32_at, if_neg (by omega), if_neg (by omega), if_neg (by omega), if_neg (by omega)]
theorem p16_off (f : Nat → Nat) (a v i : Nat) (h : i < a ∨ a + 2 ≤ i) : p16 f a v i = f i := by
  rw [p16_at, if_neg (by omega), if_neg (by omega)]
theorem g32_p32 (f : Nat → Nat) (a v : Nat) (hv : v < 4294967296) : g32 (p32 f a v) a = v := by
  rw [g32, p32_0, p32_1, p32_2, p32_3]; omega
theorem g16_p32_low (f : Nat → Nat) (a v : Nat) : g16 (p32 f a v) a = v % 65536 := by
  rw [g16, p32_0, p32_1]; omega
theorem g16_p32_high (f : Nat → Nat) (a v : Nat) (hv : v < 4294967296) : g16 (p32 f a v) (a + 2) = v / 65536 := by
  rw [g16, p32_2, show a + 2 + 1 = a + 3 from rfl, p32_3]; omega
theorem put_back (f : Nat → Nat) (hf : ∀ i, f i < 256) (a v i : Nat) : p16 (p16 (p32 f a v) a (g32 f a % 65536)) (a + 2) (g32 f a / 65536) i = f i := by
  have h0 := hf a
  have h1 := hf (a + 1)
  have h2 := hf (a + 2)
  have h3 := hf (a + 3)
  rw [p16_at]
  by_cases e3 : i = a + 2 + 1
  · rw [if_pos e3, e3, show a + 2 + 1 = a + 3 from rfl]; unfold g32; omega
  rw [if_neg e3]
  by_cases e2 : i = a + 2
  · rw [if_pos e2, e2]; unfold g32; omega
  rw [if_neg e2, p16_at]
  by_cases e1 : i = a + 1
  · rw [if_pos e1, e1]; unfold g32; omega
  rw [if_neg e1]
  by_cases e0 : i = a
  · rw [if_pos e0, e0]; unfold g32; omega
  rw [if_neg e0]
  exact p32_off f a v i (by omega)

theorem g16_lt {f : Nat → Nat} (hf : ∀ i, f i < 256) (a : Nat) : g16 f a < 65536 := by
  have := hf a; have := hf (a + 1); unfold g16; omega
theorem g32_lt {f : Nat → Nat} (hf : ∀ i, f i < 256) (a : Nat) : g32 f a < 4294967296 := by
  have := hf a; have := hf (a + 1); have := hf (a + 2); have := hf (a + 3); unfold g32; omega
theorem g32_halves (f : Nat → Nat) (a : Nat) : ((g32 f a : Nat) : Int) = (g16 f a : Nat) + 65536 * (g16 f (a + 2) : Nat) := by
  unfold g32 g16
  rw [show a + 2 + 1 = a + 3 from rfl]
  omega

theorem _root_.Go.RowKit.Below.drewN {B : Nat} {a w : World} (h : Below B a w) (k : Nat) : Below B a (w.drewN k) := ⟨h.os, h.tape, h.output, h.size, h.block⟩
theorem Own.only_below {w w' : World} {base N B : Nat} {A : Option Addr} {f : Nat → Nat} (h : Own w base A N f) (hN : 0 < N) (hO : ∀ g o, A = some ⟨g, o, none⟩ → Only g w w') (hB : B ≤ base) (hs : B ≤ w.heap.size) : Below B w w' := by
  obtain ⟨g, o, e, hb, _⟩ := h.2 hN
  exact (hO g o e).below (by omega) hs
theorem Row.cut {w : World} {A : Option Addr} {n : Nat} {f : Nat → Nat} (h : Row w A n f) {k : Nat} (hk : k ≤ n) : Row w A k f :=
  ⟨h.1, fun h0 => by
    obtain ⟨b, o, e, hb, hc⟩ := h.2 (by omega)
    exact ⟨b, o, e, hb, fun i hi => hc i (by omega)⟩⟩
theorem Row.from {w : World} {A A' : Option Addr} {n : Nat} {f : Nat → Nat} (h : Row w A n f) {k : Nat} (hA : k < n → ∀ b o, A = some ⟨b, o, none⟩ → A' = some ⟨b, o + k, none⟩) : Row w A' (n - k) (fun i => f (k + i)) :=
  ⟨fun i => h.1 _, fun h0 => by
    obtain ⟨b, o, e, hb, hc⟩ := h.2 (by omega)
    exact ⟨b, o + k, hA (by omega) b o e, hb, fun i hi => by rw [Nat.add_assoc]; exact hc (k + i) (by omega)⟩⟩
theorem Row.same {w : World} {A : Option Addr} {n : Nat} {f g : Nat → Nat} (h : Row w A n f) (hg : ∀ i, g i < 256) (e : ∀ i, i < n → f i = g i) : Row w A n g :=
  ⟨hg, fun h0 => by
    obtain ⟨b, o, eA, hb, hc⟩ := h.2 h0
    exact ⟨b, o, eA, hb, fun i hi => by rw [← e i hi]; exact hc i hi⟩⟩

end Go.Proofs.YtmlmpflfejbbcaaDoor
namespace Go.Proofs.YtmlmpflfejbbcaaDoor
open Go.RowKit
theorem add_plain' (b o k : Nat) : (⟨b, o, none⟩ : Addr).add k = ⟨b, o + k, none⟩ := by unfold Addr.add; split <;> simp_all
theorem Row.cut' {w : World} {A : Option Addr} {n : Nat} {f : Nat → Nat} (h : Row w A n f) {k : Nat} (hk : k ≤ n) : Row w A k f :=
  ⟨h.1, fun h0 => by
    obtain ⟨b, o, e, hb, hc⟩ := h.2 (by omega)
    exact ⟨b, o, e, hb, fun i hi => hc i (by omega)⟩⟩
theorem Row.from' {w : World} {A A' : Option Addr} {n : Nat} {f : Nat → Nat} (h : Row w A n f) {k : Nat} (hA : k < n → ∀ b o, A = some ⟨b, o, none⟩ → A' = some ⟨b, o + k, none⟩) : Row w A' (n - k) (fun i => f (k + i)) :=
  ⟨fun i => h.1 _, fun h0 => by
    obtain ⟨b, o, e, hb, hc⟩ := h.2 (by omega)
    exact ⟨b, o + k, hA (by omega) b o e, hb, fun i hi => by rw [Nat.add_assoc]; exact hc (k + i) (by omega)⟩⟩
end Go.Proofs.YtmlmpflfejbbcaaDoor
namespace Go.Proofs.YtmlmpflfejbbcaaDoor
open Go.RowKit

/-! append of bytes that came in, nil or not, onto a row of the call's own. -/
def vals8 (f : Nat → Nat) (n : Nat) : List Value := (List.range n).map fun i => Value.int .u8 ((f i : Nat) : Int)
theorem vals8_length (f : Nat → Nat) (n : Nat) : (vals8 f n).length = n := by simp [vals8]
theorem vals8_get {f : Nat → Nat} {n i : Nat} (h : i < n) : (vals8 f n)[i]? = some (.int .u8 ((f i : Nat) : Int)) := by
  simp [vals8, List.getElem?_range h]
theorem vals8_one {f : Nat → Nat} {n : Nat} : ∀ u ∈ vals8 f n, u.oneCell' = true := by
  intro u hu
  simp only [vals8, List.mem_map] at hu
  obtain ⟨i, _, rfl⟩ := hu
  rfl

section
variable {P : Program} (w : World)
theorem append_row_run (base : Nat) (t ty e : TypeId) (i : TypeInfo) (ht : P.underlying t = some (.slice e)) (hi : P.info? e = some i) (hz : i.zero = some (.int .u8 0)) (hsize : i.size = 1) (hby : i.bytes = 1)
    (v : Value) (k : Nat) (xs : List Value) (hown : w.ownsRow base e 1 v k xs) (A : Option Addr) (n c : Nat) (f : Nat → Nat) (hR : Row w A n f) (hlen : k + n ≤ 1000000) (hbase : base ≤ w.heap.size) :
    ∃ v' w', (Builtin.append_ #[t, t] ty #[v, .slice A n c]).run P w = .ok v' w' ∧ w'.ownsRow base e 1 v' (k + n) (xs ++ vals8 f n) ∧ w.grownBy w' v.ownBlock ∧ (v'.ownBlock = v.ownBlock ∨ v'.ownBlock = some w.heap.size) := by
  rcases A with _ | ad
  · have h0 : n = 0 := by
      rcases Nat.eq_zero_or_pos n with h | h
      · exact h
      · obtain ⟨b, o, e, _⟩ := hR.2 h
        cases e
    subst h0
    refine ⟨v, w, ?_, by simpa [vals8] using hown, World.grownBy.refl w _, .inl rfl⟩
    rcases hown.2 with ⟨rfl, rfl⟩ | ⟨g, cap, cur, rfl, _, _, hkc, _⟩
    · simp [Builtin.append_, run_underlying ht, sizeOf, typeInfo, hi, Builtin.lenOf, Builtin.firstCells]
    · simp [Builtin.append_, run_underlying ht, sizeOf, typeInfo, hi, Builtin.lenOf, Builtin.firstCells, hkc, storeCells]
  · have hcells : ∀ j u, (vals8 f n)[j]? = some u → w.cell? (ad.add j) = some u := by
      intro j u hu
      have hj : j < n := by
        rcases Nat.lt_or_ge j n with h | h
        · exact h
        · rw [List.getElem?_eq_none (by rw [vals8_length]; exact h)] at hu; cases hu
      obtain ⟨b, o, e, _, hc⟩ := hR.2 (by omega)
      injection e with e
      subst e
      have e : (⟨b, o, none⟩ : Addr).add j = ⟨b, o + j, none⟩ := by unfold Addr.add; split <;> simp_all
      rw [e, hc j hj, ← hu, vals8_get hj]
    obtain ⟨v', w', h1, h2, h3, _, h5⟩ := run_append_own_at (P := P) w base t ty e i (.int .u8 0) 1 1 ht hi hz hsize hby rfl (by omega) v k xs hown ad n c (vals8 f n) (by rw [vals8_length]; omega) hcells vals8_one (by simp only [maxLen]; omega) (by omega) hbase
    exact ⟨v', w', h1, h2, h3, h5⟩

theorem at_append_row {ops : Array Oper} {rest : List Oper} {o : Oper} {a : Act} {Q : Exit → Act → World → Prop} (hgd : o.guard = none) (s x : Operand) (t : TypeId)
    (ho : o.op = .call { callee := .builtin .append, args := #[s, x], argTypes := #[t, t] })
    (base : Nat) (e : TypeId) (i : TypeInfo) (ht : P.underlying t = some (.slice e)) (hi : P.info? e = some i) (hz : i.zero = some (.int .u8 0)) (hsize : i.size = 1) (hby : i.bytes = 1)
    (v : Value) (k : Nat) (xs : List Value) (hs : a.eval s = v) (hown : w.ownsRow base e 1 v k xs)
    (A : Option Addr) (n c : Nat) (f : Nat → Nat) (hx : a.eval x = .slice A n c) (hR : Row w A n f) (hlen : k + n ≤ 1000000) (hbase : base ≤ w.heap.size)
    (h : ∀ v' w', w'.ownsRow base e 1 v' (k + n) (xs ++ vals8 f n) → w.grownBy w' v.ownBlock → (v'.ownBlock = v.ownBlock ∨ v'.ownBlock = some w.heap.size) → wpList P ops Q rest (a.put o.dst v') w') :
    wpList P ops Q (o :: rest) a w := by
  refine wpList_plain hgd fun K hK => ?_
  obtain ⟨v', w', hrun, h2, h3, h4⟩ := append_row_run (P := P) w base t o.type e i ht hi hz hsize hby v k xs hown A n c f hR hlen hbase
  unfold Oper.wp execOp
  simp only [ho, resolve, invoke, builtin, Sem.run_bind, Sem.run_pure, Result.andThen_ok, List.map_toArray, List.map_cons, List.map_nil, hs, hx, hrun]
  exact hK _ _ (h v' w' h2 h3 h4)
end

/-- What an owned row of bytes is: a slice value of the call's own. -/
theorem own_of_row {w : World} {base : Nat} {e : TypeId} {v : Value} {n : Nat} {f : Nat → Nat} (hf : ∀ i, f i < 256) (h : w.ownsRow base e 1 v n (vals8 f n)) :
    ∃ A c, v = .slice A n c ∧ n ≤ c ∧ c ≤ maxLen ∧ Own w base A n f := by
  rcases h.2 with ⟨rfl, rfl⟩ | ⟨g, cap, cur, rfl, hb, hh, hnc, hm, hs, ht⟩
  · exact ⟨none, 0, rfl, Nat.le_refl _, Nat.zero_le _, hf, fun h => absurd h (by omega)⟩
  · refine ⟨_, _, rfl, hnc, hm, hf, fun _ => ⟨g, 0, rfl, hb, e, cur, hh, fun i hi => ?_⟩⟩
    have h1 := vals8_get (f := f) hi
    rw [← ht, List.getElem?_take] at h1
    simp only [Nat.mul_one, hi, if_true] at h1
    rw [Nat.zero_add, ← h1]
    simp

theorem at_append_nil {P : Program} (w : World) {ops : Array Oper} {rest : List Oper} {o : Oper} {a : Act} {Q : Exit → Act → World → Prop} (hgd : o.guard = none) (s x : Operand) (t : TypeId)
    (ho : o.op = .call { callee := .builtin .append, args := #[s, x], argTypes := #[t, t] })
    (e : TypeId) (i : TypeInfo) (ht : P.underlying t = some (.slice e)) (hi : P.info? e = some i) (hz : i.zero = some (.int .u8 0)) (hsize : i.size = 1) (hby : i.bytes = 1)
    (hs : a.eval s = .slice none 0 0) (A : Option Addr) (n c : Nat) (f : Nat → Nat) (hx : a.eval x = .slice A n c) (hR : Row w A n f) (hlen : n ≤ 1000000)
    (h : ∀ A' c' w', n ≤ c' → c' ≤ maxLen → Own w' w.heap.size A' n f → Below w.heap.size w w' → wpList P ops Q rest (a.put o.dst (.slice A' n c')) w') :
    wpList P ops Q (o :: rest) a w := by
  refine at_append_row w hgd s x t ho w.heap.size e i ht hi hz hsize hby (.slice none 0 0) 0 [] hs (World.ownsRow_nil _ _ _ _) A n c f hx hR (by omega) (Nat.le_refl _) fun v' w' h1 h2 _ => ?_
  rw [Nat.zero_add, List.nil_append] at h1
  obtain ⟨A', c', rfl, h3, h4, h5⟩ := own_of_row hR.1 h1
  exact h A' c' w' h3 h4 h5 ((Below.refl _ _).grown h2 (Nat.le_refl _) (fun k hk => by cases hk))

end Go.Proofs.YtmlmpflfejbbcaaDoor
namespace Go.Proofs.YtmlmpflfejbbcaaDoor
open Go.RowKit

set_option maxRecDepth 100000 in
set_option maxHeartbeats 400000 in
theorem len32_a (w : World) :
    Calls Tryd.prog 69 #[.int .u32 4294967295] w fun e w' => e = .returned (.int .i64 32) ∧ w = w' := by
  go_enter Tryd.func69, Tryd.ntmps69
  go_wp2
  go_ret
  exact ⟨congrArg Ending.returned (congrArg (Value.int IntKind.i64) (by kernel_rfl)), rfl⟩

set_option maxRecDepth 100000 in
set_option maxHeartbeats 400000 in
theorem len32_b (w : World) :
    Calls Tryd.prog 69 #[.int .u32 65535] w fun e w' => e = .returned (.int .i64 16) ∧ w = w' := by
  go_enter Tryd.func69, Tryd.ntmps69
  go_wp2
  go_ret
  exact ⟨congrArg Ending.returned (congrArg (Value.int IntKind.i64) (by kernel_rfl)), rfl⟩

set_option maxHeartbeats 400000 in
theorem w32_any (w : World) :
    Calls Tryd.prog 62 #[] w fun e w' => e = .returned (.int .i64 4) ∧ w = w' := by
  go_enter Tryd.func62, Tryd.ntmps62
  go_wp2_with (go_at_call 69; refine (len32_a _).mono ?_; rintro e w' ⟨rfl, rfl⟩)
  go_ret
  exact ⟨rfl, rfl⟩

set_option maxHeartbeats 400000 in
theorem w16_any (w : World) :
    Calls Tryd.prog 68 #[] w fun e w' => e = .returned (.int .i64 2) ∧ w = w' := by
  go_enter Tryd.func68, Tryd.ntmps68
  go_wp2_with (go_at_call 69; refine (len32_b _).mono ?_; rintro e w' ⟨rfl, rfl⟩)
  go_ret
  exact ⟨rfl, rfl⟩

set_option maxHeartbeats 400000 in
theorem within_yes (A : Option Addr) (n c : Nat) (at_ k : Int) (w : World) (hn : n ≤ 140737488355328) (hk : 0 ≤ k) (hk8 : k ≤ 8) (h0 : 0 ≤ at_) (h1 : at_ ≤ n - k) :
    Calls Tryd.prog 63 #[.slice A n c, .int .i64 at_, .int .i64 k] w fun e w' => e = .returned (.bool true) ∧ w = w' := by
  go_enter Tryd.func63, Tryd.ntmps63
  go_wp2
  go_ret
  exact ⟨rfl, rfl⟩

set_option maxHeartbeats 400000 in
theorem within_no (A : Option Addr) (n c : Nat) (at_ k : Int) (w : World) (hn : n ≤ 140737488355328) (hk : 0 ≤ k) (hk8 : k ≤ 8) (h : at_ < 0 ∨ n - k < at_) :
    Calls Tryd.prog 63 #[.slice A n c, .int .i64 at_, .int .i64 k] w fun e w' => e = .returned (.bool false) ∧ w = w' := by
  by_cases h0 : at_ < 0
  · clear h
    go_enter Tryd.func63, Tryd.ntmps63
    go_wp2
    go_ret
    exact ⟨rfl, rfl⟩
  · have h1 : n - k < at_ := by omega
    have h0' : 0 ≤ at_ := by omega
    have hd : decide (at_ ≤ (n : Int) - k) = false := by simp; omega
    clear h h0
    go_enter Tryd.func63, Tryd.ntmps63
    go_wp2
    go_ret
    exact ⟨rfl, rfl⟩

end Go.Proofs.YtmlmpflfejbbcaaDoor
namespace Go.Proofs.YtmlmpflfejbbcaaDoor
open Go.RowKit

theorem ret_num_yes {k : IntKind} {a b : Int} (h : a = b) : Ending.returned (.tuple #[.int k a, .bool true]) = .returned (.tuple #[.int k b, .bool true]) := by rw [h]

set_option maxHeartbeats 400000 in
theorem get32_yes (A : Option Addr) (n c : Nat) (at_ : Int) (f : Nat → Nat) (w : World) (hn : n ≤ 140737488355328) (hR : Row w A n f) (h0 : 0 ≤ at_) (h1 : at_ ≤ n - 4) :
    Calls Tryd.prog 54 #[.slice A n c, .int .i64 at_] w fun e w' => e = .returned (.tuple #[.int .u32 (g32 f at_.toNat : Nat), .bool true]) ∧ w = w' := by
  obtain ⟨a, rfl⟩ := Int.eq_ofNat_of_zero_le h0
  rw [Int.toNat_natCast]
  obtain ⟨b, o, rfl, hb, hc⟩ := hR.2 (by omega)
  have c3 := hc (a + 3) (by omega)
  have c2 := hc (a + 2) (by omega)
  have c1 := hc (a + 1) (by omega)
  have c0 := hc a (by omega)
  have b0 := hR.1 a
  have b1 := hR.1 (a + 1)
  have b2 := hR.1 (a + 2)
  have b3 := hR.1 (a + 3)
  have H := Lib.hid (val32 _ _ _ _ b0 b1 b2 b3)
  clear hc hR hb
  go_enter Tryd.func54, Tryd.ntmps54
  go_wp2_with (first | (go_at_call 62; refine (w32_any _).mono ?_; rintro e w' ⟨rfl, rfl⟩) | (go_at_call 63; refine (within_yes _ _ _ _ _ _ (by omega) (by omega) (by omega) (by omega) (by omega)).mono ?_; rintro e w' ⟨rfl, rfl⟩))
  refine wp_loop_rounds 5 ?_
  iterate 5 (rw [rounds_succ]; go_wp2)
  go_ret2
  exact ⟨ret_num_yes H.out, rfl⟩

set_option maxHeartbeats 400000 in
theorem get16_yes (A : Option Addr) (n c : Nat) (at_ : Int) (f : Nat → Nat) (w : World) (hn : n ≤ 140737488355328) (hR : Row w A n f) (h0 : 0 ≤ at_) (h1 : at_ ≤ n - 2) :
    Calls Tryd.prog 61 #[.slice A n c, .int .i64 at_] w fun e w' => e = .returned (.tuple #[.int .u32 (g16 f at_.toNat : Nat), .bool true]) ∧ w = w' := by
  obtain ⟨a, rfl⟩ := Int.eq_ofNat_of_zero_le h0
  rw [Int.toNat_natCast]
  obtain ⟨b, o, rfl, hb, hc⟩ := hR.2 (by omega)
  have c1 := hc (a + 1) (by omega)
  have c0 := hc a (by omega)
  have b0 := hR.1 a
  have b1 := hR.1 (a + 1)
  have H := Lib.hid (val16 _ _ b0 b1)
  clear hc hR hb
  go_enter Tryd.func61, Tryd.ntmps61
  go_wp2_with (first | (go_at_call 68; refine (w16_any _).mono ?_; rintro e w' ⟨rfl, rfl⟩) | (go_at_call 63; refine (within_yes _ _ _ _ _ _ (by omega) (by omega) (by omega) (by omega) (by omega)).mono ?_; rintro e w' ⟨rfl, rfl⟩))
  refine wp_loop_rounds 3 ?_
  iterate 3 (rw [rounds_succ]; go_wp2)
  go_ret2
  refine ⟨ret_num_yes ?_, rfl⟩
  rw [IntKind.wrap_u16, H.out]
  unfold g16
  omega

set_option maxHeartbeats 400000 in
theorem get32_no (A : Option Addr) (n c : Nat) (at_ : Int) (w : World) (hn : n ≤ 140737488355328) (h : at_ < 0 ∨ (n : Int) - 4 < at_) :
    Calls Tryd.prog 54 #[.slice A n c, .int .i64 at_] w fun e w' => e = .returned (.tuple #[.int .u32 0, .bool false]) ∧ w = w' := by
  have H := Lib.hid h
  clear h
  go_enter Tryd.func54, Tryd.ntmps54
  go_wp2_with (first | (go_at_call 62; refine (w32_any _).mono ?_; rintro e w' ⟨rfl, rfl⟩) | (go_at_call 63; refine (within_no _ _ _ _ _ _ (by omega) (by omega) (by omega) H.out).mono ?_; rintro e w' ⟨rfl, rfl⟩))
  go_ret2
  exact ⟨rfl, rfl⟩

set_option maxHeartbeats 400000 in
theorem get16_no (A : Option Addr) (n c : Nat) (at_ : Int) (w : World) (hn : n ≤ 140737488355328) (h : at_ < 0 ∨ (n : Int) - 2 < at_) :
    Calls Tryd.prog 61 #[.slice A n c, .int .i64 at_] w fun e w' => e = .returned (.tuple #[.int .u32 0, .bool false]) ∧ w = w' := by
  have H := Lib.hid h
  clear h
  go_enter Tryd.func61, Tryd.ntmps61
  go_wp2_with (first | (go_at_call 68; refine (w16_any _).mono ?_; rintro e w' ⟨rfl, rfl⟩) | (go_at_call 63; refine (within_no _ _ _ _ _ _ (by omega) (by omega) (by omega) H.out).mono ?_; rintro e w' ⟨rfl, rfl⟩))
  go_ret2
  exact ⟨rfl, rfl⟩

end Go.Proofs.YtmlmpflfejbbcaaDoor
namespace Go.Proofs.YtmlmpflfejbbcaaDoor
open Go.RowKit

set_option maxHeartbeats 400000 in
theorem put32_yes (A : Option Addr) (n c N base : Nat) (at_ v : Int) (f : Nat → Nat) (w : World) (hn : n ≤ 140737488355328) (hN : n ≤ N) (hR : Own w base A N f) (h0 : 0 ≤ at_) (h1 : at_ ≤ n - 4) (hv0 : 0 ≤ v) (hv1 : v < 4294967296) :
    Calls Tryd.prog 67 #[.slice A n c, .int .i64 at_, .int .u32 v] w fun e w' => e = .returned (.bool true) ∧ Own w' base A N (p32 f at_.toNat v.toNat) ∧ ∀ g o, A = some ⟨g, o, none⟩ → Only g w w' := by
  obtain ⟨a, rfl⟩ := Int.eq_ofNat_of_zero_le h0
  obtain ⟨x, rfl⟩ := Int.eq_ofNat_of_zero_le hv0
  rw [Int.toNat_natCast, Int.toNat_natCast]
  obtain ⟨g, o, rfl, hb, hc⟩ := hR.2 (by omega)
  have c3 := hc.cell (a + 3) (by omega)
  have c2 := hc.cell (a + 2) (by omega)
  have c1 := hc.cell (a + 1) (by omega)
  have c0 := hc.cell a (by omega)
  have z3 := hc.frozen (o + (a + 3))
  have z2 := hc.frozen (o + (a + 2))
  have z1 := hc.frozen (o + (a + 1))
  have z0 := hc.frozen (o + a)
  go_enter Tryd.func67, Tryd.ntmps67
  go_wp2_with (first | (go_at_call 62; refine (w32_any _).mono ?_; rintro e w' ⟨rfl, rfl⟩) | (go_at_call 63; refine (within_yes _ _ _ _ _ _ (by omega) (by omega) (by omega) (by omega) (by omega)).mono ?_; rintro e w' ⟨rfl, rfl⟩))
  refine wp_loop_rounds 5 ?_
  iterate 5 (rw [rounds_succ]; go_wp2)
  go_ret
  exact ⟨rfl, put32_end hb hc hR.1 a x (by omega) _ _ _ _ (by omega) (by omega) (by omega) (by omega)⟩

set_option maxHeartbeats 400000 in
theorem put16_yes (A : Option Addr) (n c N base : Nat) (at_ v : Int) (f : Nat → Nat) (w : World) (hn : n ≤ 140737488355328) (hN : n ≤ N) (hR : Own w base A N f) (h0 : 0 ≤ at_) (h1 : at_ ≤ n - 2) (hv0 : 0 ≤ v) (hv1 : v < 65536) :
    Calls Tryd.prog 66 #[.slice A n c, .int .i64 at_, .int .u16 v] w fun e w' => e = .returned (.bool true) ∧ Own w' base A N (p16 f at_.toNat v.toNat) ∧ ∀ g o, A = some ⟨g, o, none⟩ → Only g w w' := by
  obtain ⟨a, rfl⟩ := Int.eq_ofNat_of_zero_le h0
  obtain ⟨x, rfl⟩ := Int.eq_ofNat_of_zero_le hv0
  rw [Int.toNat_natCast, Int.toNat_natCast]
  obtain ⟨g, o, rfl, hb, hc⟩ := hR.2 (by omega)
  have c1 := hc.cell (a + 1) (by omega)
  have c0 := hc.cell a (by omega)
  have z1 := hc.frozen (o + (a + 1))
  have z0 := hc.frozen (o + a)
  go_enter Tryd.func66, Tryd.ntmps66
  go_wp2_with (first | (go_at_call 68; refine (w16_any _).mono ?_; rintro e w' ⟨rfl, rfl⟩) | (go_at_call 63; refine (within_yes _ _ _ _ _ _ (by omega) (by omega) (by omega) (by omega) (by omega)).mono ?_; rintro e w' ⟨rfl, rfl⟩))
  refine wp_loop_rounds 3 ?_
  iterate 3 (rw [rounds_succ]; go_wp2)
  go_ret
  exact ⟨rfl, put16_end hb hc hR.1 a x (by omega) _ _ (by omega) (by omega)⟩

set_option maxHeartbeats 400000 in
theorem put32_no (A : Option Addr) (n c : Nat) (at_ v : Int) (w : World) (hn : n ≤ 140737488355328) (h : at_ < 0 ∨ (n : Int) - 4 < at_) :
    Calls Tryd.prog 67 #[.slice A n c, .int .i64 at_, .int .u32 v] w fun e w' => e = .returned (.bool false) ∧ w = w' := by
  have H := Lib.hid h
  clear h
  go_enter Tryd.func67, Tryd.ntmps67
  go_wp2_with (first | (go_at_call 62; refine (w32_any _).mono ?_; rintro e w' ⟨rfl, rfl⟩) | (go_at_call 63; refine (within_no _ _ _ _ _ _ (by omega) (by omega) (by omega) H.out).mono ?_; rintro e w' ⟨rfl, rfl⟩))
  go_ret
  exact ⟨rfl, rfl⟩

set_option maxHeartbeats 400000 in
theorem put16_no (A : Option Addr) (n c : Nat) (at_ v : Int) (w : World) (hn : n ≤ 140737488355328) (h : at_ < 0 ∨ (n : Int) - 2 < at_) :
    Calls Tryd.prog 66 #[.slice A n c, .int .i64 at_, .int .u16 v] w fun e w' => e = .returned (.bool false) ∧ w = w' := by
  have H := Lib.hid h
  clear h
  go_enter Tryd.func66, Tryd.ntmps66
  go_wp2_with (first | (go_at_call 68; refine (w16_any _).mono ?_; rintro e w' ⟨rfl, rfl⟩) | (go_at_call 63; refine (within_no _ _ _ _ _ _ (by omega) (by omega) (by omega) H.out).mono ?_; rintro e w' ⟨rfl, rfl⟩))
  go_ret
  exact ⟨rfl, rfl⟩

end Go.Proofs.YtmlmpflfejbbcaaDoor
namespace Go.Proofs.YtmlmpflfejbbcaaDoor
open Go.RowKit

set_option maxHeartbeats 400000 in
theorem Get32_yes (A : Option Addr) (n c : Nat) (at_ : Int) (f : Nat → Nat) (w : World) (hn : n ≤ 140737488355328) (hR : Row w A n f) (h0 : 0 ≤ at_) (h1 : at_ ≤ n - 4) :
    Calls Tryd.prog 39 #[.slice A n c, .int .i64 at_] w fun e w' => e = .returned (.tuple #[.int .u32 (g32 f at_.toNat : Nat), .bool true]) ∧ w = w' := by
  have H := Lib.hid hR
  clear hR
  go_enter Tryd.func39, Tryd.ntmps39
  go_wp2_with (go_at_call 54; refine (get32_yes _ _ _ _ _ _ hn H.out h0 h1).mono ?_; rintro e w' ⟨rfl, rfl⟩)
  go_ret2
  exact ⟨rfl, rfl⟩
set_option maxHeartbeats 400000 in
theorem Get32_no (A : Option Addr) (n c : Nat) (at_ : Int) (w : World) (hn : n ≤ 140737488355328) (h : at_ < 0 ∨ (n : Int) - 4 < at_) :
    Calls Tryd.prog 39 #[.slice A n c, .int .i64 at_] w fun e w' => e = .returned (.tuple #[.int .u32 0, .bool false]) ∧ w = w' := by
  have H := Lib.hid h
  clear h
  go_enter Tryd.func39, Tryd.ntmps39
  go_wp2_with (go_at_call 54; refine (get32_no _ _ _ _ _ hn H.out).mono ?_; rintro e w' ⟨rfl, rfl⟩)
  go_ret2
  exact ⟨rfl, rfl⟩
set_option maxHeartbeats 400000 in
theorem Get16_yes (A : Option Addr) (n c : Nat) (at_ : Int) (f : Nat → Nat) (w : World) (hn : n ≤ 140737488355328) (hR : Row w A n f) (h0 : 0 ≤ at_) (h1 : at_ ≤ n - 2) :
    Calls Tryd.prog 51 #[.slice A n c, .int .i64 at_] w fun e w' => e = .returned (.tuple #[.int .u32 (g16 f at_.toNat : Nat), .bool true]) ∧ w = w' := by
  have H := Lib.hid hR
  clear hR
  go_enter Tryd.func51, Tryd.ntmps51
  go_wp2_with (go_at_call 61; refine (get16_yes _ _ _ _ _ _ hn H.out h0 h1).mono ?_; rintro e w' ⟨rfl, rfl⟩)
  go_ret2
  exact ⟨rfl, rfl⟩
set_option maxHeartbeats 400000 in
theorem Get16_no (A : Option Addr) (n c : Nat) (at_ : Int) (w : World) (hn : n ≤ 140737488355328) (h : at_ < 0 ∨ (n : Int) - 2 < at_) :
    Calls Tryd.prog 51 #[.slice A n c, .int .i64 at_] w fun e w' => e = .returned (.tuple #[.int .u32 0, .bool false]) ∧ w = w' := by
  have H := Lib.hid h
  clear h
  go_enter Tryd.func51, Tryd.ntmps51
  go_wp2_with (go_at_call 61; refine (get16_no _ _ _ _ _ hn H.out).mono ?_; rintro e w' ⟨rfl, rfl⟩)
  go_ret2
  exact ⟨rfl, rfl⟩

set_option maxHeartbeats 400000 in
theorem Put32_yes (A : Option Addr) (n c N base : Nat) (at_ v : Int) (f : Nat → Nat) (w : World) (hn : n ≤ 140737488355328) (hN : n ≤ N) (hR : Own w base A N f) (h0 : 0 ≤ at_) (h1 : at_ ≤ n - 4) (hv0 : 0 ≤ v) (hv1 : v < 4294967296) :
    Calls Tryd.prog 58 #[.slice A n c, .int .i64 at_, .int .u32 v] w fun e w' => e = .returned (.bool true) ∧ Own w' base A N (p32 f at_.toNat v.toNat) ∧ ∀ g o, A = some ⟨g, o, none⟩ → Only g w w' := by
  have H := Lib.hid hR
  clear hR
  go_enter Tryd.func58, Tryd.ntmps58
  go_wp2_with (go_at_call 67; refine (put32_yes _ _ _ _ _ _ _ _ _ hn hN H.out h0 h1 hv0 hv1).mono ?_; rintro e w' ⟨rfl, hq⟩; have Hq := Lib.hid hq; clear hq)
  go_ret
  exact ⟨rfl, Hq.out⟩
set_option maxHeartbeats 400000 in
theorem Put32_no (A : Option Addr) (n c : Nat) (at_ v : Int) (w : World) (hn : n ≤ 140737488355328) (h : at_ < 0 ∨ (n : Int) - 4 < at_) :
    Calls Tryd.prog 58 #[.slice A n c, .int .i64 at_, .int .u32 v] w fun e w' => e = .returned (.bool false) ∧ w = w' := by
  have H := Lib.hid h
  clear h
  go_enter Tryd.func58, Tryd.ntmps58
  go_wp2_with (go_at_call 67; refine (put32_no _ _ _ _ _ _ hn H.out).mono ?_; rintro e w' ⟨rfl, rfl⟩)
  go_ret
  exact ⟨rfl, rfl⟩
set_option maxHeartbeats 400000 in
theorem Put16_yes (A : Option Addr) (n c N base : Nat) (at_ v : Int) (f : Nat → Nat) (w : World) (hn : n ≤ 140737488355328) (hN : n ≤ N) (hR : Own w base A N f) (h0 : 0 ≤ at_) (h1 : at_ ≤ n - 2) (hv0 : 0 ≤ v) (hv1 : v ≤ 65535) :
    Calls Tryd.prog 57 #[.slice A n c, .int .i64 at_, .int .u32 v] w fun e w' => e = .returned (.bool true) ∧ Own w' base A N (p16 f at_.toNat v.toNat) ∧ ∀ g o, A = some ⟨g, o, none⟩ → Only g w w' := by
  have H := Lib.hid hR
  clear hR
  go_enter Tryd.func57, Tryd.ntmps57
  go_wp2_with (go_at_call 66; refine (put16_yes _ _ _ _ _ _ _ _ _ hn hN H.out h0 h1 (by omega) (by omega)).mono ?_; rintro e w' ⟨rfl, hq⟩; have Hq := Lib.hid hq; clear hq)
  go_ret
  exact ⟨rfl, Hq.out⟩
set_option maxHeartbeats 400000 in
theorem Put16_no (A : Option Addr) (n c : Nat) (at_ v : Int) (w : World) (hn : n ≤ 140737488355328) (h : at_ < 0 ∨ (n : Int) - 2 < at_) (hv0 : 0 ≤ v) (hv1 : v ≤ 65535) :
    Calls Tryd.prog 57 #[.slice A n c, .int .i64 at_, .int .u32 v] w fun e w' => e = .returned (.bool false) ∧ w = w' := by
  have H := Lib.hid h
  clear h
  go_enter Tryd.func57, Tryd.ntmps57
  go_wp2_with (go_at_call 66; refine (put16_no _ _ _ _ _ _ hn H.out).mono ?_; rintro e w' ⟨rfl, rfl⟩)
  go_ret
  exact ⟨rfl, rfl⟩
set_option maxHeartbeats 400000 in
theorem Put16_great (A : Option Addr) (n c : Nat) (at_ v : Int) (w : World) (hv0 : 65535 < v) :
    Calls Tryd.prog 57 #[.slice A n c, .int .i64 at_, .int .u32 v] w fun e w' => e = .returned (.bool false) ∧ w = w' := by
  have hd : decide (v ≤ 65535) = false := by simp; omega
  go_enter Tryd.func57, Tryd.ntmps57
  go_wp2
  go_ret
  exact ⟨rfl, rfl⟩

end Go.Proofs.YtmlmpflfejbbcaaDoor
namespace Go.Proofs.YtmlmpflfejbbcaaDoor
open Go.RowKit

theorem ret_num_yes' {k : IntKind} {a b : Int} (h : a = b) : Ending.returned (.tuple #[.int k a, .bool true]) = .returned (.tuple #[.int k b, .bool true]) := by rw [h]

set_option maxHeartbeats 400000 in
theorem rGet32_yes (A : Option Addr) (n c : Nat) (at_ : Int) (f : Nat → Nat) (w : World) (hn : n ≤ 140737488355328) (hR : Row w A n f) (h0 : 0 ≤ at_) (h1 : at_ ≤ n - 4) :
    Calls Tryd.prog 47 #[.slice A n c, .int .i64 at_] w fun e w' => e = .returned (.tuple #[.int .u32 (g32 f at_.toNat : Nat), .bool true]) ∧ ∃ d, w' = w.drewN d := by
  obtain ⟨a, rfl⟩ := Int.eq_ofNat_of_zero_le h0
  rw [Int.toNat_natCast]
  obtain ⟨b, o, rfl, hb, hc⟩ := hR.2 (by omega)
  have c3 := hc (a + 3) (by omega)
  have c2 := hc (a + 2) (by omega)
  have c1 := hc (a + 1) (by omega)
  have c0 := hc a (by omega)
  have b0 := hR.1 a
  have b1 := hR.1 (a + 1)
  have b2 := hR.1 (a + 2)
  have b3 := hR.1 (a + 3)
  clear hc hR hb
  have l1 : decide ((n : Int) < 4) = false := by simp; omega
  have l2 : decide ((n : Int) - 4 < a) = false := by simp; omega
  have l3 : (a : Int) < n := by omega
  have l4 : (a : Int) + 1 < n := by omega
  have l5 : (a : Int) + 2 < n := by omega
  have l6 : (a : Int) + 3 < n := by omega
  go_enter Tryd.func47, Tryd.ntmps47
  go_wp2
  go_quiet (fail)
  go_wp2
  go_ret2
  refine ⟨ret_num_yes' ?_, _, rfl⟩
  unfold g32
  omega

set_option maxHeartbeats 400000 in
theorem rGet16_yes (A : Option Addr) (n c : Nat) (at_ : Int) (f : Nat → Nat) (w : World) (hn : n ≤ 140737488355328) (hR : Row w A n f) (h0 : 0 ≤ at_) (h1 : at_ ≤ n - 2) :
    Calls Tryd.prog 48 #[.slice A n c, .int .i64 at_] w fun e w' => e = .returned (.tuple #[.int .u32 (g16 f at_.toNat : Nat), .bool true]) ∧ ∃ d, w' = w.drewN d := by
  obtain ⟨a, rfl⟩ := Int.eq_ofNat_of_zero_le h0
  rw [Int.toNat_natCast]
  obtain ⟨b, o, rfl, hb, hc⟩ := hR.2 (by omega)
  have c1 := hc (a + 1) (by omega)
  have c0 := hc a (by omega)
  have b0 := hR.1 a
  have b1 := hR.1 (a + 1)
  clear hc hR hb
  have l1 : decide ((n : Int) < 2) = false := by simp; omega
  have l2 : decide ((n : Int) - 2 < a) = false := by simp; omega
  have l3 : (a : Int) < n := by omega
  have l4 : (a : Int) + 1 < n := by omega
  go_enter Tryd.func48, Tryd.ntmps48
  go_wp2
  go_quiet (fail)
  go_wp2
  go_ret2
  refine ⟨ret_num_yes' ?_, _, rfl⟩
  unfold g16
  omega

set_option maxHeartbeats 400000 in
theorem rGet32_no (A : Option Addr) (n c : Nat) (at_ : Int) (w : World) (hn : n ≤ 140737488355328) (h : at_ < 0 ∨ (n : Int) - 4 < at_) :
    Calls Tryd.prog 47 #[.slice A n c, .int .i64 at_] w fun e w' => e = .returned (.tuple #[.int .u32 0, .bool false]) ∧ ∃ d, w' = w.drewN d := by
  by_cases h0 : at_ < 0
  · clear h
    go_enter Tryd.func47, Tryd.ntmps47
    go_wp2
    go_ret2
    exact ⟨rfl, 0, rfl⟩
  · have h1 : (n : Int) - 4 < at_ := by omega
    have d0 : decide (at_ < 0) = false := by simp; omega
    clear h
    by_cases h2 : (n : Int) < 4
    · have d1 : decide ((n : Int) < 4) = true := by simp; omega
      clear h1 h0
      go_enter Tryd.func47, Tryd.ntmps47
      go_wp2
      go_ret2
      exact ⟨rfl, 0, rfl⟩
    · have d1 : decide ((n : Int) < 4) = false := by simp; omega
      have d2 : decide ((n : Int) - 4 < at_) = true := by simp; omega
      clear h0
      go_enter Tryd.func47, Tryd.ntmps47
      go_wp2
      go_ret2
      exact ⟨rfl, 0, rfl⟩

set_option maxHeartbeats 400000 in
theorem rGet16_no (A : Option Addr) (n c : Nat) (at_ : Int) (w : World) (hn : n ≤ 140737488355328) (h : at_ < 0 ∨ (n : Int) - 2 < at_) :
    Calls Tryd.prog 48 #[.slice A n c, .int .i64 at_] w fun e w' => e = .returned (.tuple #[.int .u32 0, .bool false]) ∧ ∃ d, w' = w.drewN d := by
  by_cases h0 : at_ < 0
  · clear h
    go_enter Tryd.func48, Tryd.ntmps48
    go_wp2
    go_ret2
    exact ⟨rfl, 0, rfl⟩
  · have h1 : (n : Int) - 2 < at_ := by omega
    have d0 : decide (at_ < 0) = false := by simp; omega
    clear h
    by_cases h2 : (n : Int) < 2
    · have d1 : decide ((n : Int) < 2) = true := by simp; omega
      clear h1 h0
      go_enter Tryd.func48, Tryd.ntmps48
      go_wp2
      go_ret2
      exact ⟨rfl, 0, rfl⟩
    · have d1 : decide ((n : Int) < 2) = false := by simp; omega
      have d2 : decide ((n : Int) - 2 < at_) = true := by simp; omega
      clear h0
      go_enter Tryd.func48, Tryd.ntmps48
      go_wp2
      go_ret2
      exact ⟨rfl, 0, rfl⟩

set_option maxHeartbeats 400000 in
theorem rPut32_yes (A : Option Addr) (n c N base : Nat) (at_ v : Int) (f : Nat → Nat) (w : World) (hn : n ≤ 140737488355328) (hN : n ≤ N) (hR : Own w base A N f) (h0 : 0 ≤ at_) (h1 : at_ ≤ n - 4) (hv0 : 0 ≤ v) (hv1 : v < 4294967296) :
    Calls Tryd.prog 25 #[.slice A n c, .int .i64 at_, .int .u32 v] w fun e w' => e = .returned (.bool true) ∧ Own w' base A N (p32 f at_.toNat v.toNat) ∧ ∀ g o, A = some ⟨g, o, none⟩ → Only g w w' := by
  have HR := Lib.hid (hR.row hN)
  obtain ⟨a, rfl⟩ := Int.eq_ofNat_of_zero_le h0
  obtain ⟨x, rfl⟩ := Int.eq_ofNat_of_zero_le hv0
  rw [Int.toNat_natCast, Int.toNat_natCast]
  obtain ⟨g, o, rfl, hb, hc⟩ := hR.2 (by omega)
  have c3 := hc.cell (a + 3) (by omega)
  have c2 := hc.cell (a + 2) (by omega)
  have c1 := hc.cell (a + 1) (by omega)
  have c0 := hc.cell a (by omega)
  have z3 := hc.frozen (o + (a + 3))
  have z2 := hc.frozen (o + (a + 2))
  have z1 := hc.frozen (o + (a + 1))
  have z0 := hc.frozen (o + a)
  go_enter Tryd.func25, Tryd.ntmps25
  go_wp2_with (go_at_call 47; refine (rGet32_yes _ _ _ _ _ _ hn HR.out (by omega) (by omega)).mono ?_; rintro e w' ⟨rfl, d, rfl⟩)
  refine wp_loop_rounds 5 ?_
  iterate 5 (rw [rounds_succ]; go_wp2)
  go_ret
  obtain ⟨q1, q2⟩ := put32_end (w := w.drewN d) hb hc hR.1 a x (by omega) (↑x % 256) (↑x / 256 % 256) (↑x / 256 / 256 % 256) (↑x / 256 / 256 / 256 % 256) (by omega) (by omega) (by omega) (by omega)
  exact ⟨rfl, q1, fun g' o' e => (Only.drewN _ _ _).trans (q2 g' o' e)⟩

set_option maxHeartbeats 400000 in
theorem rPut16_yes (A : Option Addr) (n c N base : Nat) (at_ v : Int) (f : Nat → Nat) (w : World) (hn : n ≤ 140737488355328) (hN : n ≤ N) (hR : Own w base A N f) (h0 : 0 ≤ at_) (h1 : at_ ≤ n - 2) (hv0 : 0 ≤ v) (hv1 : v ≤ 65535) :
    Calls Tryd.prog 26 #[.slice A n c, .int .i64 at_, .int .u32 v] w fun e w' => e = .returned (.bool true) ∧ Own w' base A N (p16 f at_.toNat v.toNat) ∧ ∀ g o, A = some ⟨g, o, none⟩ → Only g w w' := by
  have HR := Lib.hid (hR.row hN)
  obtain ⟨a, rfl⟩ := Int.eq_ofNat_of_zero_le h0
  obtain ⟨x, rfl⟩ := Int.eq_ofNat_of_zero_le hv0
  rw [Int.toNat_natCast, Int.toNat_natCast]
  obtain ⟨g, o, rfl, hb, hc⟩ := hR.2 (by omega)
  have c1 := hc.cell (a + 1) (by omega)
  have c0 := hc.cell a (by omega)
  have z1 := hc.frozen (o + (a + 1))
  have z0 := hc.frozen (o + a)
  have l1 : decide ((65535 : Int) < x) = false := by simp; omega
  have l3 : (a : Int) < n := by omega
  have l4 : (a : Int) + 1 < n := by omega
  go_enter Tryd.func26, Tryd.ntmps26
  go_wp2_with (go_at_call 48; refine (rGet16_yes _ _ _ _ _ _ hn HR.out (by omega) (by omega)).mono ?_; rintro e w' ⟨rfl, d, rfl⟩)
  go_ret
  obtain ⟨q1, q2⟩ := put16_end (w := w.drewN d) hb hc hR.1 a x (by omega) (↑x % 256) (↑x / 256) (by omega) (by omega)
  exact ⟨rfl, q1, fun g' o' e => (Only.drewN _ _ _).trans (q2 g' o' e)⟩

set_option maxHeartbeats 400000 in
theorem rPut32_no (A : Option Addr) (n c : Nat) (at_ v : Int) (w : World) (hn : n ≤ 140737488355328) (h : at_ < 0 ∨ (n : Int) - 4 < at_) :
    Calls Tryd.prog 25 #[.slice A n c, .int .i64 at_, .int .u32 v] w fun e w' => e = .returned (.bool false) ∧ ∃ d, w' = w.drewN d := by
  have H := Lib.hid h
  clear h
  go_enter Tryd.func25, Tryd.ntmps25
  go_wp2_with (go_at_call 47; refine (rGet32_no _ _ _ _ _ hn H.out).mono ?_; rintro e w' ⟨rfl, d, rfl⟩)
  go_ret
  exact ⟨rfl, _, rfl⟩

set_option maxHeartbeats 400000 in
theorem rPut16_no (A : Option Addr) (n c : Nat) (at_ v : Int) (w : World) (hn : n ≤ 140737488355328) (h : at_ < 0 ∨ (n : Int) - 2 < at_) :
    Calls Tryd.prog 26 #[.slice A n c, .int .i64 at_, .int .u32 v] w fun e w' => e = .returned (.bool false) ∧ ∃ d, w' = w.drewN d := by
  have H := Lib.hid h
  clear h
  go_enter Tryd.func26, Tryd.ntmps26
  go_wp2_with (go_at_call 48; refine (rGet16_no _ _ _ _ _ hn H.out).mono ?_; rintro e w' ⟨rfl, d, rfl⟩)
  go_ret
  exact ⟨rfl, _, rfl⟩

set_option maxHeartbeats 400000 in
theorem rPut16_great (A : Option Addr) (n c : Nat) (at_ v : Int) (f : Nat → Nat) (w : World) (hn : n ≤ 140737488355328) (hR : Row w A n f) (h0 : 0 ≤ at_) (h1 : at_ ≤ n - 2) (hv : 65535 < v) :
    Calls Tryd.prog 26 #[.slice A n c, .int .i64 at_, .int .u32 v] w fun e w' => e = .returned (.bool false) ∧ ∃ d, w' = w.drewN d := by
  have H := Lib.hid hR
  clear hR
  have l1 : decide ((65535 : Int) < v) = true := by simp; omega
  go_enter Tryd.func26, Tryd.ntmps26
  go_wp2_with (go_at_call 48; refine (rGet16_yes _ _ _ _ _ _ hn H.out (by omega) (by omega)).mono ?_; rintro e w' ⟨rfl, d, rfl⟩)
  go_ret
  exact ⟨rfl, _, rfl⟩

set_option maxHeartbeats 400000 in
theorem rZero_yes (A : Option Addr) (n c : Nat) (f : Nat → Nat) (w : World) (hn : n ≤ 140737488355328) (hR : Row w A n f) (hz : ∀ i, i < n → f i = 0) :
    Calls Tryd.prog 37 #[.slice A n c] w fun e w' => e = .returned (.bool true) ∧ w = w' := by
  have H := Lib.hid hR
  have Z := Lib.hid hz
  clear hR hz
  go_enter Tryd.func37, Tryd.ntmps37
  go_wp2
  go_loop [3] (fun i => ∃ k : Nat, k ≤ n ∧ i = .int .i64 k) (fun i => n - (intOf i).toNat)
  case atStart => exact ⟨0, Nat.zero_le _, rfl⟩
  case round =>
    obtain ⟨k, hk, rfl⟩ := hrel
    by_cases hlt : k < n
    · obtain ⟨b, o, rfl, _, hc⟩ := H.out.2 (by omega)
      have ck := hc k hlt
      rw [Z.out k hlt] at ck
      clear hc
      go_wp2
      go_round
      case rel => exact ⟨k + 1, by omega, by go_num⟩
      case measure => simp [intOf]; omega
    · go_wp2
      go_ret
      exact ⟨rfl, rfl⟩

set_option maxHeartbeats 400000 in
theorem rZero_no (A : Option Addr) (n c : Nat) (f : Nat → Nat) (w : World) (j : Nat) (hn : n ≤ 140737488355328) (hR : Row w A n f) (hj : j < n) (hz : 0 < f j) :
    Calls Tryd.prog 37 #[.slice A n c] w fun e w' => e = .returned (.bool false) ∧ w = w' := by
  obtain ⟨b, o, rfl, _, hc⟩ := hR.2 (by omega)
  have H := Lib.hid hc
  have Z := Lib.hid hz
  clear hR hz hc
  go_enter Tryd.func37, Tryd.ntmps37
  go_wp2
  go_loop [3] (fun i => ∃ k : Nat, k ≤ j ∧ i = .int .i64 k) (fun i => n - (intOf i).toNat)
  case atStart => exact ⟨0, Nat.zero_le _, rfl⟩
  case round =>
    obtain ⟨k, hk, rfl⟩ := hrel
    have ck := H.out k (by omega)
    by_cases hlt : f k = 0
    · have hkj : k < j := by
        rcases Nat.lt_or_ge k j with h | h
        · exact h
        · have : k = j := by omega
          subst this
          have := Z.out
          omega
      rw [hlt] at ck
      clear hlt
      go_wp2
      go_round
      case rel => exact ⟨k + 1, by omega, by go_num⟩
      case measure => simp [intOf]; omega
    · have hp : 0 < f k := by omega
      clear hlt
      go_wp2
      go_ret
      exact ⟨rfl, rfl⟩

end Go.Proofs.YtmlmpflfejbbcaaDoor
