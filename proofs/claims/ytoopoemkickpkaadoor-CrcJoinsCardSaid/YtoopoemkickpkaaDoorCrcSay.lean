import Derived.Test.YtoopoemkickpkaaDoorCrcJoinSay
import Derived.Test.YtoopoemkickpkaaDoorEnv
import Derived.Test.YtoopoemkickpkaaDoorAppend
import Derived.WalkSpells
import Derived.WalkLawsBesides
import Derived.Lib.Hide
import Derived.Deep.QuietTactic
import Derived.BigQuiet
import Derived.Deep.RegionWith
import Derived.Lib.SmallJoins
namespace Go.Proofs.YtoopoemkickpkaaDoor
open Go.RowKit CrcM

/-! Pieces of bytes, and what the program's two calls say of them. -/
def Pcs (w : World) (A : Option Addr) (ps : List (Nat × (Nat → Nat))) : Prop :=
  Env w ∧ (∀ p ∈ ps, p.1 ≤ 100000) ∧ (0 < ps.length → ∃ b o, A = some ⟨b, o, none⟩ ∧ b < w.heap.size ∧ ∀ i p, ps[i]? = some p → ∃ Ai ci, w.cell? ⟨b, o + i, none⟩ = some (.slice Ai p.1 ci) ∧ Row w Ai p.1 p.2)
def runs (v : Nat) : List (Nat × (Nat → Nat)) → Nat
  | [] => v
  | p :: ps => runs (run v p.2 p.1) ps
def sums (ps : List (Nat × (Nat → Nat))) : Nat := runs ff ps ^^^ ff
theorem sums_nil : sums [] = 0 := rfl
theorem sums_one (n : Nat) (f : Nat → Nat) : sums [(n, f)] = sum f n := rfl
theorem sums_skip (f : Nat → Nat) (v : Nat) (ps : List (Nat × (Nat → Nat))) : runs v ((0, f) :: ps) = runs v ps := rfl
theorem runs_lt {v : Nat} (hv : v < 4294967296) : ∀ {ps : List (Nat × (Nat → Nat))}, (∀ p ∈ ps, ∀ i, p.2 i < 256) → runs v ps < 4294967296
  | [], _ => hv
  | p :: _, h => runs_lt (run_lt hv (h p (by simp)) p.1) fun q hq => h q (by simp [hq])
theorem sums_lt {ps : List (Nat × (Nat → Nat))} (h : ∀ p ∈ ps, ∀ i, p.2 i < 256) : sums ps < 4294967296 :=
  Nat.xor_lt_two_pow (n := 32) (runs_lt (by unfold ff; omega) h) (by unfold ff; omega)
theorem Pcs.nil {w : World} (hE : Env w) (A : Option Addr) : Pcs w A [] := ⟨hE, by simp, fun h => absurd h (by simp)⟩
theorem Pcs.below {w w' : World} {A : Option Addr} {ps : List (Nat × (Nat → Nat))} (h : Pcs w A ps) (hb : Below w.heap.size w w') : Pcs w' A ps :=
  ⟨h.1.below hb, h.2.1, fun h0 => by
    obtain ⟨b, o, e, hlt, hc⟩ := h.2.2 h0
    refine ⟨b, o, e, Nat.lt_of_lt_of_le hlt hb.size, fun i p hp => ?_⟩
    obtain ⟨Ai, ci, h1, h2⟩ := hc i p hp
    exact ⟨Ai, ci, (hb.cell (p := ⟨b, o + i, none⟩) hlt).trans h1, h2.below hb⟩⟩

/-- P2.1, of any pieces. -/
def SumSays : Prop := ∀ (A : Option Addr) (m c : Nat) (ps : List (Nat × (Nat → Nat))) (w : World), m = ps.length → m ≤ 100 → Pcs w A ps →
  Calls Tryd.prog 11 #[.slice A m c] w fun e w' => e = .returned (.int .u32 (sums ps : Nat)) ∧ Below w.heap.size w w'
/-- One piece, two, three, in a list that was just made. -/
theorem Pcs.one {w : World} {A : Option Addr} {n c : Nat} {f : Nat → Nat} (hE : Env w) (t : TypeId) (h : Row w A n f) (hn : n ≤ 100000) : Pcs (w.alloc (.cells #[.slice A n c] t)) (some ⟨w.heap.size, 0, none⟩) [(n, f)] := by
  refine ⟨hE.below ((Below.refl _ _).alloc (Nat.le_refl _) _), by simp [hn], fun _ => ⟨_, 0, rfl, by simp, fun i p hp => ?_⟩⟩
  have hb : Below w.heap.size w (w.alloc (.cells #[.slice A n c] t)) := (Below.refl _ _).alloc (Nat.le_refl _) _
  have hcell : ∀ j, (w.alloc (.cells #[.slice A n c] t)).cell? ⟨w.heap.size, j, none⟩ = (#[Value.slice A n c] : Array Value)[j]? := fun j => cell_of_row _ _ j _ t (0, 0) (heap_alloc_new w _)
  match i, hp with
  | 0, hp => cases hp; exact ⟨A, c, by rw [hcell]; rfl, h.below hb⟩
theorem Pcs.two {w : World} {A B : Option Addr} {n c m d : Nat} {f g : Nat → Nat} (hE : Env w) (t : TypeId) (h : Row w A n f) (hn : n ≤ 100000) (k : Row w B m g) (hm : m ≤ 100000) : Pcs (w.alloc (.cells #[.slice A n c, .slice B m d] t)) (some ⟨w.heap.size, 0, none⟩) [(n, f), (m, g)] := by
  refine ⟨hE.below ((Below.refl _ _).alloc (Nat.le_refl _) _), by simp [hn, hm], fun _ => ⟨_, 0, rfl, by simp, fun i p hp => ?_⟩⟩
  have hb : Below w.heap.size w (w.alloc (.cells #[.slice A n c, .slice B m d] t)) := (Below.refl _ _).alloc (Nat.le_refl _) _
  have hcell : ∀ j, (w.alloc (.cells #[.slice A n c, .slice B m d] t)).cell? ⟨w.heap.size, j, none⟩ = (#[Value.slice A n c, .slice B m d] : Array Value)[j]? := fun j => cell_of_row _ _ j _ t (0, 0) (heap_alloc_new w _)
  match i, hp with
  | 0, hp => cases hp; exact ⟨A, c, by rw [hcell]; rfl, h.below hb⟩
  | 1, hp => cases hp; exact ⟨B, d, by rw [hcell]; rfl, k.below hb⟩
theorem Pcs.three {w : World} {A B C : Option Addr} {n c m d l e : Nat} {f g q : Nat → Nat} (hE : Env w) (t : TypeId) (h : Row w A n f) (hn : n ≤ 100000) (k : Row w B m g) (hm : m ≤ 100000) (j : Row w C l q) (hl : l ≤ 100000) :
    Pcs (w.alloc (.cells #[.slice A n c, .slice B m d, .slice C l e] t)) (some ⟨w.heap.size, 0, none⟩) [(n, f), (m, g), (l, q)] := by
  refine ⟨hE.below ((Below.refl _ _).alloc (Nat.le_refl _) _), by simp [hn, hm, hl], fun _ => ⟨_, 0, rfl, by simp, fun i p hp => ?_⟩⟩
  have hb : Below w.heap.size w (w.alloc (.cells #[.slice A n c, .slice B m d, .slice C l e] t)) := (Below.refl _ _).alloc (Nat.le_refl _) _
  have hcell : ∀ j, (w.alloc (.cells #[.slice A n c, .slice B m d, .slice C l e] t)).cell? ⟨w.heap.size, j, none⟩ = (#[Value.slice A n c, .slice B m d, .slice C l e] : Array Value)[j]? := fun j => cell_of_row _ _ j _ t (0, 0) (heap_alloc_new w _)
  match i, hp with
  | 0, hp => cases hp; exact ⟨A, c, by rw [hcell]; rfl, h.below hb⟩
  | 1, hp => cases hp; exact ⟨B, d, by rw [hcell]; rfl, k.below hb⟩
  | 2, hp => cases hp; exact ⟨C, e, by rw [hcell]; rfl, j.below hb⟩
theorem Row.none_ (w : World) (f : Nat → Nat) (hf : ∀ i, f i < 256) : Row w none 0 f := ⟨hf, fun h => absurd h (by omega)⟩

/-- A literal's bytes, marked or not. -/
theorem Row.lit (w : World) (t : TypeId) (xs : List Nat) (fz : Nat × Nat) (h : ∀ x ∈ xs, x < 256) : Row (w.alloc (.cells (lits8 xs) t fz)) (some ⟨w.heap.size, 0, none⟩) xs.length (lit8 xs) := by
  refine ⟨lit8_lt h, fun _ => ⟨_, 0, rfl, by simp, fun i hi => ?_⟩⟩
  rw [cell_of_row _ _ (0 + i) _ t fz (heap_alloc_new w _)]
  simp [lits8, lit8, List.getElem?_eq_getElem hi, List.getD_eq_getElem?_getD]

end Go.Proofs.YtoopoemkickpkaaDoor
