import Derived.Test.YtaipcciokhkmnaaDCrash1
namespace Go.Proofs.Ytaipcciokhkmnaa
open Go.RowKit

/-! The document's own disk: a struct of four cells: what is safe, what waits, what was done, what is left. -/
def leftOf : Option Nat → Int
  | none => -1
  | some k => (k : Nat)
/-- q: how many writes are kept already whose act is not told yet. -/
structure RDAt (w : World) (b : Nat) (s : DS) (g o n c : Nat) (v : Value) (av : Av) (q : Nat) : Prop where
  cells : w.heap[b]? = some (.cells #[.slice (some ⟨g, o, none⟩) n c, v, .int .i64 (s.acts : Nat), .int .i64 (leftOf s.left)] 73 (0, 0))
  len : n = s.safe.length
  img : OImg w g o s.safe
  wait : WOwn w 0 v s.wait
  apart : b ≠ g ∧ v.ownBlock ≠ some b ∧ v.ownBlock ≠ some g ∧ ¬ av b ∧ ¬ av g ∧ ∀ i, v.ownBlock = some i → ¬ av i
  bound : ∀ i, av i → i < w.heap.size
  ok : 1 ≤ s.safe.length ∧ s.safe.length ≤ 2048 ∧ (∀ p ∈ s.wait, p.1 < s.safe.length) ∧ s.wait.length ≤ s.acts + q ∧ s.acts ≤ 1000000
  lo : ∀ k, s.left = some k → k ≤ 9223372036854775807
def RDq (w : World) (b : Nat) (s : DS) (av : Av) (q : Nat) : Prop := ∃ g o n c v, RDAt w b s g o n c v av q
abbrev RD (w : World) (b : Nat) (s : DS) (av : Av) : Prop := RDq w b s av 0
theorem RDAt.lt {w : World} {b : Nat} {s : DS} {g o n c : Nat} {v : Value} {av : Av} {q : Nat} (h : RDAt w b s g o n c v av q) : b < w.heap.size := by
  rcases Nat.lt_or_ge b w.heap.size with q | q
  · exact q
  · have := h.cells; rw [Array.getElem?_eq_none q] at this; cases this
theorem RDAt.frame {w w' : World} {b : Nat} {s : DS} {g o n c : Nat} {v : Value} {av av' : Av} {q : Nat} (h : RDAt w b s g o n c v av q) (hs : w.heap.size ≤ w'.heap.size) (hk : ∀ i, i < w.heap.size → ¬ av i → w'.heap[i]? = w.heap[i]?) (hv : ∀ i, av' i → av i ∨ (w.heap.size ≤ i ∧ i < w'.heap.size)) : RDAt w' b s g o n c v av' q := by
  obtain ⟨a1, a2, a3, a4, a5, a6⟩ := h.apart
  have lb := h.lt
  have lg := h.img.lt
  refine ⟨(hk b lb a4).trans h.cells, h.len, h.img.keep (hk g lg a5), h.wait.keep fun i e => hk i (h.wait.base_le i e).2 (a6 i e), ⟨a1, a2, a3, fun q => ?_, fun q => ?_, fun i e q => ?_⟩, fun i hi => ?_, h.ok, h.lo⟩
  · rcases hv b q with q | q
    · exact a4 q
    · omega
  · rcases hv g q with q | q
    · exact a5 q
    · omega
  · rcases hv i q with q | q
    · exact a6 i e q
    · have := (h.wait.base_le i e).2; omega
  · rcases hv i hi with q | q
    · have := h.bound i q; omega
    · exact q.2
theorem RDq.frame {w w' : World} {b : Nat} {s : DS} {av av' : Av} {q : Nat} (h : RDq w b s av q) (hs : w.heap.size ≤ w'.heap.size) (hk : ∀ i, i < w.heap.size → ¬ av i → w'.heap[i]? = w.heap[i]?) (hv : ∀ i, av' i → av i ∨ (w.heap.size ≤ i ∧ i < w'.heap.size)) : RDq w' b s av' q := by
  obtain ⟨g, o, n, c, v, h⟩ := h
  exact ⟨g, o, n, c, v, h.frame hs hk hv⟩
theorem rdisk_under : Try.prog.underlying 73 = some (.struct (Try.prog.fieldsOf 73)) := by kernel_rfl
theorem left_dead (s : DS) : (leftOf s.left == 0) = s.dead := by
  unfold leftOf DS.dead
  cases s.left with
  | none => rfl
  | some k => cases k <;> simp <;> omega
theorem rDead_any (w : World) (b : Nat) (s : DS) (av : Av) (h : RD w b s av) :
    Calls Try.prog 32 #[.pointer (some ⟨b, 0, none⟩)] w fun e w' => e = .returned (.bool s.dead) ∧ w' = w := by
  obtain ⟨g, o, n, c, v, h⟩ := h
  have c3 := (cell_of_row w b 3 _ _ (0, 0) h.cells).trans (by rfl : _ = some (Value.int .i64 (leftOf s.left)))
  go_enter Try.func32, Try.ntmps32
  go_wp2
  go_ret
  exact ⟨by show Ending.returned (.bool (leftOf s.left == 0)) = _; rw [left_dead], rfl⟩
/-- Only the struct's own cells turn. -/
theorem RDAt.upd {w w' : World} {b : Nat} {s : DS} {g o n c : Nat} {v : Value} {av : Av} {q : Nat} (h : RDAt w b s g o n c v av q) (acts : Nat) (left : Option Nat) (q' : Nat)
    (hb : w'.heap[b]? = some (.cells #[.slice (some ⟨g, o, none⟩) n c, v, .int .i64 (acts : Nat), .int .i64 (leftOf left)] 73 (0, 0)))
    (hs : w'.heap.size = w.heap.size) (hk : ∀ i, i ≠ b → w'.heap[i]? = w.heap[i]?) (ho : s.wait.length ≤ acts + q' ∧ acts ≤ 1000000) (hl : ∀ k, left = some k → k ≤ 9223372036854775807) : RDAt w' b { s with acts := acts, left := left } g o n c v av q' := by
  obtain ⟨a1, a2, a3, a4, a5, a6⟩ := h.apart
  exact ⟨hb, h.len, h.img.keep (hk g (Ne.symm a1)), h.wait.keep fun i e => hk i (fun q => a2 (q ▸ e)), h.apart, fun i hi => by rw [hs]; exact h.bound i hi, ⟨h.ok.1, h.ok.2.1, h.ok.2.2.1, ho.1, ho.2⟩, hl⟩
theorem rKeep {w : World} {b : Nat} {av : Av} (hv : ¬ av b) (k : Nat) (x : Value) : Keep av w (w.setCell ⟨b, k, none⟩ x) := by
  have h := (Keep.refl av w).cells hv k [x]
  exact h
theorem setCell_other (w : World) (b k i : Nat) (x : Value) (h : i ≠ b) : (w.setCell ⟨b, k, none⟩ x).heap[i]? = w.heap[i]? := setCells_heap_ne b [x] k w i h
theorem setCell_size (w : World) (b k : Nat) (x : Value) : (w.setCell ⟨b, k, none⟩ x).heap.size = w.heap.size := setCells_size b [x] k w
theorem row_frozen {w : World} {b k : Nat} {cs : Array Value} {t : TypeId} (h : w.heap[b]? = some (.cells cs t (0, 0))) : w.frozen? ⟨b, k, none⟩ = false := by simp [World.frozen?, h]
theorem rPower_any (w : World) (b : Nat) (s : DS) (av : Av) (p : Int) (h : RD w b s av) (hp : p ≤ 9223372036854775807) :
    Calls Try.prog 36 #[.pointer (some ⟨b, 0, none⟩), .int .i64 p] w fun e w' => e = .returned noResult ∧ RD w' b (s.power p) av ∧ Keep av w w' := by
  obtain ⟨g, o, n, c, v, h⟩ := h
  have c3 := (cell_of_row w b 3 _ _ (0, 0) h.cells).trans (by rfl : _ = some (Value.int .i64 (leftOf s.left)))
  have f3 := row_frozen (k := 3) h.cells
  have H := Lib.hid h
  clear h
  by_cases h0 : p < 0
  · have t0 : decide (p < 0) = true := by simp; omega
    go_enter Try.func36, Try.ntmps36
    go_wp2
    refine bodyPost_end (results_none Try.results36 _ _ _) rfl ⟨rfl, ?_, (rKeep H.out.apart.2.2.2.1 _ _).trans (rKeep H.out.apart.2.2.2.1 _ _)⟩
    unfold DS.power
    rw [if_pos h0]
    refine ⟨g, o, n, c, v, H.out.upd s.acts none 0 ?_ ?_ ?_ ⟨H.out.ok.2.2.2.1, H.out.ok.2.2.2.2⟩ (by simp)⟩
    · rw [heap_setCell_same _ b 3 _ _ _ (heap_setCell_same _ b 3 _ _ _ H.out.cells)]; rfl
    · rw [setCell_size, setCell_size]
    · intro i hi; rw [setCell_other _ _ _ _ _ hi, setCell_other _ _ _ _ _ hi]
  · have t0 : decide (p < 0) = false := by simp; omega
    have h1 : leftOf (some p.toNat) = p := by unfold leftOf; dsimp only; omega
    go_enter Try.func36, Try.ntmps36
    go_wp2
    refine bodyPost_end (results_none Try.results36 _ _ _) rfl ⟨rfl, ?_, rKeep H.out.apart.2.2.2.1 _ _⟩
    unfold DS.power
    rw [if_neg (by omega)]
    refine ⟨g, o, n, c, v, H.out.upd s.acts (some p.toNat) 0 ?_ ?_ ?_ ⟨H.out.ok.2.2.2.1, H.out.ok.2.2.2.2⟩ (by intro k hk; cases hk; omega)⟩
    · rw [heap_setCell_same _ b 3 _ _ _ H.out.cells, h1]; rfl
    · rw [setCell_size]
    · intro i hi; rw [setCell_other _ _ _ _ _ hi]
/-- Behind an act that is done: what waits or is safe is told already; the numbers follow. -/
theorem rAct_any (w : World) (b : Nat) (s : DS) (av : Av) (h : RDq w b s av 1) (hd : s.dead = false) (ha : s.acts < 1000000) :
    Calls Try.prog 45 #[.pointer (some ⟨b, 0, none⟩)] w fun e w' => e = .returned noResult ∧ RD w' b s.act av ∧ Keep av w w' := by
  obtain ⟨g, o, n, c, v, h⟩ := h
  have c2 := (cell_of_row w b 2 _ _ (0, 0) h.cells).trans (by rfl : _ = some (Value.int .i64 (s.acts : Nat)))
  have c3 := (cell_of_row w b 3 _ _ (0, 0) h.cells).trans (by rfl : _ = some (Value.int .i64 (leftOf s.left)))
  have f2 := row_frozen (k := 2) h.cells
  have f3 := row_frozen (k := 3) h.cells
  have H := Lib.hid h
  clear h
  cases hl : s.left with
  | none =>
    rw [hl] at c3
    have hs : s.act = { s with acts := s.acts + 1, left := none } := by unfold DS.act; rw [hl]; rfl
    have H1 := Lib.hid hs
    have HL := Lib.hid hl
    clear hl hs
    have c4 : leftOf none = -1 := rfl
    rw [c4] at c3
    go_enter Try.func45, Try.ntmps45
    go_wp2
    refine bodyPost_end (results_none Try.results45 _ _ _) rfl ⟨rfl, ?_, rKeep H.out.apart.2.2.2.1 _ _⟩
    rw [H1.out]
    refine ⟨g, o, n, c, v, H.out.upd (s.acts + 1) none 0 ?_ ?_ ?_ ⟨by have := H.out.ok.2.2.2.1; omega, by omega⟩ (by simp)⟩
    · rw [heap_setCell_same _ b 2 _ _ _ H.out.cells, HL.out]; rfl
    · rw [setCell_size]
    · intro i hi; rw [setCell_other _ _ _ _ _ hi]
  | some k =>
    rw [hl] at c3
    have hk : 0 < k := by unfold DS.dead at hd; rw [hl] at hd; rcases Nat.eq_zero_or_pos k with q | q; subst q; simp at hd; exact q
    have hk2 := H.out.lo k hl
    have hs : s.act = { s with acts := s.acts + 1, left := some (k - 1) } := by unfold DS.act; rw [hl]; rfl
    have H1 := Lib.hid hs
    have HL := Lib.hid hl
    clear hl hs
    have c4 : leftOf (some k) = (k : Nat) := rfl
    have c5 : leftOf (some (k - 1)) = (k : Int) - 1 := by unfold leftOf; dsimp only; omega
    rw [c4] at c3
    have t0 : decide ((0 : Int) < k) = true := by simp; omega
    go_enter Try.func45, Try.ntmps45
    go_wp2
    refine bodyPost_end (results_none Try.results45 _ _ _) rfl ⟨rfl, ?_, (rKeep H.out.apart.2.2.2.1 _ _).trans (rKeep H.out.apart.2.2.2.1 _ _)⟩
    rw [H1.out]
    refine ⟨g, o, n, c, v, H.out.upd (s.acts + 1) (some (k - 1)) 0 ?_ ?_ ?_ ⟨by have := H.out.ok.2.2.2.1; omega, by omega⟩ (by intro q hq; cases hq; omega)⟩
    · rw [heap_setCell_same _ b 3 _ _ _ (heap_setCell_same _ b 2 _ _ _ H.out.cells), c5]; rfl
    · rw [setCell_size, setCell_size]
    · intro i hi; rw [setCell_other _ _ _ _ _ hi, setCell_other _ _ _ _ _ hi]
end Go.Proofs.Ytaipcciokhkmnaa
