import Derived.Test.YtaipcciokhkmnaaRDisk8
namespace Go.Proofs.Ytaipcciokhkmnaa
open Go.RowKit

section
variable {D : World → Addr → DS → Av → Prop}
/-- The program's disk and the document's, side by side. F: blocks that the program's disk has none of, the document's all of its own; G: what belongs to neither. -/
structure BothF (D : World → Addr → DS → Av → Prop) (w : World) (a : Addr) (b : Nat) (sd sr : DS) (G F : Av) : Prop where
  d : D w a sd (fun i => G i ∨ F i)
  r : RD w b sr (fun i => i < w.heap.size ∧ ¬ F i)
  g : ∀ i, G i → i < w.heap.size ∧ ¬ F i
def Both (D : World → Addr → DS → Av → Prop) (w : World) (a : Addr) (b : Nat) (sd sr : DS) (G : Av) : Prop := ∃ F, BothF D w a b sd sr G F
theorem RDq.out {w : World} {b : Nat} {s : DS} {av : Av} {q : Nat} (h : RDq w b s av q) : b < w.heap.size ∧ ¬ av b := by
  obtain ⟨g, o, n, c, v, h⟩ := h
  exact ⟨h.lt, h.apart.2.2.2.1⟩
theorem BothF.fb {w : World} {a : Addr} {b : Nat} {sd sr : DS} {G F : Av} (h : BothF D w a b sd sr G F) : F b := by
  have := h.r.out
  exact Classical.byContradiction fun q => this.2 ⟨this.1, q⟩
theorem BothF.flt (hD : DiskSays D) {w : World} {a : Addr} {b : Nat} {sd sr : DS} {G F : Av} (h : BothF D w a b sd sr G F) : ∀ i, F i → i < w.heap.size := fun i hi => hD.bound h.d i (.inr hi)
theorem BothF.dNext {w w' : World} {a : Addr} {b : Nat} {sd sd' sr : DS} {G F : Av} (h : BothF D w a b sd sr G F) (hd : D w' a sd' (fun i => G i ∨ F i)) (hk : Keep (fun i => G i ∨ F i) w w') : BothF D w' a b sd' sr G F :=
  ⟨hd, h.r.frame hk.size (fun i hi hn => hk.block i (.inr (Classical.byContradiction fun q => hn ⟨hi, q⟩))) (fun i ⟨h1, h2⟩ => by
    by_cases q : i < w.heap.size
    · exact .inl ⟨q, h2⟩
    · exact .inr ⟨by omega, h1⟩), fun i hi => ⟨Nat.lt_of_lt_of_le (h.g i hi).1 hk.size, (h.g i hi).2⟩⟩
theorem BothF.rNext (hD : DiskSays D) {w w' : World} {a : Addr} {b : Nat} {sd sr sr' : DS} {G F : Av} (h : BothF D w a b sd sr G F) (hr : RD w' b sr' (fun i => i < w.heap.size ∧ ¬ F i)) (hk : Keep (fun i => i < w.heap.size ∧ ¬ F i) w w') : BothF D w' a b sd sr' G (fun i => F i ∨ (w.heap.size ≤ i ∧ i < w'.heap.size)) := by
  refine ⟨hD.frame h.d hk.size (fun i hi hn => hk.block i ⟨hi, fun q => hn (.inr q)⟩) ?_, hr.mono ?_, fun i hi => ⟨Nat.lt_of_lt_of_le (h.g i hi).1 hk.size, ?_⟩⟩
  · rintro i (q | q | q)
    · exact .inl (.inl q)
    · exact .inl (.inr q)
    · exact .inr q
  · rintro i ⟨q1, q2⟩
    refine ⟨Nat.lt_of_not_le fun q => q2 (.inr ⟨q, q1⟩), fun q => q2 (.inl q)⟩
  · rintro (q | q)
    · exact (h.g i hi).2 q
    · have := (h.g i hi).1; omega
theorem Both.below (hD : DiskSays D) {w w' : World} {a : Addr} {b : Nat} {sd sr : DS} {G : Av} (h : Both D w a b sd sr G) (hb : Below w.heap.size w w') : Both D w' a b sd sr G := by
  obtain ⟨F, h⟩ := h
  refine ⟨F, hD.below h.d hb, h.r.frame hb.size (fun i hi _ => hb.block i hi) (fun i ⟨h1, h2⟩ => ?_), fun i hi => ⟨Nat.lt_of_lt_of_le (h.g i hi).1 hb.size, (h.g i hi).2⟩⟩
  by_cases q : i < w.heap.size
  · exact .inl ⟨q, h2⟩
  · exact .inr ⟨by omega, h1⟩
/-- .. and the new memory belongs to neither. -/
theorem Both.new' (hD : DiskSays D) {w w' : World} {a : Addr} {b : Nat} {sd sr : DS} {G : Av} (h : Both D w a b sd sr G) (hb : Below w.heap.size w w') : Both D w' a b sd sr (fun i => G i ∨ (w.heap.size ≤ i ∧ i < w'.heap.size)) := by
  obtain ⟨F, h⟩ := h
  refine ⟨F, hD.frame h.d hb.size (fun i hi _ => hb.block i hi) ?_, h.r.frame hb.size (fun i hi _ => hb.block i hi) (fun i ⟨h1, h2⟩ => ?_), fun i hi => ?_⟩
  · rintro i ((q | q) | q)
    · exact .inl (.inl q)
    · exact .inr q
    · exact .inl (.inr q)
  · by_cases q : i < w.heap.size
    · exact .inl ⟨q, h2⟩
    · exact .inr ⟨by omega, h1⟩
  · rcases hi with q | q
    · exact ⟨Nat.lt_of_lt_of_le (h.g i q).1 hb.size, (h.g i q).2⟩
    · exact ⟨q.2, fun k => by have := h.flt hD i k; omega⟩
theorem Both.mono (hD : DiskSays D) {w : World} {a : Addr} {b : Nat} {sd sr : DS} {G G' : Av} (h : Both D w a b sd sr G) (hg : ∀ i, G' i → G i) : Both D w a b sd sr G' := by
  obtain ⟨F, h⟩ := h
  exact ⟨F, hD.mono h.d (fun i q => q.imp (hg i) id), h.r, fun i hi => h.g i (hg i hi)⟩
/-- A call of the program's disk. -/
theorem Both.callD {w : World} {a : Addr} {b : Nat} {sd sd' sr : DS} {G : Av} (h : Both D w a b sd sr G) {f : FuncId} {args : Array Value} {Q : Ending → Prop}
    (hc : ∀ av, D w a sd av → Calls Try.prog f args w fun e w' => Q e ∧ D w' a sd' av ∧ Keep av w w') : Calls Try.prog f args w fun e w' => Q e ∧ Both D w' a b sd' sr G ∧ Keep G w w' ∧ w'.heap[b]? = w.heap[b]? := by
  obtain ⟨F, h⟩ := h
  refine (hc _ h.d).mono ?_
  rintro e w' ⟨he, hd, hk⟩
  exact ⟨he, ⟨F, h.dNext hd hk⟩, hk.mono fun i hi => .inl hi, hk.block b (.inr h.fb)⟩
/-- A call of the document's. -/
theorem Both.callR (hD : DiskSays D) {w : World} {a : Addr} {b : Nat} {sd sr sr' : DS} {G : Av} (h : Both D w a b sd sr G) {f : FuncId} {args : Array Value} {Q : Ending → Prop}
    (hc : ∀ av, RD w b sr av → (∀ i, G i → av i) → Calls Try.prog f args w fun e w' => Q e ∧ RD w' b sr' av ∧ Keep av w w') : Calls Try.prog f args w fun e w' => Q e ∧ Both D w' a b sd sr' G ∧ Keep G w w' := by
  obtain ⟨F, h⟩ := h
  refine (hc _ h.r h.g).mono ?_
  rintro e w' ⟨he, hr, hk⟩
  exact ⟨he, ⟨_, h.rNext hD hr hk⟩, hk.mono h.g⟩
/-- An image of the program's disk: new memory. -/
theorem Both.callI (hD : DiskSays D) {w : World} {a : Addr} {b n : Nat} {sd sr : DS} {G : Av} {l : List Blk} (h : Both D w a b sd sr G) {f : FuncId} {args : Array Value}
    (hc : ∀ av, D w a sd av → Calls Try.prog f args w fun e w' => (∃ g o c, e = .returned (.slice (some ⟨g, o, none⟩) n c) ∧ OImg w' g o l ∧ w.heap.size ≤ g ∧ D w' a sd (fun i => av i ∨ i = g)) ∧ Keep av w w') :
    Calls Try.prog f args w fun e w' => (∃ g o c, e = .returned (.slice (some ⟨g, o, none⟩) n c) ∧ OImg w' g o l ∧ w.heap.size ≤ g ∧ Both D w' a b sd sr (fun i => G i ∨ i = g)) ∧ Keep G w w' ∧ w'.heap[b]? = w.heap[b]? := by
  obtain ⟨F, h⟩ := h
  refine (hc _ h.d).mono ?_
  rintro e w' ⟨⟨g, o, c, he, hi, hg, hd⟩, hk⟩
  refine ⟨⟨g, o, c, he, hi, hg, F, ?_⟩, hk.mono fun i hi => .inl hi, hk.block b (.inr h.fb)⟩
  have h' := h.dNext (hD.mono hd fun i q => .inl q) hk
  refine ⟨hD.mono hd ?_, h'.r, ?_⟩
  · rintro i ((q | q) | q)
    · exact .inl (.inl q)
    · exact .inr q
    · exact .inl (.inr q)
  · rintro i (q | q)
    · exact h'.g i q
    · subst q
      exact ⟨hi.lt, fun k => by have := h.flt hD _ k; omega⟩
theorem Both.callRI {w : World} {a : Addr} {b : Nat} {sd sr : DS} {G : Av} (hD : DiskSays D) (h : Both D w a b sd sr G) :
    Calls Try.prog 33 #[.pointer (some ⟨b, 0, none⟩)] w fun e w' => (∃ gg cap, e = .returned (.slice (some ⟨gg, 0, none⟩) sr.safe.length cap) ∧ OImg w' gg 0 sr.now ∧ Both D w' a b sd sr (fun i => G i ∨ i = gg)) ∧ Below w.heap.size w w' := by
  obtain ⟨F, hF⟩ := h
  have h : Both D w a b sd sr G := ⟨F, hF⟩
  refine (rImage_any w b sr _ hF.r).mono ?_
  rintro e w' ⟨⟨gg, cap, he, hi, hg⟩, hb⟩
  exact ⟨⟨gg, cap, he, hi, (h.new' hD hb).mono hD (by rintro i (q | q); exact .inl q; subst q; exact .inr ⟨hg, hi.lt⟩)⟩, hb⟩
theorem Both.callRDead {w : World} {a : Addr} {b : Nat} {sd sr : DS} {G : Av} (h : Both D w a b sd sr G) :
    Calls Try.prog 32 #[.pointer (some ⟨b, 0, none⟩)] w fun e w' => e = .returned (.bool sr.dead) ∧ w' = w := by
  obtain ⟨F, h⟩ := h
  exact rDead_any w b sr _ h.r
end
end Go.Proofs.Ytaipcciokhkmnaa
