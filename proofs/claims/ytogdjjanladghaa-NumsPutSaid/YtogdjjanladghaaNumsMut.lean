import Derived.Test.YtogdjjanladghaaNums7
import Derived.Test.YtogdjjanladghaaNumsMath2
namespace Go.Proofs.Ytogdjjanladghaa
open Go.RowKit

/-! Which memory a put may have changed, and what stays: in one word, for all inputs. -/
def Mut (base N : Nat) (A : Option Addr) (w w' : World) : Prop :=
  Below w.heap.size w w' ∨ ∃ g o, A = some ⟨g, o, none⟩ ∧ 0 < N ∧ base ≤ g ∧ Only g w w'
def Apart (N : Nat) (A : Option Addr) (N' : Nat) (A' : Option Addr) : Prop :=
  0 < N → 0 < N' → ∀ g o g' o', A = some ⟨g, o, none⟩ → A' = some ⟨g', o', none⟩ → g ≠ g'
theorem Apart.symm {N : Nat} {A : Option Addr} {N' : Nat} {A' : Option Addr} (h : Apart N A N' A') : Apart N' A' N A := fun h1 h2 g o g' o' e e' q => h h2 h1 g' o' g o e' e q.symm
theorem apart_of {w w' : World} {base N N' : Nat} {A A' : Option Addr} {f f' : Nat → Nat} (h : Own w base A N f) (h' : Own w' w.heap.size A' N' f') : Apart N A N' A' := by
  intro h1 h2 g o g' o' e e'
  obtain ⟨g1, o1, e1, _, hc⟩ := h.2 h1
  obtain ⟨g2, o2, e2, hb, _⟩ := h'.2 h2
  rw [e] at e1
  rw [e'] at e2
  injection e1 with e1
  injection e1 with e1
  injection e2 with e2
  injection e2 with e2
  have := hc.lt
  omega
theorem Own.below {w w' : World} {base N : Nat} {A : Option Addr} {f : Nat → Nat} (h : Own w base A N f) (hb : Below w.heap.size w w') : Own w' base A N f :=
  ⟨h.1, fun h0 => by
    obtain ⟨g, o, e, hg, hc⟩ := h.2 h0
    exact ⟨g, o, e, hg, hc.keep (hb.block g hc.lt)⟩⟩
theorem Own.mut {w w' : World} {base base' N N' : Nat} {A A' : Option Addr} {f : Nat → Nat} (h : Own w base A N f) (m : Mut base' N' A' w w') (ap : Apart N A N' A') : Own w' base A N f := by
  rcases m with m | ⟨g', o', e', h', _, m⟩
  · exact h.below m
  · refine ⟨h.1, fun h0 => ?_⟩
    obtain ⟨g, o, e, hg, hc⟩ := h.2 h0
    refine ⟨g, o, e, hg, hc.keep (m.block g hc.lt (fun q => ?_))⟩
    injection q with q
    exact ap h0 h' g o g' o' e e' q
theorem Mut.below {w w' : World} {base N B : Nat} {A : Option Addr} (m : Mut base N A w w') (hB : B ≤ base) (hs : B ≤ w.heap.size) : Below B w w' := by
  rcases m with m | ⟨g, o, _, _, hg, m⟩
  · exact m.mono hs
  · exact m.below (by omega) hs
theorem Mut.size {w w' : World} {base N : Nat} {A : Option Addr} (m : Mut base N A w w') : w.heap.size ≤ w'.heap.size := by
  rcases m with m | ⟨g, o, _, _, hg, m⟩
  · exact m.size
  · exact m.size
theorem Mut.refl (base N : Nat) (A : Option Addr) (w : World) : Mut base N A w w := .inl (Below.refl _ _)
theorem Mut.drewN (base N : Nat) (A : Option Addr) (w : World) (d : Nat) : Mut base N A w (w.drewN d) := .inl ((Below.refl _ _).drewN d)

def q32 (n : Nat) (f : Nat → Nat) (at_ v : Int) : Nat → Nat := if 0 ≤ at_ ∧ at_ ≤ n - 4 then p32 f at_.toNat v.toNat else f
def q16 (n : Nat) (f : Nat → Nat) (at_ v : Int) : Nat → Nat := if (0 ≤ at_ ∧ at_ ≤ n - 2) ∧ v ≤ 65535 then p16 f at_.toNat v.toNat else f
def c16 (n : Nat) (at_ v : Int) : Bool := decide ((0 ≤ at_ ∧ at_ ≤ n - 2) ∧ v ≤ 65535)

theorem mut_of {A : Option Addr} {n N base : Nat} {f : Nat → Nat} {w : World} (hN : n ≤ N) (hR : Own w base A N f) {at_ : Int} {w' : World} {f' : Nat → Nat} (j : Nat) (h : 0 ≤ at_ ∧ at_ ≤ n - (j + 1 : Nat)) (q : Own w' base A N f') (o : ∀ g o, A = some ⟨g, o, none⟩ → Only g w w') : Own w' base A N f' ∧ Mut base N A w w' := by
  obtain ⟨g, o', e, hg, _⟩ := hR.2 (by omega)
  exact ⟨q, .inr ⟨g, o', e, by omega, hg, o g o' e⟩⟩

section
variable (A : Option Addr) (n c N base : Nat) (at_ v : Int) (f : Nat → Nat) (w : World) (hn : n ≤ 140737488355328) (hN : n ≤ N) (hR : Own w base A N f) (hv0 : 0 ≤ v) (hv1 : v < 4294967296)
include hn hN hR hv0 hv1
theorem Put32_any : Calls Try.prog 20 #[.slice A n c, .int .i64 at_, .int .u32 v] w fun e w' => e = .returned (.bool (b32 n at_)) ∧ Own w' base A N (q32 n f at_ v) ∧ Mut base N A w w' := by
  by_cases h : 0 ≤ at_ ∧ at_ ≤ n - 4
  · rw [q32, b32, if_pos h, decide_eq_true h]
    exact (Put32_yes A n c N base at_ v f w hn hN hR h.1 h.2 hv0 hv1).mono fun _ _ ⟨e, q, o⟩ => ⟨e, mut_of hN hR 3 h q o⟩
  · rw [q32, b32, if_neg h, decide_eq_false h]
    exact (Put32_no A n c at_ v w hn (by omega)).mono fun _ _ ⟨e, q⟩ => ⟨e, by subst q; exact ⟨hR, Mut.refl _ _ _ _⟩⟩
theorem Put16_any : Calls Try.prog 18 #[.slice A n c, .int .i64 at_, .int .u32 v] w fun e w' => e = .returned (.bool (c16 n at_ v)) ∧ Own w' base A N (q16 n f at_ v) ∧ Mut base N A w w' := by
  by_cases h : (0 ≤ at_ ∧ at_ ≤ n - 2) ∧ v ≤ 65535
  · rw [q16, c16, if_pos h, decide_eq_true h]
    exact (Put16_yes A n c N base at_ v f w hn hN hR h.1.1 h.1.2 hv0 h.2).mono fun _ _ ⟨e, q, o⟩ => ⟨e, mut_of hN hR 1 h.1 q o⟩
  · rw [q16, c16, if_neg h, decide_eq_false h]
    by_cases hv : v ≤ 65535
    · exact (Put16_no A n c at_ v w hn (by omega) hv0 hv).mono fun _ _ ⟨e, q⟩ => ⟨e, by subst q; exact ⟨hR, Mut.refl _ _ _ _⟩⟩
    · exact (Put16_great A n c at_ v w (by omega)).mono fun _ _ ⟨e, q⟩ => ⟨e, by subst q; exact ⟨hR, Mut.refl _ _ _ _⟩⟩
theorem rPut32_any : Calls Try.prog 21 #[.slice A n c, .int .i64 at_, .int .u32 v] w fun e w' => e = .returned (.bool (b32 n at_)) ∧ Own w' base A N (q32 n f at_ v) ∧ Mut base N A w w' := by
  by_cases h : 0 ≤ at_ ∧ at_ ≤ n - 4
  · rw [q32, b32, if_pos h, decide_eq_true h]
    exact (rPut32_yes A n c N base at_ v f w hn hN hR h.1 h.2 hv0 hv1).mono fun _ _ ⟨e, q, o⟩ => ⟨e, mut_of hN hR 3 h q o⟩
  · rw [q32, b32, if_neg h, decide_eq_false h]
    exact (rPut32_no A n c at_ v w hn (by omega)).mono fun _ _ ⟨e, d, q⟩ => ⟨e, by subst q; exact ⟨hR.drewN d, Mut.drewN _ _ _ _ _⟩⟩
theorem rPut16_any : Calls Try.prog 19 #[.slice A n c, .int .i64 at_, .int .u32 v] w fun e w' => e = .returned (.bool (c16 n at_ v)) ∧ Own w' base A N (q16 n f at_ v) ∧ Mut base N A w w' := by
  by_cases h : (0 ≤ at_ ∧ at_ ≤ n - 2) ∧ v ≤ 65535
  · rw [q16, c16, if_pos h, decide_eq_true h]
    exact (rPut16_yes A n c N base at_ v f w hn hN hR h.1.1 h.1.2 hv0 h.2).mono fun _ _ ⟨e, q, o⟩ => ⟨e, mut_of hN hR 1 h.1 q o⟩
  · rw [q16, c16, if_neg h, decide_eq_false h]
    by_cases hi : 0 ≤ at_ ∧ at_ ≤ n - 2
    · exact (rPut16_great A n c at_ v f w hn (hR.row hN) hi.1 hi.2 (by omega)).mono fun _ _ ⟨e, d, q⟩ => ⟨e, by subst q; exact ⟨hR.drewN d, Mut.drewN _ _ _ _ _⟩⟩
    · exact (rPut16_no A n c at_ v w hn (by omega)).mono fun _ _ ⟨e, d, q⟩ => ⟨e, by subst q; exact ⟨hR.drewN d, Mut.drewN _ _ _ _ _⟩⟩
end

end Go.Proofs.Ytogdjjanladghaa
