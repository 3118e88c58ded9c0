import Derived.Test.YtinpdomcfijnmaaSloA
import Derived.Test.YtinpdomcfijnmaaSloE
namespace Go.Proofs.Ytinpdomcfijnmaa
open Go.RowKit

/-! A list of eight slots, told by its block. -/
structure GR (w : World) (g : Nat) (d : Nat → SlotV) : Prop where
  lt : g < w.heap.size
  at_ : ∀ k, k < 8 → SAt w g (k * 2) (d k)
theorem SAt.keep {w w' : World} {b o : Nat} {x : SlotV} (h : SAt w b o x) (hk : w'.heap[b]? = w.heap[b]?) : SAt w' b o x := fun i v hv => by
  have := h i v hv
  unfold World.cell? at this ⊢
  simpa [hk] using this
section
variable {w w' : World} {g : Nat} {d : Nat → SlotV}
theorem GR.below (h : GR w g d) (hb : Below w.heap.size w w') : GR w' g d := ⟨Nat.lt_of_lt_of_le h.lt hb.size, fun k hk => (h.at_ k hk).below hb h.lt⟩
theorem GR.only {b : Nat} (h : GR w g d) (ho : Only b w w') (hne : g ≠ b) : GR w' g d := ⟨Nat.lt_of_lt_of_le h.lt ho.size, fun k hk => (h.at_ k hk).keep (ho.block g h.lt (fun e => hne (Option.some.inj e)))⟩
theorem GR.row (h : GR w g d) : SRow w (some ⟨g, 0, none⟩) 8 d := ⟨fun _ => ⟨g, 0, rfl, h.lt, fun k hk => by rw [Nat.zero_add]; exact h.at_ k hk⟩⟩
theorem GR.drewN (h : GR w g d) (n : Nat) : GR (w.drewN n) g d := ⟨h.lt, h.at_⟩
end
theorem own_gr {w : World} {base c : Nat} {A : Option Addr} {d : Nat → SlotV} (h : w.ownsRow base 33 2 (.slice A 8 c) 8 (slC d 8)) : ∃ g, A = some ⟨g, 0, none⟩ ∧ base ≤ g ∧ GR w g d := by
  rcases h.2 with ⟨_, q⟩ | ⟨g, cap, cur, h1, h2, h3, _⟩
  · omega
  · injection h1 with h1 _ _
    subst h1
    refine ⟨g, rfl, h2, (Array.getElem?_eq_some_iff.1 h3).1, fun k hk => ?_⟩
    obtain ⟨b, o, e, _, hc⟩ := (own_srow1 h).mem (by omega)
    injection e with e
    injection e with e1 e2 _
    subst e1 e2
    have := hc k hk
    rwa [Nat.zero_add] at this
/-- An inode of a slot that is read, in a region that draws its order. -/
theorem quiet_u32 {o : Oper} {a : Act} {C : World → Prop} {K : Act → Prop} (x : Operand) (ho : o.op = .load 31 x) (p : Addr) (hx : a.eval x = .pointer (some p)) (k : Int) (hc : ∀ w, C w → w.cell? p = some (.int .u32 k))
    (hk : K (a.put o.dst (.int .u32 k))) : o.quiet Try.prog a C K := by
  refine ⟨_, fun w hw => ?_, hk⟩
  have h := hc w hw
  unfold Oper.quietAt execOp
  simp only [ho, hx]
  go_simp
  first | done | exact ⟨rfl, hw⟩ | exact hw
end Go.Proofs.Ytinpdomcfijnmaa
