import Derived.Test.YtoopoemkickpkaaDoorNumsOwn
namespace Go.Proofs.YtoopoemkickpkaaDoor
open Go.RowKit
theorem add_plain' (b o k : Nat) : (⟨b, o, none⟩ : Addr).add k = ⟨b, o + k, none⟩ := by unfold Addr.add; split <;> simp_all
theorem Row.cut' {w : World} {A : Option Addr} {n : Nat} {f : Nat → Nat} (h : Row w A n f) {k : Nat} (hk : k ≤ n) : Row w A k f :=
  ⟨h.1, fun h0 => by
    obtain ⟨b, o, e, hb, hc⟩ := h.2 (by omega)
    exact ⟨b, o, e, hb, fun i hi => hc i (by omega)⟩⟩
theorem Row.from' {w : World} {A A' : Option Addr} {n : Nat} {f : Nat → Nat} (h : Row w A n f) {k : Nat} (hA : k < n → ∀ b o, A = some ⟨b, o, none⟩ → A' = some ⟨b, o + k, none⟩) : Row w A' (n - k) (fun i => f (k + i)) :=
  ⟨fun i => h.1 _, fun h0 => by
    obtain ⟨b, o, e, hb, hc⟩ := h.2 (by omega)
    exact ⟨b, o + k, hA (by omega) b o e, hb, fun i hi => by rw [Nat.add_assoc]; exact hc (k + i) (by omega)⟩⟩
end Go.Proofs.YtoopoemkickpkaaDoor
