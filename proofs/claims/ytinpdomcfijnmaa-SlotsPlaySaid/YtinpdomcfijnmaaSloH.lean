import Derived.Test.YtinpdomcfijnmaaBlk0
namespace Go.Proofs.Ytinpdomcfijnmaa
open Go.RowKit

/-! Lists of names, of turns, as they come in. -/
def StrsAt (w : World) (A : Option Addr) (l : List ByteArray) : Prop := 0 < l.length → ∃ b o, A = some ⟨b, o, none⟩ ∧ b < w.heap.size ∧ ∀ i x, l[i]? = some x → w.cell? ⟨b, o + i, none⟩ = some (.string x)
def TurnsAt (w : World) (A : Option Addr) (l : List (ByteArray × Nat)) : Prop := 0 < l.length → ∃ b o, A = some ⟨b, o, none⟩ ∧ b < w.heap.size ∧ ∀ i p, l[i]? = some p → w.cell? ⟨b, o + i * 2, none⟩ = some (.string p.1) ∧ w.cell? ⟨b, o + i * 2 + 1, none⟩ = some (.int .u32 ((p.2 : Nat) : Int)) ∧ p.2 < 4294967296
theorem StrsAt.below {w w' : World} {A : Option Addr} {l : List ByteArray} (h : StrsAt w A l) (hb : Below w.heap.size w w') : StrsAt w' A l := fun h0 => by
  obtain ⟨b, o, e, hlt, hc⟩ := h h0
  exact ⟨b, o, e, Nat.lt_of_lt_of_le hlt hb.size, fun i x hx => (hb.cell (p := ⟨b, o + i, none⟩) hlt).trans (hc i x hx)⟩
theorem TurnsAt.below {w w' : World} {A : Option Addr} {l : List (ByteArray × Nat)} (h : TurnsAt w A l) (hb : Below w.heap.size w w') : TurnsAt w' A l := fun h0 => by
  obtain ⟨b, o, e, hlt, hc⟩ := h h0
  exact ⟨b, o, e, Nat.lt_of_lt_of_le hlt hb.size, fun i x hx => ⟨(hb.cell (p := ⟨b, o + i * 2, none⟩) hlt).trans (hc i x hx).1, (hb.cell (p := ⟨b, o + i * 2 + 1, none⟩) hlt).trans (hc i x hx).2.1, (hc i x hx).2.2⟩⟩
end Go.Proofs.Ytinpdomcfijnmaa
