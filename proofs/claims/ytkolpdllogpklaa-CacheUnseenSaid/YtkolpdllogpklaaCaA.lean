import Derived.Test.YtkolpdllogpklaaCaR
namespace Go.Proofs.Ytkolpdllogpklaa
open Go.RowKit

/-! Calls, in memory. -/
structure ActV where
  kind : Nat
  at' : Int
  fill : Nat
  K : Option Addr
  m : Nat
  cp : Nat
def ActV.Fits (x : ActV) : Prop := x.kind < 256 ∧ I64 x.at' ∧ x.fill < 4294967296
def ActV.cells (x : ActV) : List Value := [.int .u8 (x.kind : Int), .int .i64 x.at', .int .u32 (x.fill : Int), .slice x.K x.m x.cp]
def ActsIn (w : World) (A : Option Addr) (l : List ActV) : Prop := 0 < l.length → ∃ g o, A = some ⟨g, o, none⟩ ∧ g < w.heap.size ∧ ∀ i x, l[i]? = some x → w.rangeAt g (o + i * 4) x.cells
theorem ActsIn.below {w w' : World} {A : Option Addr} {l : List ActV} (h : ActsIn w A l) (hb : Below w.heap.size w w') : ActsIn w' A l := fun h0 => by
  obtain ⟨g, o, e, hg, hc⟩ := h h0
  refine ⟨g, o, e, Nat.lt_of_lt_of_le hg hb.size, fun i x hx j v hv => ?_⟩
  exact (Below.cell hb (p := ⟨g, o + i * 4 + j, none⟩) hg).trans (hc i x hx j v hv)
end Go.Proofs.Ytkolpdllogpklaa
