import Derived.Test.YtkolpdllogpklaaRows
import Derived.WalkKit
import Derived.WalkSpells
import Derived.WalkLawsBesides
import Derived.Deep.Draws
import Derived.Laws.BitsAllLaws
namespace Go.Proofs.Ytkolpdllogpklaa
open Go.RowKit

/-- The slice value '.slice A n _' reads as the bytes f 0, .., f (n - 1). -/
def Row (w : World) (A : Option Addr) (n : Nat) (f : Nat → Nat) : Prop :=
  (∀ i, f i < 256) ∧ (0 < n → ∃ b o, A = some ⟨b, o, none⟩ ∧ b < w.heap.size ∧ ∀ i, i < n → w.cell? ⟨b, o + i, none⟩ = some (.int .u8 ((f i : Nat) : Int)))

def g16 (f : Nat → Nat) (a : Nat) : Nat := f a + 256 * f (a + 1)
def g32 (f : Nat → Nat) (a : Nat) : Nat := f a + 256 * f (a + 1) + 65536 * f (a + 2) + 16777216 * f (a + 3)

theorem Row.drewN {w : World} {A : Option Addr} {n : Nat} {f : Nat → Nat} (h : Row w A n f) (k : Nat) : Row (w.drewN k) A n f := h
theorem Row.below {w w' : World} {A : Option Addr} {n : Nat} {f : Nat → Nat} (h : Row w A n f) (hb : Below w.heap.size w w') : Row w' A n f :=
  ⟨h.1, fun hn => by
    obtain ⟨b, o, e, hlt, hc⟩ := h.2 hn
    exact ⟨b, o, e, Nat.lt_of_lt_of_le hlt hb.size, fun i hi => (hb.cell (p := ⟨b, o + i, none⟩) hlt).trans (hc i hi)⟩⟩

theorem join32 (x y : Int) (h0 : 0 ≤ x) (h1 : x < 16777216) (h2 : 0 ≤ y) (h3 : y < 256) : bits .or .u32 (x * 256 % 4294967296) y = x * 256 + y := by
  obtain ⟨a, rfl⟩ := Int.eq_ofNat_of_zero_le h0
  obtain ⟨b, rfl⟩ := Int.eq_ofNat_of_zero_le h2
  have e : (a : Int) * 256 % 4294967296 = ((a * 256 : Nat) : Int) := by omega
  rw [e, u32_or_nat _ _ (by omega) (by omega), nat_join 8 _ _ (by omega) (by omega)]
  omega
theorem join16 (x y : Int) (h0 : 0 ≤ x) (h1 : x < 256) (h2 : 0 ≤ y) (h3 : y < 256) : bits .or .u16 (x * 256 % 65536) y = x * 256 + y := by
  obtain ⟨a, rfl⟩ := Int.eq_ofNat_of_zero_le h0
  obtain ⟨b, rfl⟩ := Int.eq_ofNat_of_zero_le h2
  have e : (a : Int) * 256 % 65536 = ((a * 256 : Nat) : Int) := by omega
  rw [e, u16_or_nat _ _ (by omega) (by omega), nat_join 8 _ _ (by omega) (by omega)]
  omega
theorem or0_32 (y : Nat) (h : y < 256) : bits .or .u32 0 (y : Int) = y := by
  have := u32_or_nat 0 y (by omega) (by omega)
  simpa using this
theorem or0_16 (y : Nat) (h : y < 256) : bits .or .u16 0 (y : Int) = y := by
  have := u16_or_nat 0 y (by omega) (by omega)
  simpa using this
theorem val32 (a b c d : Nat) (ha : a < 256) (hb : b < 256) (hc : c < 256) (hd : d < 256) :
    bits .or .u32 (bits .or .u32 (bits .or .u32 (bits .or .u32 0 (d : Int) * 256 % 4294967296) c * 256 % 4294967296) b * 256 % 4294967296) a = ((a + 256 * b + 65536 * c + 16777216 * d : Nat) : Int) := by
  rw [or0_32 d hd, join32 d c (by omega) (by omega) (by omega) (by omega), join32 _ b (by omega) (by omega) (by omega) (by omega), join32 _ a (by omega) (by omega) (by omega) (by omega)]
  omega
theorem val16 (a b : Nat) (ha : a < 256) (hb : b < 256) :
    bits .or .u16 (bits .or .u16 0 (b : Int) * 256 % 65536) a = ((a + 256 * b : Nat) : Int) := by
  rw [or0_16 b hb, join16 b a (by omega) (by omega) (by omega) (by omega)]
  omega

end Go.Proofs.Ytkolpdllogpklaa
