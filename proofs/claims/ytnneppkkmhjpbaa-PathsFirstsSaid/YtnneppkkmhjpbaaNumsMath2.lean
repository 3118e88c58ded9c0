import Derived.Test.YtnneppkkmhjpbaaNumsOwn
namespace Go.Proofs.Ytnneppkkmhjpbaa
open Go.RowKit

/-! What was put, got: plain numbers. -/
theorem p32_at (f : Nat → Nat) (a v i : Nat) : p32 f a v i = if i = a + 3 then v / 16777216 % 256 else if i = a + 2 then v / 65536 % 256 else if i = a + 1 then v / 256 % 256 else if i = a then v % 256 else f i := rfl
theorem p16_at (f : Nat → Nat) (a v i : Nat) : p16 f a v i = if i = a + 1 then v / 256 % 256 else if i = a then v % 256 else f i := rfl
theorem p32_0 (f : Nat → Nat) (a v : Nat) : p32 f a v a = v % 256 := by rw [p32_at, if_neg (by omega), if_neg (by omega), if_neg (by omega), if_pos rfl]
theorem p32_1 (f : Nat → Nat) (a v : Nat) : p32 f a v (a + 1) = v / 256 % 256 := by rw [p32_at, if_neg (by omega), if_neg (by omega), if_pos rfl]
theorem p32_2 (f : Nat → Nat) (a v : Nat) : p32 f a v (a + 2) = v / 65536 % 256 := by rw [p32_at, if_neg (by omega), if_pos rfl]
theorem p32_3 (f : Nat → Nat) (a v : Nat) : p32 f a v (a + 3) = v / 16777216 % 256 := by rw [p32_at, if_pos rfl]
theorem p32_off (f : Nat → Nat) (a v i : Nat) (h : i < a ∨ a + 4 ≤ i) : p32 f a v i = f i := by
  rw [p32_at, if_neg (by omega), if_neg (by omega), if_neg (by omega), if_neg (by omega)]
theorem p16_off (f : Nat → Nat) (a v i : Nat) (h : i < a ∨ a + 2 ≤ i) : p16 f a v i = f i := by
  rw [p16_at, if_neg (by omega), if_neg (by omega)]
theorem g32_p32 (f : Nat → Nat) (a v : Nat) (hv : v < 4294967296) : g32 (p32 f a v) a = v := by
  rw [g32, p32_0, p32_1, p32_2, p32_3]; omega
theorem g16_p32_low (f : Nat → Nat) (a v : Nat) : g16 (p32 f a v) a = v % 65536 := by
  rw [g16, p32_0, p32_1]; omega
theorem g16_p32_high (f : Nat → Nat) (a v : Nat) (hv : v < 4294967296) : g16 (p32 f a v) (a + 2) = v / 65536 := by
  rw [g16, p32_2, show a + 2 + 1 = a + 3 from rfl, p32_3]; omega
theorem put_back (f : Nat → Nat) (hf : ∀ i, f i < 256) (a v i : Nat) : p16 (p16 (p32 f a v) a (g32 f a % 65536)) (a + 2) (g32 f a / 65536) i = f i := by
  have h0 := hf a
  have h1 := hf (a + 1)
  have h2 := hf (a + 2)
  have h3 := hf (a + 3)
  rw [p16_at]
  by_cases e3 : i = a + 2 + 1
  · rw [if_pos e3, e3, show a + 2 + 1 = a + 3 from rfl]; unfold g32; omega
  rw [if_neg e3]
  by_cases e2 : i = a + 2
  · rw [if_pos e2, e2]; unfold g32; omega
  rw [if_neg e2, p16_at]
  by_cases e1 : i = a + 1
  · rw [if_pos e1, e1]; unfold g32; omega
  rw [if_neg e1]
  by_cases e0 : i = a
  · rw [if_pos e0, e0]; unfold g32; omega
  rw [if_neg e0]
  exact p32_off f a v i (by omega)

theorem g16_lt {f : Nat → Nat} (hf : ∀ i, f i < 256) (a : Nat) : g16 f a < 65536 := by
  have := hf a; have := hf (a + 1); unfold g16; omega
theorem g32_lt {f : Nat → Nat} (hf : ∀ i, f i < 256) (a : Nat) : g32 f a < 4294967296 := by
  have := hf a; have := hf (a + 1); have := hf (a + 2); have := hf (a + 3); unfold g32; omega
theorem g32_halves (f : Nat → Nat) (a : Nat) : ((g32 f a : Nat) : Int) = (g16 f a : Nat) + 65536 * (g16 f (a + 2) : Nat) := by
  unfold g32 g16
  rw [show a + 2 + 1 = a + 3 from rfl]
  omega

theorem _root_.Go.RowKit.Below.drewN {B : Nat} {a w : World} (h : Below B a w) (k : Nat) : Below B a (w.drewN k) := ⟨h.os, h.tape, h.output, h.size, h.block⟩
theorem Own.only_below {w w' : World} {base N B : Nat} {A : Option Addr} {f : Nat → Nat} (h : Own w base A N f) (hN : 0 < N) (hO : ∀ g o, A = some ⟨g, o, none⟩ → Only g w w') (hB : B ≤ base) (hs : B ≤ w.heap.size) : Below B w w' := by
  obtain ⟨g, o, e, hb, _⟩ := h.2 hN
  exact (hO g o e).below (by omega) hs
theorem Row.cut {w : World} {A : Option Addr} {n : Nat} {f : Nat → Nat} (h : Row w A n f) {k : Nat} (hk : k ≤ n) : Row w A k f :=
  ⟨h.1, fun h0 => by
    obtain ⟨b, o, e, hb, hc⟩ := h.2 (by omega)
    exact ⟨b, o, e, hb, fun i hi => hc i (by omega)⟩⟩
theorem Row.from {w : World} {A A' : Option Addr} {n : Nat} {f : Nat → Nat} (h : Row w A n f) {k : Nat} (hA : k < n → ∀ b o, A = some ⟨b, o, none⟩ → A' = some ⟨b, o + k, none⟩) : Row w A' (n - k) (fun i => f (k + i)) :=
  ⟨fun i => h.1 _, fun h0 => by
    obtain ⟨b, o, e, hb, hc⟩ := h.2 (by omega)
    exact ⟨b, o + k, hA (by omega) b o e, hb, fun i hi => by rw [Nat.add_assoc]; exact hc (k + i) (by omega)⟩⟩
theorem Row.same {w : World} {A : Option Addr} {n : Nat} {f g : Nat → Nat} (h : Row w A n f) (hg : ∀ i, g i < 256) (e : ∀ i, i < n → f i = g i) : Row w A n g :=
  ⟨hg, fun h0 => by
    obtain ⟨b, o, eA, hb, hc⟩ := h.2 h0
    exact ⟨b, o, eA, hb, fun i hi => by rw [← e i hi]; exact hc i hi⟩⟩

end Go.Proofs.Ytnneppkkmhjpbaa
