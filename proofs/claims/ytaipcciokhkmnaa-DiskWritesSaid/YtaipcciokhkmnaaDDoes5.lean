import Derived.Test.YtaipcciokhkmnaaDDoes4
namespace Go.Proofs.Ytaipcciokhkmnaa
open Go.RowKit

section
variable {D : World → Addr → DS → Av → Prop}
theorem does_any (hD : DiskSays D) (w : World) (a : Addr) (b : Nat) (s : DS) (G : Av) (kind f km kc : Nat) (p : Int) (K : Option Addr) (kl : List Bool) (hT : Both D w a b s s G) (hG : ∀ i, G i → i < w.heap.size) (ha : s.acts < 1000000) (hk : kind < 256) (hf : f < 4294967296) (hp : p ≤ 9223372036854775807) (hkm : km = kl.length) (hK : Bools w K kl) (hKG : 0 < kl.length → ∀ g o, K = some ⟨g, o, none⟩ → G g) (h8 : km ≤ 140737488355328) :
    Calls Try.prog 16 #[.pointer (some a), .pointer (some ⟨b, 0, none⟩), .agg #[.int .u8 (kind : Int), .int .i64 p, .int .u32 (f : Int), .slice K km kc]] w fun e w' => e = .returned (.bool true) ∧ (∃ s' : DS, Both D w' a b s' s' G ∧ s'.acts ≤ s.acts + 1) ∧ Keep G w w' := by
  by_cases q4 : kind % 8 = 4
  · exact (does4 hD w a b s G kind f km kc p K hT hG ha hk q4).mono fun e w' ⟨h1, h2, h3⟩ => ⟨h1, ⟨_, h2, by unfold DS.flush; split <;> simp [DS.act]⟩, h3⟩
  by_cases q5 : kind % 8 = 5
  · exact (does5 hD w a b s G kind f km kc p K hT hG hk q5).mono fun e w' ⟨h1, h2, h3⟩ => ⟨h1, ⟨_, h2, by omega⟩, h3⟩
  by_cases q6 : kind % 8 = 6
  · exact (does6 hD w a b s G kind f km kc p K hT hG hk q6 hp).mono fun e w' ⟨h1, h2, h3⟩ => ⟨h1, ⟨_, h2, by show s.acts ≤ s.acts + 1; omega⟩, h3⟩
  by_cases q7 : kind % 8 = 7
  · by_cases h0 : 0 < km
    · exact (does7 hD w a b s G kind f km kc p K kl hT hG hk q7 hkm hK (hKG (by omega)) h0 h8).mono fun e w' ⟨h1, h2, h3⟩ => ⟨h1, ⟨_, h2, by show s.acts ≤ s.acts + 1; omega⟩, h3⟩
    · obtain rfl : km = 0 := by omega
      have : kl = [] := List.eq_nil_of_length_eq_zero hkm.symm
      subst this
      exact (does70 hD w a b s G kind f kc p K hT hG hk q7).mono fun e w' ⟨h1, h2, h3⟩ => ⟨h1, ⟨_, h2, by show s.acts ≤ s.acts + 1; omega⟩, h3⟩
  · exact (does8 hD w a b s G kind f km kc p K hT hG ha hk (by omega) hf).mono fun e w' ⟨h1, h2, h3⟩ => ⟨h1, ⟨_, h2, by unfold DS.write; split <;> simp [DS.act]⟩, h3⟩
end
end Go.Proofs.Ytaipcciokhkmnaa
