import Derived.Test.YtinpdomcfijnmaaSloQ2
namespace Go.Proofs.Ytinpdomcfijnmaa
open Go.RowKit

/-! The document's own Same (of bytes) and List. -/
open Classical in
noncomputable def sameB (f g : Nat → Nat) (n : Nat) : Bool := decide (∀ i, i < n → f i = g i)
theorem sameB_yes {f g : Nat → Nat} {n : Nat} (h : ∀ i, i < n → f i = g i) : sameB f g n = true := decide_eq_true h
theorem sameB_no {f g : Nat → Nat} {n k : Nat} (hk : k < n) (h : f k ≠ g k) : sameB f g n = false := decide_eq_false fun q => h (q k hk)
set_option maxRecDepth 100000 in
set_option maxHeartbeats 1000000 in
theorem rSameB (A B : Option Addr) (n c d : Nat) (f g : Nat → Nat) (w : World) (hn : n ≤ 140737488355328) (hR : Row w A n f) (hS : Row w B n g) :
    Calls Try.prog 25 #[.slice A n c, .slice B n d] w fun e w' => e = .returned (.bool (sameB f g n)) ∧ ∃ d, w' = w.drewN d := by
  have H := Lib.hid hR
  have K := Lib.hid hS
  clear hR hS
  go_enter Try.func25, Try.ntmps25
  go_wp2
  go_loopw [5] (fun i wr => (∃ k : Nat, k ≤ n ∧ i = .int .i64 k ∧ Hid (∀ j, j < k → f j = g j)) ∧ ∃ d, wr = w.drewN d) (fun i _ => n - (intOf i).toNat)
  case atStart => exact ⟨⟨0, Nat.zero_le _, rfl, Lib.hid fun j h => absurd h (Nat.not_lt_zero _)⟩, 0, rfl⟩
  case round =>
    obtain ⟨⟨k, hk, rfl, Z⟩, dd, rfl⟩ := hrel
    by_cases hlt : k < n
    · obtain ⟨b, o, rfl, _, hc⟩ := H.out.2 (by omega)
      obtain ⟨b', o', rfl, _, hc'⟩ := K.out.2 (by omega)
      have ck := hc k hlt
      have ck' := hc' k hlt
      have l1 : (0 : Int) ≤ k := by omega
      have l2 : (k : Int) < n := by omega
      by_cases e : f k = g k
      · have Z' : Hid (∀ j, j < k + 1 → f j = g j) := Lib.hid fun j hj => by
          rcases Nat.lt_or_ge j k with q | q
          · exact Z.out j q
          · rw [show j = k by omega]; exact e
        rw [e] at ck
        clear hc hc' e
        go_wp2
        go_quiet (fail)
        go_wp2
        go_roundw
        case rel => exact ⟨⟨k + 1, by omega, by go_num, Z'⟩, _, rfl⟩
        case measure => simp [intOf]; omega
      · have t : (((f k : Nat) : Int) != ((g k : Nat) : Int)) = true := by rw [bne_iff_ne]; omega
        have R := Lib.hid (sameB_no hlt e)
        clear hc hc' e
        go_wp2
        go_quiet (fail)
        go_wp2
        go_ret
        exact ⟨by rw [R.out]; rfl, _, World.drewN_drewN _ _ _⟩
    · have R := Lib.hid (sameB_yes (f := f) (g := g) (n := n) fun i hi => Z.out i (by omega))
      go_wp2
      go_ret
      exact ⟨by rw [R.out]; rfl, _, rfl⟩
end Go.Proofs.Ytinpdomcfijnmaa
