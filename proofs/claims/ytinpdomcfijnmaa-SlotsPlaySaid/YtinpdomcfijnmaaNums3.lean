import Derived.Test.YtinpdomcfijnmaaNums1
import Derived.Test.YtinpdomcfijnmaaNums2
import Derived.Deep.QuietTactic
import Derived.BigQuiet
namespace Go.Proofs.Ytinpdomcfijnmaa
open Go.RowKit

set_option maxHeartbeats 400000 in
theorem Get32_yes (A : Option Addr) (n c : Nat) (at_ : Int) (f : Nat → Nat) (w : World) (hn : n ≤ 140737488355328) (hR : Row w A n f) (h0 : 0 ≤ at_) (h1 : at_ ≤ n - 4) :
    Calls Try.prog 38 #[.slice A n c, .int .i64 at_] w fun e w' => e = .returned (.tuple #[.int .u32 (g32 f at_.toNat : Nat), .bool true]) ∧ w = w' := by
  have H := Lib.hid hR
  clear hR
  go_enter Try.func38, Try.ntmps38
  go_wp2_with (go_at_call 41; refine (get32_yes _ _ _ _ _ _ hn H.out h0 h1).mono ?_; rintro e w' ⟨rfl, rfl⟩)
  go_ret2
  exact ⟨rfl, rfl⟩
set_option maxHeartbeats 400000 in
theorem Get32_no (A : Option Addr) (n c : Nat) (at_ : Int) (w : World) (hn : n ≤ 140737488355328) (h : at_ < 0 ∨ (n : Int) - 4 < at_) :
    Calls Try.prog 38 #[.slice A n c, .int .i64 at_] w fun e w' => e = .returned (.tuple #[.int .u32 0, .bool false]) ∧ w = w' := by
  have H := Lib.hid h
  clear h
  go_enter Try.func38, Try.ntmps38
  go_wp2_with (go_at_call 41; refine (get32_no _ _ _ _ _ hn H.out).mono ?_; rintro e w' ⟨rfl, rfl⟩)
  go_ret2
  exact ⟨rfl, rfl⟩
set_option maxHeartbeats 400000 in
theorem Put32_yes (A : Option Addr) (n c N base : Nat) (at_ v : Int) (f : Nat → Nat) (w : World) (hn : n ≤ 140737488355328) (hN : n ≤ N) (hR : Own w base A N f) (h0 : 0 ≤ at_) (h1 : at_ ≤ n - 4) (hv0 : 0 ≤ v) (hv1 : v < 4294967296) :
    Calls Try.prog 36 #[.slice A n c, .int .i64 at_, .int .u32 v] w fun e w' => e = .returned (.bool true) ∧ Own w' base A N (p32 f at_.toNat v.toNat) ∧ ∀ g o, A = some ⟨g, o, none⟩ → Only g w w' := by
  have H := Lib.hid hR
  clear hR
  go_enter Try.func36, Try.ntmps36
  go_wp2_with (go_at_call 40; refine (put32_yes _ _ _ _ _ _ _ _ _ hn hN H.out h0 h1 hv0 hv1).mono ?_; rintro e w' ⟨rfl, hq⟩; have Hq := Lib.hid hq; clear hq)
  go_ret
  exact ⟨rfl, Hq.out⟩
set_option maxHeartbeats 400000 in
theorem Put32_no (A : Option Addr) (n c : Nat) (at_ v : Int) (w : World) (hn : n ≤ 140737488355328) (h : at_ < 0 ∨ (n : Int) - 4 < at_) :
    Calls Try.prog 36 #[.slice A n c, .int .i64 at_, .int .u32 v] w fun e w' => e = .returned (.bool false) ∧ w = w' := by
  have H := Lib.hid h
  clear h
  go_enter Try.func36, Try.ntmps36
  go_wp2_with (go_at_call 40; refine (put32_no _ _ _ _ _ _ hn H.out).mono ?_; rintro e w' ⟨rfl, rfl⟩)
  go_ret
  exact ⟨rfl, rfl⟩
set_option maxHeartbeats 400000 in
theorem Zero_yes (A : Option Addr) (n c : Nat) (f : Nat → Nat) (w : World) (hn : n ≤ 140737488355328) (hR : Row w A n f) (hz : ∀ i, i < n → f i = 0) :
    Calls Try.prog 37 #[.slice A n c] w fun e w' => e = .returned (.bool true) ∧ w = w' := by
  have H := Lib.hid hR
  have Z := Lib.hid hz
  clear hR hz
  go_enter Try.func37, Try.ntmps37
  go_wp2
  go_loop [7] (fun i => ∃ k : Nat, k ≤ n ∧ i = .int .i64 k) (fun i => n - (intOf i).toNat)
  case atStart => exact ⟨0, Nat.zero_le _, rfl⟩
  case round =>
    obtain ⟨k, hk, rfl⟩ := hrel
    by_cases hlt : k < n
    · obtain ⟨b, o, rfl, _, hc⟩ := H.out.2 (by omega)
      have ck := hc k hlt
      rw [Z.out k hlt] at ck
      clear hc
      go_wp2
      go_round
      case rel => exact ⟨k + 1, by omega, by go_num⟩
      case measure => simp [intOf]; omega
    · go_wp2
      go_ret
      exact ⟨rfl, rfl⟩

set_option maxHeartbeats 400000 in
theorem Zero_no (A : Option Addr) (n c : Nat) (f : Nat → Nat) (w : World) (j : Nat) (hn : n ≤ 140737488355328) (hR : Row w A n f) (hj : j < n) (hz : 0 < f j) :
    Calls Try.prog 37 #[.slice A n c] w fun e w' => e = .returned (.bool false) ∧ w = w' := by
  obtain ⟨b, o, rfl, _, hc⟩ := hR.2 (by omega)
  have H := Lib.hid hc
  have Z := Lib.hid hz
  clear hR hz hc
  go_enter Try.func37, Try.ntmps37
  go_wp2
  go_loop [7] (fun i => ∃ k : Nat, k ≤ j ∧ i = .int .i64 k) (fun i => n - (intOf i).toNat)
  case atStart => exact ⟨0, Nat.zero_le _, rfl⟩
  case round =>
    obtain ⟨k, hk, rfl⟩ := hrel
    have ck := H.out k (by omega)
    by_cases hlt : f k = 0
    · have hkj : k < j := by
        rcases Nat.lt_or_ge k j with h | h
        · exact h
        · have : k = j := by omega
          subst this
          have := Z.out
          omega
      rw [hlt] at ck
      clear hlt
      go_wp2
      go_round
      case rel => exact ⟨k + 1, by omega, by go_num⟩
      case measure => simp [intOf]; omega
    · have hp : 0 < f k := by omega
      clear hlt
      go_wp2
      go_ret
      exact ⟨rfl, rfl⟩

end Go.Proofs.Ytinpdomcfijnmaa
