import Derived.Test.YtkolpdllogpklaaCaP
import Derived.Test.YtkolpdllogpklaaCaF
namespace Go.Proofs.Ytkolpdllogpklaa
open Go.RowKit Go.Maps

/-! The laws' own helpers. -/
theorem in_take_succ {l : List Int} {k : Nat} {x b : Int} (h : l[k]? = some x) : b ∈ l.take (k + 1) ↔ b ∈ l.take k ∨ b = x := by
  obtain ⟨hk, rfl⟩ := List.getElem?_eq_some_iff.1 h
  rw [List.take_succ_eq_append_getElem hk, List.mem_append, List.mem_singleton]
theorem has_any (A : Option Addr) (n cp : Nat) (l : List Int) (b : Int) (w : World) (hn : n = l.length) (hc : n ≤ 1000000) (hA : IntsAt w A l) : Calls Try.prog 29 #[.slice A n cp, .int .i64 b] w fun e w' => e = .returned (.bool (decide (b ∈ l))) ∧ w' = w := by
  have HA := Lib.hid hA
  have HN := Lib.hid hn
  have j0 : (n : Int) ≤ 1000000 := by omega
  clear hA hn
  go_enter Try.func29, Try.ntmps29
  go_wp2
  go_loopw [5] (fun i wr => ∃ k : Nat, k ≤ n ∧ i = .int .i64 k ∧ wr = w ∧ Hid (b ∉ l.take k)) (fun i _ => n - (intOf i).toNat)
  case atStart => exact ⟨0, Nat.zero_le _, rfl, rfl, Lib.hid (by simp)⟩
  case round =>
    obtain ⟨k, hk, rfl, rfl, HB⟩ := hrel
    by_cases hlt : k < n
    · obtain ⟨g, o, rfl, _, hcell⟩ := HA.out (by rw [← HN.out]; omega)
      obtain ⟨x, hx⟩ : ∃ x, l[k]? = some x := ⟨_, List.getElem?_eq_getElem (by rw [← HN.out]; exact hlt)⟩
      have c1 := hcell k x hx
      have j1 : (0 : Int) ≤ k := by omega
      have j2 : (k : Int) < n := by omega
      have IT := Lib.hid (in_take_succ (b := b) hx)
      have HX := Lib.hid hx
      clear hcell hx
      by_cases e : x = b
      · have t0 : decide (x = b) = true := decide_eq_true e
        have t1 : (x == b) = true := by simp [e]
        have IN : Hid (b ∈ l) := Lib.hid (e ▸ List.mem_of_getElem? HX.out)
        clear e
        go_wp2
        go_ret
        exact ⟨by rw [decide_eq_true IN.out]; rfl, rfl⟩
      · have t0 : decide (x = b) = false := decide_eq_false e
        have t1 : (x == b) = false := by simp [e]
        have NI : Hid (b ∉ l.take (k + 1)) := Lib.hid fun q => (IT.out.1 q).elim HB.out fun q => e q.symm
        clear e
        go_wp2
        go_roundw
        case rel => exact ⟨k + 1, by omega, by go_num, by trivial, NI⟩
        case measure => simp [intOf]; omega
    · obtain rfl : k = n := by omega
      have NI : Hid (b ∉ l) := Lib.hid (by have := HB.out; rwa [HN.out, List.take_length] at this)
      go_wp2
      go_ret
      exact ⟨by rw [decide_eq_false NI.out]; rfl, rfl⟩
theorem same_true11 (A B : Option Addr) (n cp dp : Nat) (l : List Int) (w : World) (hn : n = l.length) (hc : n ≤ 1000000) (hA : IntsAt w A l) (hB : IntsAt w B l) : Calls Try.prog 31 #[.slice A n cp, .slice B n dp] w fun e w' => e = .returned (.bool true) ∧ Below w.heap.size w w' := by
  have HA := Lib.hid hA
  have HB := Lib.hid hB
  have HN := Lib.hid hn
  have j0 : (n : Int) ≤ 1000000 := by omega
  clear hA hB hn
  go_enter Try.func31, Try.ntmps31
  go_wp2
  go_loopw [5] (fun i wr => ∃ k : Nat, k ≤ n ∧ i = .int .i64 k ∧ Hid (Below w.heap.size w wr)) (fun i _ => n - (intOf i).toNat)
  case atStart => exact ⟨0, Nat.zero_le _, rfl, Lib.hid (Below.refl _ _)⟩
  case round =>
    obtain ⟨k, hk, rfl, BW⟩ := hrel
    by_cases hlt : k < n
    · obtain ⟨g, o, rfl, _, hcell⟩ := HA.out.below BW.out (by rw [← HN.out]; omega)
      obtain ⟨g2, o2, rfl, _, hcell2⟩ := HB.out.below BW.out (by rw [← HN.out]; omega)
      obtain ⟨x, hx⟩ : ∃ x, l[k]? = some x := ⟨_, List.getElem?_eq_getElem (by rw [← HN.out]; exact hlt)⟩
      have c1 := hcell k x hx
      have c2 := hcell2 k x hx
      have j1 : (0 : Int) ≤ k := by omega
      have j2 : (k : Int) < n := by omega
      clear hcell hcell2 hx
      go_wp2
      go_quiet (fail)
      go_wp2
      go_roundw
      case rel => exact ⟨k + 1, by omega, by go_num, Lib.hid (BW.out.trans ⟨rfl, rfl, rfl, Nat.le_refl _, fun _ _ => rfl⟩)⟩
      case measure => simp [intOf]; omega
    · obtain rfl : k = n := by omega
      go_wp2
      go_ret
      exact ⟨rfl, BW.out⟩
end Go.Proofs.Ytkolpdllogpklaa
