import Derived.Test.YtinpdomcfijnmaaSloQ1
import Derived.Laws.StandIn
namespace Go.Proofs.Ytinpdomcfijnmaa
open Go.RowKit

/-! The landed MayName: strings.IndexByte. -/
theorem get_bang {s : ByteArray} {i : Nat} (h : i < s.size) : (s[i]!).toNat = nb s i := by rw [nb_get h, getElem!_pos s i h]
theorem firstIdx_no {s : ByteArray} {c : UInt8} (h : ∀ i, i < s.size → nb s i ≠ c.toNat) : firstIdx s c = -1 := by
  unfold firstIdx
  rw [show (List.range s.size).find? (fun i => s[i]! == c) = none from List.find?_eq_none.2 fun i hi => by
    have hi := List.mem_range.1 hi
    have := h i hi
    rw [← get_bang hi] at this
    intro q
    exact this (by rw [eq_of_beq q])]
theorem firstIdx_yes {s : ByteArray} {c : UInt8} {i : Nat} (hi : i < s.size) (h : nb s i = c.toNat) : ∃ k : Nat, firstIdx s c = k := by
  unfold firstIdx
  cases e : (List.range s.size).find? (fun i => s[i]! == c) with
  | none =>
    have := List.find?_eq_none.1 e i (List.mem_range.2 hi)
    refine absurd ?_ this
    rw [beq_iff_eq]
    exact UInt8.toNat_inj.1 (by rw [get_bang hi, h])
  | some k => exact ⟨k, rfl⟩
theorem index_runs (s : ByteArray) (c : Int) (w : World) : (callFunc 39 #[.string s, .int .u8 c]).run Try.prog w = .ok (.value (.int .i64 (firstIdx s c.toNat.toUInt8))) w := by
  rw [run_callFunc_indexByte Try.func39 (by kernel_rfl) (by kernel_rfl) (by kernel_rfl) (by kernel_rfl), run_indexByte_string]
  rfl
theorem lIndex (s : ByteArray) (c : Int) (w : World) : Calls Try.prog 35 #[.string s, .int .u8 c] w fun e w' => e = .returned (.int .i64 (firstIdx s c.toNat.toUInt8)) ∧ w' = w := by
  have hE := index_runs s c
  go_enter Try.func35, Try.ntmps35
  go_wp2
  go_ret
  exact ⟨rfl, rfl⟩
theorem sIndex (s : ByteArray) (c : Int) (w : World) : Calls Try.prog 29 #[.string s, .int .u8 c] w fun e w' => e = .returned (.int .i64 (firstIdx s c.toNat.toUInt8)) ∧ w' = w := by
  have hE := fun W => lIndex s c W
  go_enter Try.func29, Try.ntmps29
  go_wp2_with (go_at_call 35; refine (hE _).mono ?_; rintro e w' ⟨rfl, rfl⟩)
  go_ret
  exact ⟨rfl, rfl⟩
set_option maxRecDepth 100000 in
set_option maxHeartbeats 4000000 in
theorem pMayN (s : ByteArray) (w : World) :
    Calls Try.prog 15 #[.string s] w fun e w' => e = .returned (.bool (decide (MayN s))) ∧ w' = w := by
  by_cases h0 : s.size = 0
  · have m : decide (MayN s) = false := decide_eq_false fun q => by have := q.pos; omega
    have t0 : s.toList = [] := list_nil.2 h0
    rw [m]
    clear m h0
    go_enter Try.func15, Try.ntmps15
    go_wp2
    go_ret
    exact ⟨rfl, rfl⟩
  have t0 := len_nil h0
  have u0 : ¬ s.toList = [] := fun q => h0 (list_nil.1 q)
  by_cases h2 : s = ⟨#[46]⟩
  · have m : decide (MayN s) = false := decide_eq_false fun q => q.dot h2
    have t2 : s.toList = [46] := list_one.2 h2
    rw [m]
    clear m h0 h2 u0 t0
    go_enter Try.func15, Try.ntmps15
    go_wp2
    go_ret
    exact ⟨rfl, rfl⟩
  have t2 : (s.toList == [46]) = false := by rw [beq_eq_false_iff_ne]; exact fun q => h2 (list_one.1 q)
  have u2 : ¬ s.toList = [46] := fun q => h2 (list_one.1 q)
  by_cases h3 : s = ⟨#[46, 46]⟩
  · have m : decide (MayN s) = false := decide_eq_false fun q => q.dots h3
    have t3 : s.toList = [46, 46] := list_one.2 h3
    rw [m]
    clear m h0 h2 h3 u0 t0 t2 u2
    go_enter Try.func15, Try.ntmps15
    go_wp2
    go_ret
    exact ⟨rfl, rfl⟩
  have t3 : (s.toList == [46, 46]) = false := by rw [beq_eq_false_iff_ne]; exact fun q => h3 (list_one.1 q)
  have u3 : ¬ s.toList = [46, 46] := fun q => h3 (list_one.1 q)
  have M : Hid (MayN s ↔ s.size ≤ 27 ∧ NoBad s s.size) := Lib.hid ⟨fun q => ⟨q.le, q.all⟩, fun q => ⟨by omega, q.1, h2, h3, q.2⟩⟩
  clear h0 h2 h3
  by_cases h1 : s.size ≤ 27
  rotate_left
  · have t1 : decide ((s.size : Int) ≤ 27) = false := by simp; omega
    have u1 : ¬ (s.size : Int) ≤ 27 := by omega
    have m : decide (MayN s) = false := decide_eq_false fun q => h1 (M.out.1 q).1
    rw [m]
    clear m h1 M
    go_enter Try.func15, Try.ntmps15
    go_wp2
    go_ret
    exact ⟨rfl, rfl⟩
  have t1 : decide ((s.size : Int) ≤ 27) = true := by simp; omega
  have u1 : (s.size : Int) ≤ 27 := by omega
  have C := Lib.hid fun c W => sIndex s c W
  obtain ⟨r1, hr1⟩ : ∃ r1, firstIdx s (47 : Int).toNat.toUInt8 = r1 := ⟨_, rfl⟩
  obtain ⟨r2, hr2⟩ : ∃ r2, firstIdx s (0 : Int).toNat.toUInt8 = r2 := ⟨_, rfl⟩
  have C1 := Lib.hid (C.out 47)
  have C2 := Lib.hid (C.out 0)
  rw [hr1] at C1
  rw [hr2] at C2
  clear C
  by_cases b1 : ∃ i, i < s.size ∧ nb s i = 47
  · obtain ⟨i, hi, e⟩ := b1
    obtain ⟨k, hk⟩ := firstIdx_yes (c := (47 : Int).toNat.toUInt8) hi e
    have m : decide (MayN s) = false := decide_eq_false fun q => ((M.out.1 q).2 i hi).1 e
    rw [hr1] at hk
    subst hk
    have n1 : ¬ (k : Int) < 0 := by omega
    have v1 : decide ((k : Int) < 0) = false := decide_eq_false n1
    rw [m]
    clear m M hr1 hr2 C2 e h1
    go_enter Try.func15, Try.ntmps15
    go_wp2_with (go_at_call 29; with_reducible refine (C1.out _).mono ?_; rintro e w' ⟨rfl, rfl⟩)
    go_ret
    exact ⟨rfl, rfl⟩
  have e1 : r1 = -1 := by rw [← hr1]; exact firstIdx_no fun i hi e => b1 ⟨i, hi, e⟩
  subst e1
  by_cases b2 : ∃ i, i < s.size ∧ nb s i = 0
  · obtain ⟨i, hi, e⟩ := b2
    obtain ⟨k, hk⟩ := firstIdx_yes (c := (0 : Int).toNat.toUInt8) hi e
    have m : decide (MayN s) = false := decide_eq_false fun q => ((M.out.1 q).2 i hi).2 e
    rw [hr2] at hk
    subst hk
    have n1 : ¬ (k : Int) < 0 := by omega
    have v1 : decide ((k : Int) < 0) = false := decide_eq_false n1
    rw [m]
    clear m M hr1 hr2 e h1 b1
    go_enter Try.func15, Try.ntmps15
    go_wp2_with (first
      | (go_at_call 29; with_reducible refine (C1.out _).mono ?_; rintro e w' ⟨rfl, rfl⟩)
      | (go_at_call 29; with_reducible refine (C2.out _).mono ?_; rintro e w' ⟨rfl, rfl⟩))
    go_ret
    exact ⟨rfl, rfl⟩
  have e2 : r2 = -1 := by rw [← hr2]; exact firstIdx_no fun i hi e => b2 ⟨i, hi, e⟩
  subst e2
  have m : decide (MayN s) = true := decide_eq_true (M.out.2 ⟨h1, fun i hi => ⟨fun e => b1 ⟨i, hi, e⟩, fun e => b2 ⟨i, hi, e⟩⟩⟩)
  rw [m]
  clear m M hr1 hr2 h1 b1 b2
  go_enter Try.func15, Try.ntmps15
  go_wp2_with (first
    | (go_at_call 29; with_reducible refine (C1.out _).mono ?_; rintro e w' ⟨rfl, rfl⟩)
    | (go_at_call 29; with_reducible refine (C2.out _).mono ?_; rintro e w' ⟨rfl, rfl⟩))
  go_ret
  exact ⟨rfl, rfl⟩
end Go.Proofs.Ytinpdomcfijnmaa
