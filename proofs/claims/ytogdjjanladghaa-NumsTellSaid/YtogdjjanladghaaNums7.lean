import Derived.Test.YtogdjjanladghaaNums5
import Derived.Test.YtogdjjanladghaaAppend
namespace Go.Proofs.Ytogdjjanladghaa
open Go.RowKit

/-! The two readings, in one word each: the value, and whether there is one. -/
def b32 (n : Nat) (at_ : Int) : Bool := decide (0 ≤ at_ ∧ at_ ≤ n - 4)
def b16 (n : Nat) (at_ : Int) : Bool := decide (0 ≤ at_ ∧ at_ ≤ n - 2)
def v32 (n : Nat) (f : Nat → Nat) (at_ : Int) : Int := if 0 ≤ at_ ∧ at_ ≤ n - 4 then (g32 f at_.toNat : Nat) else 0
def v16 (n : Nat) (f : Nat → Nat) (at_ : Int) : Int := if 0 ≤ at_ ∧ at_ ≤ n - 2 then (g16 f at_.toNat : Nat) else 0
def zb (n : Nat) (f : Nat → Nat) : Bool := (List.range n).all fun i => f i == 0
theorem zb_yes {n : Nat} {f : Nat → Nat} (h : ∀ i, i < n → f i = 0) : zb n f = true := by
  simp only [zb, List.all_eq_true, List.mem_range, beq_iff_eq]
  exact h
theorem zb_or (n : Nat) (f : Nat → Nat) : (zb n f = true ∧ ∀ i, i < n → f i = 0) ∨ (zb n f = false ∧ ∃ j, j < n ∧ 0 < f j) := by
  by_cases h : ∀ i, i < n → f i = 0
  · exact .inl ⟨zb_yes h, h⟩
  · refine .inr ⟨?_, ?_⟩
    · rw [Bool.eq_false_iff]
      intro hz
      simp only [zb, List.all_eq_true, List.mem_range, beq_iff_eq] at hz
      exact h hz
    · obtain ⟨j, hj⟩ := Classical.not_forall.1 h
      obtain ⟨h1, h2⟩ := Classical.not_imp.1 hj
      exact ⟨j, h1, by omega⟩

section
variable (A : Option Addr) (n c : Nat) (at_ : Int) (f : Nat → Nat) (w : World) (hn : n ≤ 140737488355328) (hR : Row w A n f)
include hn hR
theorem Get32_any : Calls Try.prog 12 #[.slice A n c, .int .i64 at_] w fun e w' => e = .returned (.tuple #[.int .u32 (v32 n f at_), .bool (b32 n at_)]) ∧ w = w' := by
  by_cases h : 0 ≤ at_ ∧ at_ ≤ n - 4
  · rw [v32, b32, if_pos h, decide_eq_true h]; exact Get32_yes A n c at_ f w hn hR h.1 h.2
  · rw [v32, b32, if_neg h, decide_eq_false h]; exact Get32_no A n c at_ w hn (by omega)
theorem Get16_any : Calls Try.prog 11 #[.slice A n c, .int .i64 at_] w fun e w' => e = .returned (.tuple #[.int .u32 (v16 n f at_), .bool (b16 n at_)]) ∧ w = w' := by
  by_cases h : 0 ≤ at_ ∧ at_ ≤ n - 2
  · rw [v16, b16, if_pos h, decide_eq_true h]; exact Get16_yes A n c at_ f w hn hR h.1 h.2
  · rw [v16, b16, if_neg h, decide_eq_false h]; exact Get16_no A n c at_ w hn (by omega)
theorem rGet32_any : Calls Try.prog 14 #[.slice A n c, .int .i64 at_] w fun e w' => e = .returned (.tuple #[.int .u32 (v32 n f at_), .bool (b32 n at_)]) ∧ ∃ d, w' = w.drewN d := by
  by_cases h : 0 ≤ at_ ∧ at_ ≤ n - 4
  · rw [v32, b32, if_pos h, decide_eq_true h]; exact rGet32_yes A n c at_ f w hn hR h.1 h.2
  · rw [v32, b32, if_neg h, decide_eq_false h]; exact rGet32_no A n c at_ w hn (by omega)
theorem rGet16_any : Calls Try.prog 13 #[.slice A n c, .int .i64 at_] w fun e w' => e = .returned (.tuple #[.int .u32 (v16 n f at_), .bool (b16 n at_)]) ∧ ∃ d, w' = w.drewN d := by
  by_cases h : 0 ≤ at_ ∧ at_ ≤ n - 2
  · rw [v16, b16, if_pos h, decide_eq_true h]; exact rGet16_yes A n c at_ f w hn hR h.1 h.2
  · rw [v16, b16, if_neg h, decide_eq_false h]; exact rGet16_no A n c at_ w hn (by omega)
theorem Zero_any : Calls Try.prog 15 #[.slice A n c] w fun e w' => e = .returned (.bool (zb n f)) ∧ w = w' := by
  rcases zb_or n f with ⟨e, h⟩ | ⟨e, j, hj, h⟩
  · rw [e]; exact Zero_yes A n c f w hn hR h
  · rw [e]; exact Zero_no A n c f w j hn hR hj h
theorem rZero_any : Calls Try.prog 16 #[.slice A n c] w fun e w' => e = .returned (.bool (zb n f)) ∧ w = w' := by
  rcases zb_or n f with ⟨e, h⟩ | ⟨e, j, hj, h⟩
  · rw [e]; exact rZero_yes A n c f w hn hR h
  · rw [e]; exact rZero_no A n c f w j hn hR hj h
end

theorem u8_info : (Try.prog.info? 5).map (fun i => (i.zero, i.size, i.bytes)) = some (some (.int .u8 0), 1, 1) := by kernel_rfl

set_option maxRecDepth 100000 in
set_option maxHeartbeats 1000000 in
theorem numsGet_any (A : Option Addr) (n c : Nat) (at_ : Int) (f : Nat → Nat) (w : World) (hR : Row w A n f) (_h0 : -9223372036854775808 ≤ at_) (_h1 : at_ ≤ 9223372036854775807) :
    Calls Try.prog 3 #[.slice A n c, .int .i64 at_] w fun e w' => e = .returned (.bool true) ∧ Below w.heap.size w w' := by
  have HR := Lib.hid hR
  clear hR
  by_cases hn : 20000 < n
  · have d1 : decide ((20000 : Int) < n) = true := by simp; omega
    go_enter Try.func3, Try.ntmps3
    go_wp2
    go_ret
    exact ⟨rfl, Below.refl _ _⟩
  have d1 : decide ((20000 : Int) < n) = false := by simp; omega
  have hn' : n ≤ 140737488355328 := by omega
  obtain ⟨i0, hi0, hz0, hz1, hz2⟩ := info_parts u8_info
  go_enter Try.func3, Try.ntmps3
  go_wp2_with (at_builtin; refine at_append_nil _ rfl (.tmp 17) (.tmp 18) _ rfl 5 i0 Try.underlying22 hi0 hz0 hz1 hz2 rfl A n c f rfl HR.out (by omega) ?_; intro A' c' w1 hc1 hc2 hO hB; have HO := Lib.hid (hO.row (Nat.le_refl _)); have HB := Lib.hid hB; clear hO)
  have HR1 := Lib.hid (HR.out.below HB.out)
  refine (Get16_any _ _ _ _ f _ hn' HO.out).mono ?_
  rintro e w' ⟨rfl, rfl⟩
  go_wp2_with fail
  refine (Get32_any _ _ _ _ f _ hn' HO.out).mono ?_
  rintro e w' ⟨rfl, rfl⟩
  go_wp2_with fail
  refine (rGet16_any _ _ _ _ f _ hn' HR1.out).mono ?_
  rintro e w' ⟨rfl, d1, rfl⟩
  go_wp2_with fail
  refine (rGet32_any _ _ _ _ f _ hn' (HR1.out.drewN d1)).mono ?_
  rintro e w' ⟨rfl, d2, rfl⟩
  go_wp2_with fail
  refine (Zero_any _ _ _ f _ hn' (by exact HO.out)).mono ?_
  rintro e w' ⟨rfl, rfl⟩
  go_wp2_with fail
  refine (rZero_any _ _ _ f _ hn' (by exact HR1.out)).mono ?_
  rintro e w' ⟨rfl, rfl⟩
  go_wp2_with fail
  refine (Same_yes _ _ _ _ _ f f _ hn' (by exact HO.out) (by exact HR1.out) (fun _ _ => rfl)).mono ?_
  rintro e w' ⟨rfl, d3, rfl⟩
  go_wp2_with fail
  go_ret
  exact ⟨rfl, by exact ⟨HB.out.os, HB.out.tape, HB.out.output, HB.out.size, HB.out.block⟩⟩

end Go.Proofs.Ytogdjjanladghaa
