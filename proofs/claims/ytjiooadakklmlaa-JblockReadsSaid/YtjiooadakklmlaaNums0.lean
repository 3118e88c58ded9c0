import Derived.Test.YtjiooadakklmlaaRows
import Derived.WalkKit
import Derived.WalkSpells
import Derived.WalkLawsBesides
import Derived.Lib.Hide
namespace Go.Proofs.Ytjiooadakklmlaa
open Go.RowKit

set_option maxRecDepth 100000 in
set_option maxHeartbeats 400000 in
theorem len32_a (w : World) :
    Calls Try.prog 70 #[.int .u32 4294967295] w fun e w' => e = .returned (.int .i64 32) ∧ w = w' := by
  go_enter Try.func70, Try.ntmps70
  go_wp2
  go_ret
  exact ⟨congrArg Ending.returned (congrArg (Value.int IntKind.i64) (by kernel_rfl)), rfl⟩

set_option maxRecDepth 100000 in
set_option maxHeartbeats 400000 in
theorem len32_b (w : World) :
    Calls Try.prog 70 #[.int .u32 65535] w fun e w' => e = .returned (.int .i64 16) ∧ w = w' := by
  go_enter Try.func70, Try.ntmps70
  go_wp2
  go_ret
  exact ⟨congrArg Ending.returned (congrArg (Value.int IntKind.i64) (by kernel_rfl)), rfl⟩

set_option maxHeartbeats 400000 in
theorem w32_any (w : World) :
    Calls Try.prog 68 #[] w fun e w' => e = .returned (.int .i64 4) ∧ w = w' := by
  go_enter Try.func68, Try.ntmps68
  go_wp2_with (go_at_call 70; refine (len32_a _).mono ?_; rintro e w' ⟨rfl, rfl⟩)
  go_ret
  exact ⟨rfl, rfl⟩

set_option maxHeartbeats 400000 in
theorem within_yes (A : Option Addr) (n c : Nat) (at_ k : Int) (w : World) (hn : n ≤ 140737488355328) (hk : 0 ≤ k) (hk8 : k ≤ 8) (h0 : 0 ≤ at_) (h1 : at_ ≤ n - k) :
    Calls Try.prog 69 #[.slice A n c, .int .i64 at_, .int .i64 k] w fun e w' => e = .returned (.bool true) ∧ w = w' := by
  go_enter Try.func69, Try.ntmps69
  go_wp2
  go_ret
  exact ⟨rfl, rfl⟩

set_option maxHeartbeats 400000 in
theorem within_no (A : Option Addr) (n c : Nat) (at_ k : Int) (w : World) (hn : n ≤ 140737488355328) (hk : 0 ≤ k) (hk8 : k ≤ 8) (h : at_ < 0 ∨ n - k < at_) :
    Calls Try.prog 69 #[.slice A n c, .int .i64 at_, .int .i64 k] w fun e w' => e = .returned (.bool false) ∧ w = w' := by
  by_cases h0 : at_ < 0
  · clear h
    go_enter Try.func69, Try.ntmps69
    go_wp2
    go_ret
    exact ⟨rfl, rfl⟩
  · have h1 : n - k < at_ := by omega
    have h0' : 0 ≤ at_ := by omega
    have hd : decide (at_ ≤ (n : Int) - k) = false := by simp; omega
    clear h h0
    go_enter Try.func69, Try.ntmps69
    go_wp2
    go_ret
    exact ⟨rfl, rfl⟩

end Go.Proofs.Ytjiooadakklmlaa
