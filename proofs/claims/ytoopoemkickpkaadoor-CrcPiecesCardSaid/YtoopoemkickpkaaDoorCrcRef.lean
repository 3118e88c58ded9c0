import Derived.Test.YtoopoemkickpkaaDoorCrcRefS
import Derived.Test.YtoopoemkickpkaaDoorCrcSay
namespace Go.Proofs.YtoopoemkickpkaaDoor
open Go.RowKit CrcM

set_option maxHeartbeats 400000 in
theorem rSum_any (A : Option Addr) (n c : Nat) (f : Nat → Nat) (w : World) (hn : n ≤ 100000) (hR : Row w A n f) :
    Calls Tryd.prog 12 #[.slice A n c] w fun e w' => e = .returned (.int .u32 (sum f n : Nat)) ∧ w = w' := by
  have HR := Lib.hid hR
  have HF := Lib.hid hR.1
  clear hR
  go_enter Tryd.func12, Tryd.ntmps12
  go_wp2
  go_loop [3, 4] (fun v i => ∃ k : Nat, k ≤ n ∧ i = .int .i64 k ∧ v = .int .u32 ((run ff f k : Nat) : Int)) (fun _ i => n - (intOf i).toNat)
  case atStart => exact ⟨0, Nat.zero_le _, rfl, rfl⟩
  case round =>
    obtain ⟨k, hk, rfl, rfl⟩ := hrel
    have hlt := run_lt (v := ff) (by unfold ff; omega) HF.out k
    by_cases hl : k < n
    · obtain ⟨b, o, rfl, _, hc⟩ := HR.out.2 (by omega)
      have ck := hc k hl
      have bk := HF.out k
      have fx := u32_xor_nat (run ff f k) (f k) hlt (by omega)
      have hx := Nat.xor_lt_two_pow (n := 32) (show run ff f k < 2 ^ 32 by omega) (show f k < 2 ^ 32 by omega)
      have fs : Hid (run ff f (k + 1) = shN 8 (run ff f k ^^^ f k)) := Lib.hid rfl
      clear hc
      go_wp2
      have HX := Lib.hid hx
      clear hx hlt
      go_loop [3, 5] (fun v i => ∃ j : Nat, j ≤ 8 ∧ i = .int .i64 j ∧ v = .int .u32 ((shN j (run ff f k ^^^ f k) : Nat) : Int)) (fun _ i => 8 - (intOf i).toNat)
      case atStart => exact ⟨0, Nat.zero_le _, rfl, rfl⟩
      case round =>
        obtain ⟨j, hj, rfl, rfl⟩ := hrel
        have hq := shN_lt j HX.out
        by_cases hl2 : j < 8
        · go_wp2_with (go_at_call 18; refine (rshift_any _ _ (by omega) (by omega)).mono ?_; rintro e w' ⟨rfl, rfl⟩; rw [Int.toNat_natCast])
          go_round
          case rel => exact ⟨j + 1, by omega, by go_num, by rw [shN_succ']⟩
          case measure => simp [intOf]; omega
        · obtain rfl : j = 8 := by omega
          clear hq
          go_wp2
          go_round
          case rel => exact ⟨k + 1, by omega, by go_num, by rw [fs.out]⟩
          case measure => simp [intOf]; omega
    · have hk' : k = n := by omega
      have g := Lib.hid hk'
      have t : decide ((k : Int) < n) = false := by simp; omega
      have h0 : (0 : Int) ≤ 4294967295 - (run ff f k : Nat) := by omega
      have f1 := Lib.hid (show ((4294967295 : Int) - (run ff f k : Nat)) = (sum f k : Nat) by
        have h1 : sum f k = ff - run ff f k := sum_sub HF.out k
        rw [h1]
        have hle : run ff f k ≤ 4294967295 := by omega
        show ((4294967295 : Int) - (run ff f k : Nat)) = ((4294967295 - run ff f k : Nat) : Int)
        omega)
      clear hk'
      go_wp2
      go_ret
      exact ⟨ret32 (by rw [← g.out]; exact f1.out), rfl⟩

end Go.Proofs.YtoopoemkickpkaaDoor
