import Derived.Test.YtoopoemkickpkaaCrcRefS
namespace Go.Proofs.Ytoopoemkickpkaa
open Go.RowKit CrcM

set_option maxHeartbeats 400000 in
theorem rJoin_any (a b n : Int) (w : World) (ha0 : 0 ≤ a) (ha1 : a < 4294967296) (hb0 : 0 ≤ b) (hb1 : b < 4294967296) (hn : n ≤ 20000) :
    Calls Try.prog 5 #[.int .u32 a, .int .u32 b, .int .i64 n] w fun e w' => e = .returned (.int .u32 (joinZ a b n)) ∧ w = w' := by
  by_cases hneg : n < 0
  · have e : Hid (joinZ a b n = 0) := Lib.hid (if_pos hneg)
    go_enter Try.func5, Try.ntmps5
    go_wp2
    go_ret
    exact ⟨ret32 e.out.symm, rfl⟩
  obtain ⟨m, rfl⟩ := Int.eq_ofNat_of_zero_le (show 0 ≤ n by omega)
  have e : Hid (joinZ a b m = ((shN (8 * m) a.toNat ^^^ b.toNat : Nat) : Int)) := Lib.hid (by unfold joinZ join; rw [if_neg hneg]; simp)
  have ea : Hid (((shN 0 a.toNat : Nat) : Int) = a) := Lib.hid (Int.toNat_of_nonneg ha0)
  have la : a.toNat < 4294967296 := by omega
  have lb : b.toNat < 4294967296 := by omega
  have LA := Lib.hid la
  have LB := Lib.hid lb
  have EB := Lib.hid (Int.toNat_of_nonneg hb0)
  clear hneg la lb
  go_enter Try.func5, Try.ntmps5
  go_wp2
  go_loop [0, 7] (fun v i => ∃ k : Nat, k ≤ 8 * m ∧ i = .int .i64 k ∧ v = .int .u32 ((shN k a.toNat : Nat) : Int)) (fun _ i => 8 * m - (intOf i).toNat)
  case atStart => exact ⟨0, Nat.zero_le _, rfl, by rw [ea.out]⟩
  case round =>
    obtain ⟨k, hk, rfl, rfl⟩ := hrel
    have hlt := shN_lt k LA.out
    by_cases hl : k < 8 * m
    · have t : (k : Int) < 8 * m := by omega
      go_wp2_with (go_at_call 8; refine (rshift_any _ _ (by omega) (by omega)).mono ?_; rintro e w' ⟨rfl, rfl⟩; rw [Int.toNat_natCast])
      go_round
      case rel => exact ⟨k + 1, by omega, by go_num, by rw [shN_succ']⟩
      case measure => simp [intOf]; omega
    · have hk' : k = 8 * m := by omega
      have f := Lib.hid (u32_xor_nat (shN k a.toNat) b.toNat hlt LB.out)
      have g := Lib.hid hk'
      have t : decide ((k : Int) < 8 * m) = false := by simp; omega
      clear hk' hlt
      go_wp2
      go_ret
      refine ⟨ret32 ?_, rfl⟩
      have h := f.out
      rw [EB.out] at h
      rw [e.out, ← g.out]
      exact h

end Go.Proofs.Ytoopoemkickpkaa
