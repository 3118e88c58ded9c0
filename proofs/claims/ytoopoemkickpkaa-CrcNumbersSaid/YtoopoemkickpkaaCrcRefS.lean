import Derived.Test.YtoopoemkickpkaaCrcJoinSay
namespace Go.Proofs.Ytoopoemkickpkaa
open Go.RowKit CrcM

set_option maxHeartbeats 400000 in
theorem rshift_any (v : Int) (w : World) (h0 : 0 ≤ v) (h1 : v < 4294967296) :
    Calls Try.prog 8 #[.int .u32 v] w fun e w' => e = .returned (.int .u32 (sh v.toNat : Nat)) ∧ w = w' := by
  obtain ⟨x, rfl⟩ := Int.eq_ofNat_of_zero_le h0
  by_cases hb : x % 2 = 1
  · have t : ((x : Int) % 2 == 1) = true := by rw [beq_iff_eq]; omega
    have e := Lib.hid (u32_xor_nat (x / 2) 3988292384 (by omega) (by omega))
    have f : Hid (sh x = x / 2 ^^^ 3988292384) := Lib.hid (if_pos hb)
    clear hb
    go_enter Try.func8, Try.ntmps8
    go_wp2
    go_ret
    refine ⟨ret32 ?_, rfl⟩
    rw [Int.toNat_natCast, f.out]
    exact e.out
  · have t : ((x : Int) % 2 == 1) = false := by rw [beq_eq_false_iff_ne]; omega
    have f : Hid (sh x = x / 2) := Lib.hid (if_neg hb)
    clear hb
    go_enter Try.func8, Try.ntmps8
    go_wp2
    go_ret
    refine ⟨ret32 ?_, rfl⟩
    rw [Int.toNat_natCast, f.out]
    omega

end Go.Proofs.Ytoopoemkickpkaa
