import Derived.Test.YtoopoemkickpkaaCrcRefJ
namespace Go.Proofs.Ytoopoemkickpkaa
open Go.RowKit CrcM

set_option maxHeartbeats 400000 in
theorem crcNumbers_any (hJ : JoinSays) (a b n : Int) (w : World) (ha : 0 ≤ a ∧ a < 4294967296) (hb : 0 ≤ b ∧ b < 4294967296) (hn : -9223372036854775808 ≤ n ∧ n ≤ 9223372036854775807) :
    Calls Try.prog 3 #[.int .u32 a, .int .u32 b, .int .i64 n] w fun e w' => e = .returned (.bool true) ∧ Below w.heap.size w w' := by
  have HJ := Lib.hid hJ
  have HA := Lib.hid ha
  have HB := Lib.hid hb
  clear hJ ha hb
  by_cases hg : 20000 < n
  · have t : decide ((20000 : Int) < n) = true := by simp; omega
    go_enter Try.func3, Try.ntmps3
    go_wp2
    go_ret
    exact ⟨rfl, Below.refl _ _⟩
  · have t : decide ((20000 : Int) < n) = false := by simp; omega
    go_enter Try.func3, Try.ntmps3
    go_wp2_with fail
    refine (HJ.out _ _ _ _ HA.out.1 HA.out.2 HB.out.1 HB.out.2 hn.1 hn.2).mono ?_
    rintro e w1 ⟨rfl, hb⟩
    have B1 := Lib.hid hb
    clear hb
    go_wp2_with fail
    refine (rJoin_any _ _ _ _ HA.out.1 HA.out.2 HB.out.1 HB.out.2 (by omega)).mono ?_
    rintro e w2 ⟨rfl, rfl⟩
    go_wp2_with fail
    go_ret
    exact ⟨rfl, B1.out⟩

end Go.Proofs.Ytoopoemkickpkaa
