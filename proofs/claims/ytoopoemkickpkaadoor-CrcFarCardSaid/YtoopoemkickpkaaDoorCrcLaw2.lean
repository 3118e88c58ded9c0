import Derived.Test.YtoopoemkickpkaaDoorCrcLaw1
namespace Go.Proofs.YtoopoemkickpkaaDoor
open Go.RowKit CrcM

theorem joinZ_far {a b n m : Int} (hn : 0 ≤ n) (hm : 0 ≤ m) : joinZ a b (n + m) = joinZ (joinZ a 0 n) b m := by
  rw [joinZ_at (by omega), joinZ_at hn, joinZ_at hm, Int.toNat_natCast, Int.toNat_add hn hm, join_far]
  rfl
theorem joinZ_zero {b n : Int} (hn : 0 ≤ n) (hb : 0 ≤ b) : joinZ 0 b n = b := by
  rw [joinZ_at hn, show (0 : Int).toNat = 0 from rfl, join_zero]
  omega

set_option maxRecDepth 100000 in
set_option maxHeartbeats 1000000 in
theorem crcFar_any (hS : SumSays) (hJ : JoinSays) (a b n m : Int) (w : World) (hE : Env w) (ha : 0 ≤ a ∧ a < 4294967296) (hb : 0 ≤ b ∧ b < 4294967296) (hn : -9223372036854775808 ≤ n ∧ n ≤ 9223372036854775807) (hm : -9223372036854775808 ≤ m ∧ m ≤ 9223372036854775807) :
    Calls Tryd.prog 5 #[.int .u32 a, .int .u32 b, .int .i64 n, .int .i64 m] w fun e w' => e = .returned (.bool true) ∧ Below w.heap.size w w' := by
  have HE := Lib.hid hE
  clear hE
  have HS := Lib.hid hS
  have HJ := Lib.hid hJ
  have HA := Lib.hid ha
  have HB := Lib.hid hb
  have HN := Lib.hid hn
  have HM := Lib.hid hm
  clear hS hJ ha hb hn hm
  by_cases h1 : n < 0
  · by_cases h2 : n ≤ m
    · have e : Hid (joinZ a b n = 0) := Lib.hid (joinZ_neg h1)
      go_enter Tryd.func5, Tryd.ntmps5
      go_wp2_with fail
      refine (crcAwake_any HS.out HJ.out _ HE.out).mono ?_
      rintro e1 w1 ⟨rfl, hb⟩
      have B1 := Lib.hid hb
      clear hb
      go_wp2_with fail
      refine (HJ.out _ _ _ _ HA.out.1 HA.out.2 HB.out.1 HB.out.2 HN.out.1 HN.out.2).mono ?_
      rintro e2 w2 ⟨rfl, hb⟩
      have B2 := Lib.hid (B1.out.trans (hb.mono B1.out.size))
      clear hb
      rw [e.out]
      go_wp2_with fail
      go_ret
      exact ⟨rfl, B2.out⟩
    · have h3 : m < n := by omega
      have e : Hid (joinZ a b m = 0) := Lib.hid (joinZ_neg (by omega))
      clear h2
      go_enter Tryd.func5, Tryd.ntmps5
      go_wp2_with fail
      refine (crcAwake_any HS.out HJ.out _ HE.out).mono ?_
      rintro e1 w1 ⟨rfl, hb⟩
      have B1 := Lib.hid hb
      clear hb
      go_wp2_with fail
      refine (HJ.out _ _ _ _ HA.out.1 HA.out.2 HB.out.1 HB.out.2 HM.out.1 HM.out.2).mono ?_
      rintro e2 w2 ⟨rfl, hb⟩
      have B2 := Lib.hid (B1.out.trans (hb.mono B1.out.size))
      clear hb
      rw [e.out]
      go_wp2_with fail
      go_ret
      exact ⟨rfl, B2.out⟩
  have d1 : decide (n < 0) = false := by simp; omega
  by_cases h2 : m < 0
  · have h3 : m < n := by omega
    have e : Hid (joinZ a b m = 0) := Lib.hid (joinZ_neg h2)
    clear h1
    go_enter Tryd.func5, Tryd.ntmps5
    go_wp2_with fail
    refine (crcAwake_any HS.out HJ.out _ HE.out).mono ?_
    rintro e1 w1 ⟨rfl, hb⟩
    have B1 := Lib.hid hb
    clear hb
    go_wp2_with fail
    refine (HJ.out _ _ _ _ HA.out.1 HA.out.2 HB.out.1 HB.out.2 HM.out.1 HM.out.2).mono ?_
    rintro e2 w2 ⟨rfl, hb⟩
    have B2 := Lib.hid (B1.out.trans (hb.mono B1.out.size))
    clear hb
    rw [e.out]
    go_wp2_with fail
    go_ret
    exact ⟨rfl, B2.out⟩
  have d2 : decide (m < 0) = false := by simp; omega
  have n0 : 0 ≤ n := by omega
  have m0 : 0 ≤ m := by omega
  clear h1 h2
  by_cases h3 : 2305843009213693952 < n
  · have d3 : decide ((2305843009213693952 : Int) < n) = true := by simp; omega
    go_enter Tryd.func5, Tryd.ntmps5
    go_wp2_with fail
    refine (crcAwake_any HS.out HJ.out _ HE.out).mono ?_
    rintro e1 w1 ⟨rfl, hb⟩
    have B1 := Lib.hid hb
    clear hb
    go_wp2_with fail
    go_ret
    exact ⟨rfl, B1.out⟩
  have d3 : decide ((2305843009213693952 : Int) < n) = false := by simp; omega
  by_cases h4 : 2305843009213693952 < m
  · have d4 : decide ((2305843009213693952 : Int) < m) = true := by simp; omega
    go_enter Tryd.func5, Tryd.ntmps5
    go_wp2_with fail
    refine (crcAwake_any HS.out HJ.out _ HE.out).mono ?_
    rintro e1 w1 ⟨rfl, hb⟩
    have B1 := Lib.hid hb
    clear hb
    go_wp2_with fail
    go_ret
    exact ⟨rfl, B1.out⟩
  have d4 : decide ((2305843009213693952 : Int) < m) = false := by simp; omega
  have hsum : n + m ≤ 4611686018427387904 := by omega
  have E1 := Lib.hid (joinZ_far (a := a) (b := b) n0 m0)
  have E2 := Lib.hid (joinZ_zero (n := n) n0 HB.out.1)
  have R := Lib.hid (joinZ_range (n := n) (a := a) (b := 0) HA.out.2 (by omega))
  clear h3 h4
  go_enter Tryd.func5, Tryd.ntmps5
  go_wp2_with fail
  refine (crcAwake_any HS.out HJ.out _ HE.out).mono ?_
  rintro e1 w1 ⟨rfl, hb⟩
  have B1 := Lib.hid hb
  clear hb
  go_wp2_with fail
  refine (HJ.out _ _ _ _ HA.out.1 HA.out.2 HB.out.1 HB.out.2 (by omega) (by omega)).mono ?_
  rintro e2 w2 ⟨rfl, hb⟩
  have B2 := Lib.hid (B1.out.trans (hb.mono B1.out.size))
  clear hb
  rw [E1.out]
  go_wp2_with fail
  refine (HJ.out _ _ _ _ HA.out.1 HA.out.2 (by omega) (by omega) HN.out.1 HN.out.2).mono ?_
  rintro e3 w3 ⟨rfl, hb⟩
  have B3 := Lib.hid (B2.out.trans (hb.mono B2.out.size))
  clear hb
  go_wp2_with fail
  refine (HJ.out _ _ _ _ R.out.1 R.out.2 HB.out.1 HB.out.2 HM.out.1 HM.out.2).mono ?_
  rintro e4 w4 ⟨rfl, hb⟩
  have B4 := Lib.hid (B3.out.trans (hb.mono B3.out.size))
  clear hb
  go_wp2_with fail
  refine (HJ.out 0 _ _ _ (by omega) (by omega) HB.out.1 HB.out.2 HN.out.1 HN.out.2).mono ?_
  rintro e5 w5 ⟨rfl, hb⟩
  have B5 := Lib.hid (B4.out.trans (hb.mono B4.out.size))
  clear hb
  rw [E2.out]
  go_wp2_with fail
  go_ret
  exact ⟨rfl, B5.out⟩

end Go.Proofs.YtoopoemkickpkaaDoor
