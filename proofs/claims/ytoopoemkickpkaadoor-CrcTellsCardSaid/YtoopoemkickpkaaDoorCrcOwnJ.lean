import Derived.Test.YtoopoemkickpkaaDoorCrcJoinSay
import Derived.Test.YtoopoemkickpkaaDoorCrcMul
import Derived.Deep.LoopGhost
namespace Go.Proofs.YtoopoemkickpkaaDoor
open Go.RowKit CrcM

theorem u32_bit0 (x : Nat) (h : x < 4294967296) : bits .and .u32 (x : Int) 1 = ((x % 2 : Nat) : Int) := by
  have := u32_and_nat x 1 h (by omega)
  rw [nat_mask1] at this
  exact this
theorem i64_bit0 (x : Nat) (h : x ≤ 9223372036854775807) : bits .and .i64 (x : Int) 1 = ((x % 2 : Nat) : Int) := by
  have e1 : (BitVec.ofInt 64 (x : Int) &&& BitVec.ofInt 64 1).toNat = x % 2 := by
    rw [BitVec.toNat_and, BitVec.ofInt_natCast, BitVec.toNat_ofNat, Nat.mod_eq_of_lt (show x < 2 ^ 64 by omega)]
    exact nat_mask1 x
  show IntKind.i64.wrap ((BitVec.ofInt 64 (x : Int) &&& BitVec.ofInt 64 1).toNat : Nat) = _
  rw [e1, IntKind.wrap_i64]
  omega

set_option maxRecDepth 100000 in
set_option maxHeartbeats 400000 in
theorem cshift_any (x : Nat) (w : World) (h1 : x < 4294967296) :
    Calls Tryd.prog 21 #[.int .u32 (x : Int)] w fun e w' => e = .returned (.int .u32 (sh x : Nat)) ∧ w = w' := by
  by_cases hb : x % 2 = 1
  · have t : (bits .and .u32 (x : Int) 1 == 0) = false := by rw [u32_bit0 x h1, hb]; rfl
    have e := Lib.hid (u32_xor_nat (x / 2) 3988292384 (by omega) (by omega))
    have f : Hid (sh x = x / 2 ^^^ 3988292384) := Lib.hid (if_pos hb)
    clear hb
    go_enter Tryd.func21, Tryd.ntmps21
    go_wp2
    go_ret
    refine ⟨ret32 ?_, rfl⟩
    rw [f.out]
    exact e.out
  · have t : (bits .and .u32 (x : Int) 1 == 0) = true := by rw [u32_bit0 x h1, show x % 2 = 0 by omega]; rfl
    have f : Hid (sh x = x / 2) := Lib.hid (if_neg hb)
    clear hb
    go_enter Tryd.func21, Tryd.ntmps21
    go_wp2
    go_ret
    refine ⟨ret32 ?_, rfl⟩
    rw [f.out]
    omega

set_option maxHeartbeats 1000000 in
theorem times_any (a j : Nat) (w : World) (ha : a < 4294967296) :
    Calls Tryd.prog 19 #[.int .u32 (a : Int), .int .u32 ((shN j top : Nat) : Int)] w fun e w' => e = .returned (.int .u32 ((shN j a : Nat) : Int)) ∧ w = w' := by
  have S0 := Lib.hid (times_start (j := j) ha)
  have A0 : Hid (a = 2 ^ (32 - 32) * (a % 2 ^ 32)) := Lib.hid (by rw [Nat.mod_eq_of_lt (show a < 2 ^ 32 by omega)]; omega)
  have T0 := Lib.hid (shN_lt j top_lt)
  have L0 := Lib.hid (shN_lt j ha)
  have HA := Lib.hid ha
  generalize ey : shN j top = y0
  have EY := Lib.hid ey
  clear ey
  go_enter Tryd.func19, Tryd.ntmps19
  go_wp2
  go_loopg [0, 1, 5] 32 (fun M vx vy vp wr => wr = w ∧ ∃ x y p : Nat, vx = .int .u32 (x : Int) ∧ vy = .int .u32 (y : Int) ∧ vp = .int .u32 (p : Int) ∧ M ≤ 32 ∧ x = 2 ^ (32 - M) * (a % 2 ^ M) ∧ x < 4294967296 ∧ y = shN (32 - M) (shN j top) ∧ y < 4294967296 ∧ p = shN j (a ^^^ a % 2 ^ M) ∧ p < 4294967296)
  case atStart => exact ⟨rfl, a, y0, 0, rfl, rfl, rfl, by omega, A0.out, HA.out, EY.out.symm, by rw [← EY.out]; exact T0.out, S0.out.symm, by omega⟩
  case round =>
    obtain ⟨rfl, x, y, p, rfl, rfl, rfl, hM, hx, hx1, hy, hy1, hp, hp1⟩ := hrel
    by_cases hx0 : x = 0
    · have E := Lib.hid (hp.trans (times_end (hx.symm.trans hx0)))
      subst hx0
      clear hx hy hp
      go_wp2
      go_ret
      exact ⟨ret32 (by rw [E.out]), rfl⟩
    · obtain ⟨m, rfl, e1, e2, e3⟩ := times_step hx hM hx0 hy hp
      have HX := Lib.hid e1
      have HY := Lib.hid e2
      have HP := Lib.hid e3
      have t0 : ((x : Int) == 0) = false := by rw [beq_eq_false_iff_ne]; omega
      have t0' : ((x : Int) != 0) = true := by rw [bne_iff_ne]; omega
      have fa := u32_and_nat x 2147483648 hx1 (by omega)
      rw [show x &&& 2147483648 = x / 2 ^ 31 % 2 * 2 ^ 31 from nat_bit 31 x] at fa
      have HM := Lib.hid hM
      clear hx hy hp e1 e2 e3 ha
      by_cases hb : x / 2 ^ 31 % 2 = 1
      · have tb : (bits .and .u32 (x : Int) 2147483648 != 0) = true := by
          rw [show (2147483648 : Int) = ((2147483648 : Nat) : Int) from rfl, fa, hb]; rfl
        rw [if_pos hb] at HP
        have FX := Lib.hid (u32_xor_nat p y hp1 hy1)
        have LX : Hid (p ^^^ y < 4294967296) := Lib.hid (Nat.xor_lt_two_pow (n := 32) hp1 hy1)
        have LY := Lib.hid (sh_lt hy1)
        clear hb fa
        go_wp2_with (go_at_call 21; refine (cshift_any _ _ (by omega)).mono ?_; rintro e w' ⟨rfl, rfl⟩)
        go_roundg m
        case rel => exact ⟨rfl, x * 2 % 4294967296, sh y, p ^^^ y, by rw [Int.natCast_emod]; rfl, rfl, by rw [FX.out], by have := HM.out; omega, HX.out, Nat.mod_lt _ (by omega), HY.out, LY.out, HP.out, LX.out⟩
        case measure => omega
      · have tb : (bits .and .u32 (x : Int) 2147483648 != 0) = false := by
          rw [show (2147483648 : Int) = ((2147483648 : Nat) : Int) from rfl, fa, show x / 2 ^ 31 % 2 = 0 by omega]; rfl
        rw [if_neg hb] at HP
        have LY := Lib.hid (sh_lt hy1)
        clear hb fa
        go_wp2_with (go_at_call 21; refine (cshift_any _ _ (by omega)).mono ?_; rintro e w' ⟨rfl, rfl⟩)
        go_roundg m
        case rel => exact ⟨rfl, x * 2 % 4294967296, sh y, p, by rw [Int.natCast_emod]; rfl, rfl, rfl, by have := HM.out; omega, HX.out, Nat.mod_lt _ (by omega), HY.out, LY.out, HP.out, hp1⟩
        case measure => omega

set_option maxRecDepth 100000 in
set_option maxHeartbeats 1000000 in
theorem bytesShift_any (n : Nat) (w : World) (hn : n ≤ 9223372036854775807) :
    Calls Tryd.prog 20 #[.int .i64 (n : Int)] w fun e w' => e = .returned (.int .u32 ((shN (8 * n) top : Nat) : Int)) ∧ w = w' := by
  have S8 : Hid (shN (8 * 2 ^ 0) top = 8388608) := Lib.hid (by rw [shN_top (by decide)])
  have S0 : Hid (shN (8 * (n % 2 ^ 0)) top = 2147483648) := Lib.hid (by rw [Nat.pow_zero, Nat.mod_one]; rfl)
  go_enter Tryd.func20, Tryd.ntmps20
  go_wp2
  go_loopg [0, 3, 4] n (fun M vn vp vs wr => wr = w ∧ ∃ k : Nat, M = n / 2 ^ k ∧ vn = .int .i64 (M : Int) ∧ vp = .int .u32 ((shN (8 * (n % 2 ^ k)) top : Nat) : Int) ∧ vs = .int .u32 ((shN (8 * 2 ^ k) top : Nat) : Int))
  case atStart => exact ⟨rfl, 0, by rw [Nat.pow_zero, Nat.div_one], rfl, by rw [S0.out]; rfl, by rw [S8.out]; rfl⟩
  case round =>
    obtain ⟨rfl, k, hk, rfl, rfl, rfl⟩ := hrel
    by_cases h0 : gk = 0
    · have E := Lib.hid (pow_end (hk.symm.trans h0))
      subst h0
      clear hk
      go_wp2
      go_ret
      exact ⟨ret32 (by rw [E.out]), rfl⟩
    · have hle : gk ≤ 9223372036854775807 := by rw [hk]; exact Nat.le_trans (Nat.div_le_self _ _) hn
      have hp1 := shN_lt (8 * (n % 2 ^ k)) top_lt
      have hs1 := shN_lt (8 * 2 ^ k) top_lt
      have HP := Lib.hid hp1
      have HS := Lib.hid hs1
      have N := Lib.hid (shift_mul (8 * 2 ^ k) (8 * 2 ^ k))
      have N1 := Lib.hid (pow_next k)
      have HN : Hid (gk / 2 = n / 2 ^ (k + 1)) := Lib.hid (by rw [hk, Nat.div_div_eq_div_mul, ← Nat.pow_succ])
      have h1 : 0 < gk := by omega
      by_cases hb : gk % 2 = 1
      · have t : (bits .and .i64 (gk : Int) 1 == 1) = true := by rw [i64_bit0 gk hle, hb]; rfl
        have P := Lib.hid (shift_mul (8 * (n % 2 ^ k)) (8 * 2 ^ k))
        have P1 := Lib.hid (pow_odd n k (by rw [← hk]; exact hb))
        clear hk hp1 hs1 hb hn h0
        go_wp2_with fail
        (with_reducible refine (times_any (shN (8 * (n % 2 ^ k)) top) (8 * 2 ^ k) _ HP.out).mono ?_)
        rintro e w' ⟨rfl, rfl⟩
        rw [P.out, P1.out]
        go_wp2_with fail
        (with_reducible refine (times_any (shN (8 * 2 ^ k) top) (8 * 2 ^ k) _ HS.out).mono ?_)
        rintro e w' ⟨rfl, rfl⟩
        rw [N.out, N1.out]
        go_wp2_with fail
        go_roundg (gk / 2)
        case rel => exact ⟨rfl, k + 1, HN.out, rfl, rfl, rfl⟩
        case measure => omega
      · have t : (bits .and .i64 (gk : Int) 1 == 1) = false := by rw [i64_bit0 gk hle, show gk % 2 = 0 by omega]; rfl
        have P1 := Lib.hid (pow_even n k (by rw [← hk]; exact hb))
        clear hk hp1 hs1 hb hn h0
        go_wp2_with fail
        (with_reducible refine (times_any (shN (8 * 2 ^ k) top) (8 * 2 ^ k) _ HS.out).mono ?_)
        rintro e w' ⟨rfl, rfl⟩
        rw [N.out, N1.out]
        go_wp2_with fail
        go_roundg (gk / 2)
        case rel => exact ⟨rfl, k + 1, HN.out, rfl, by rw [P1.out], rfl⟩
        case measure => omega

set_option maxHeartbeats 400000 in
theorem joinSays : JoinSays := by
  intro a b n w ha0 ha1 hb0 hb1 hn0 hn1
  by_cases hneg : n < 0
  · have e : Hid (joinZ a b n = 0) := Lib.hid (if_pos hneg)
    go_enter Tryd.func16, Tryd.ntmps16
    go_wp2
    go_ret
    exact ⟨ret32 e.out.symm, Below.refl _ _⟩
  obtain ⟨m, rfl⟩ := Int.eq_ofNat_of_zero_le (show 0 ≤ n by omega)
  obtain ⟨x, rfl⟩ := Int.eq_ofNat_of_zero_le ha0
  obtain ⟨y, rfl⟩ := Int.eq_ofNat_of_zero_le hb0
  have e : Hid (joinZ x y m = ((shN (8 * m) x ^^^ y : Nat) : Int)) := Lib.hid (by unfold joinZ join; rw [if_neg hneg]; simp)
  have HX : Hid (x < 4294967296) := Lib.hid (by omega)
  have HM : Hid (m ≤ 9223372036854775807) := Lib.hid (by omega)
  have FX := Lib.hid (u32_xor_nat (shN (8 * m) x) y (shN_lt _ (by omega)) (by omega))
  clear hneg ha0 ha1 hb0 hb1 hn0 hn1
  go_enter Tryd.func16, Tryd.ntmps16
  go_wp2_with fail
  refine (bytesShift_any m _ HM.out).mono ?_
  rintro e w' ⟨rfl, rfl⟩
  go_wp2_with fail
  refine (times_any x (8 * m) _ HX.out).mono ?_
  rintro e w' ⟨rfl, rfl⟩
  go_wp2_with fail
  go_ret
  exact ⟨ret32 (by rw [e.out, ← FX.out]), Below.refl _ _⟩

end Go.Proofs.YtoopoemkickpkaaDoor
