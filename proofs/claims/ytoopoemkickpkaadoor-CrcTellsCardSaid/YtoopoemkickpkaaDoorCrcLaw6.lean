import Derived.Test.YtoopoemkickpkaaDoorCrcLaw5
import Derived.BigRegion
namespace Go.Proofs.YtoopoemkickpkaaDoor
open Go.RowKit CrcM

theorem u8_info' : (Tryd.prog.info? 5).map (fun i => (i.zero, i.size, i.bytes)) = some (some (.int .u8 0), 1, 1) := by kernel_rfl

theorem xor_bit {x s : Nat} (hx : x < 256) (hs : s < 8) : bits .xor .u8 (x : Int) ((2 : Int) ^ s % 256) = ((x ^^^ 2 ^ s : Nat) : Int) := by
  have e : ((2 : Int) ^ s % 256) = ((2 ^ s : Nat) : Int) := by
    match s, hs with
    | 0, _ => rfl
    | 1, _ => rfl
    | 2, _ => rfl
    | 3, _ => rfl
    | 4, _ => rfl
    | 5, _ => rfl
    | 6, _ => rfl
    | 7, _ => rfl
  have hp : 2 ^ s < 256 := Nat.lt_of_lt_of_le (Nat.pow_lt_pow_right (by omega) hs) (by decide)
  rw [e, u8_xor_nat x (2 ^ s) hx hp]
theorem upd_flip (f : Nat → Nat) (p j : Nat) : upd f p (f p ^^^ 2 ^ j) = CrcM.flip f p j := by
  funext i
  unfold upd CrcM.flip
  by_cases h : i = p
  · subst h; rw [if_pos rfl]
  · rw [if_neg h, if_neg h]
theorem own_flip {w : World} {base g o n : Nat} {f : Nat → Nat} (hg : base ≤ g) (hf : ∀ i, f i < 256) (hc : Cells8 w g o n f) {p j : Nat} (hp : p < n) (hj : j < 8) :
    Own (w.setCell ⟨g, o + p, none⟩ (.int .u8 (bits .xor .u8 ((f p : Nat) : Int) ((2 : Int) ^ j % 256)))).drew base (some ⟨g, o, none⟩) n (CrcM.flip f p j) := by
  rw [xor_bit (hf p) hj, ← upd_flip]
  have hp2 : 2 ^ j < 256 := Nat.lt_of_lt_of_le (Nat.pow_lt_pow_right (by omega) hj) (by decide)
  exact ⟨upd_lt hf p _ (Nat.xor_lt_two_pow (n := 8) (hf p) hp2), fun _ => ⟨g, o, rfl, hg, hc.set p _ hp⟩⟩
theorem bit_tmod {v : Int} (h : 0 ≤ v) (k : Nat) : (((v / 2 ^ k).tmod 2 == 1) : Bool) = (v.toNat / 2 ^ k % 2 == 1) := by
  obtain ⟨x, rfl⟩ := Int.eq_ofNat_of_zero_le h
  have e : ((x : Int) / 2 ^ k) = ((x / 2 ^ k : Nat) : Int) := by simp
  rw [e, Int.toNat_natCast]
  generalize x / 2 ^ k = y
  rw [Int.tmod_eq_emod_of_nonneg (by omega)]
  by_cases hb : y % 2 = 1
  · rw [beq_iff_eq.2 hb, beq_iff_eq.2 (by omega)]
  · rw [beq_eq_false_iff_ne.2 hb, beq_eq_false_iff_ne.2 (by omega)]

set_option maxRecDepth 100000 in
set_option maxHeartbeats 1000000 in
theorem crcTells_any (hS : SumSays) (hJ : JoinSays) (A : Option Addr) (n c : Nat) (at_ over : Int) (f : Nat → Nat) (w : World) (hE : Env w) (hA : Row w A n f) (hn : n ≤ 140737488351232) (hat : -9223372036854775808 ≤ at_ ∧ at_ ≤ 9223372036854775807) (hov : 0 ≤ over ∧ over < 4294967296) :
    Calls Tryd.prog 6 #[.slice A n c, .int .i64 at_, .int .u32 over] w fun e w' => e = .returned (.bool true) ∧ Below w.heap.size w w' := by
  have HE := Lib.hid hE
  clear hE
  have HS := Lib.hid hS
  have HJ := Lib.hid hJ
  have HA := Lib.hid hA
  have HO := Lib.hid hov
  clear hS hJ hA
  by_cases h1 : 20000 < n
  · have t1 : decide ((20000 : Int) < n) = true := by simp; omega
    go_enter Tryd.func6, Tryd.ntmps6
    go_wp2_with fail
    refine (crcAwake_any HS.out HJ.out _ HE.out).mono ?_
    rintro e1 w1 ⟨rfl, hb⟩
    have B1 := Lib.hid hb
    clear hb
    go_wp2_with fail
    go_ret
    exact ⟨rfl, B1.out⟩
  have t1 : decide ((20000 : Int) < n) = false := by simp; omega
  by_cases h2 : at_ < 0
  · go_enter Tryd.func6, Tryd.ntmps6
    go_wp2_with fail
    refine (crcAwake_any HS.out HJ.out _ HE.out).mono ?_
    rintro e1 w1 ⟨rfl, hb⟩
    have B1 := Lib.hid hb
    clear hb
    go_wp2_with fail
    go_ret
    exact ⟨rfl, B1.out⟩
  have t2 : decide (at_ < 0) = false := by simp; omega
  by_cases h3 : 8 * (n : Int) - 32 < at_
  · have t3 : decide (8 * (n : Int) - 32 < at_) = true := by simp; omega
    go_enter Tryd.func6, Tryd.ntmps6
    go_wp2_with fail
    refine (crcAwake_any HS.out HJ.out _ HE.out).mono ?_
    rintro e1 w1 ⟨rfl, hb⟩
    have B1 := Lib.hid hb
    clear hb
    go_wp2_with fail
    go_ret
    exact ⟨rfl, B1.out⟩
  have t3 : decide (8 * (n : Int) - 32 < at_) = false := by simp; omega
  obtain ⟨a, rfl⟩ := Int.eq_ofNat_of_zero_le (show 0 ≤ at_ by omega)
  have n1 : n ≤ 20000 := by omega
  have a1 : a + 32 ≤ 8 * n := by omega
  obtain ⟨i0, hi0, hz0, hz1, hz2⟩ := info_parts u8_info'
  clear h1 h2 h3 hat hn hov
  go_enter Tryd.func6, Tryd.ntmps6
  go_wp2_with fail
  refine (crcAwake_any HS.out HJ.out _ HE.out).mono ?_
  rintro e1 w1 ⟨rfl, hb⟩
  have B1 := Lib.hid hb
  have RA1 := Lib.hid (HA.out.below hb)
  clear hb
  go_wp2_with (at_builtin; refine at_append_nil _ rfl (.tmp 26) (.tmp 27) _ rfl 5 i0 Tryd.underlying24 hi0 hz0 hz1 hz2 rfl A n c f rfl RA1.out (by omega) ?_; intro A' c' w2 hc1 hc2 hO hB; have HM := Lib.hid hO; have B2 := Lib.hid (B1.out.trans (hB.mono B1.out.size)); clear hO hB)
  have hb0 := B1.out.size
  generalize w1.heap.size = base at HM hb0
  go_loopw [8] (fun i wr => ∃ k : Nat, k ≤ 32 ∧ i = .int .i64 k ∧ Own wr base A' n (turn over.toNat a f k) ∧ Below w.heap.size w wr) (fun i _ => 32 - (intOf i).toNat)
  case atStart => exact ⟨0, Nat.zero_le _, rfl, HM.out, B2.out⟩
  case round =>
    obtain ⟨k, hk, rfl, hO, hB⟩ := hrel
    have HO2 := Lib.hid hO
    have HB := Lib.hid hB
    clear hO hB
    by_cases hl : k < 32
    · have j1 : (0 : Int) ≤ k := by omega
      have j2 : (k : Int) < 32 := by omega
      have hob : (((over / 2 ^ k).tmod 2 == 1) : Bool) = (over.toNat / 2 ^ k % 2 == 1) := bit_tmod HO.out.1 k
      by_cases hbit : over.toNat / 2 ^ k % 2 = 1
      · rw [beq_iff_eq.2 hbit] at hob
        have hT : Hid (turn over.toNat a f (k + 1) = CrcM.flip (turn over.toNat a f k) ((a + k) / 8) ((a + k) % 8)) := Lib.hid (if_pos hbit)
        clear hbit
        obtain ⟨g, o, rfl, hg, hcells⟩ := HO2.out.2 (by omega)
        have hp : (a + k) / 8 < n := by omega
        have cp := hcells.cell ((a + k) / 8) hp
        have fp := hcells.frozen (o + (a + k) / 8)
        have r1 : (0 : Int) ≤ ((a : Int) + k) / 8 := by omega
        have r2 : ((a : Int) + k) / 8 < n := by omega
        have r3 : (((a : Int) + k) / 8).toNat = (a + k) / 8 := by omega
        have r4 : (0 : Int) ≤ ((a : Int) + k) % 8 := by omega
        go_wp2_with fail
        have HW := Lib.hid (own_flip hg HO2.out.1 hcells hp (show (a + k) % 8 < 8 by omega))
        have HB3 := Lib.hid ((HB.out.setCell (p := ⟨g, o + (a + k) / 8, none⟩) (Nat.le_trans hb0 hg) (.int .u8 (bits .xor .u8 ((turn over.toNat a f k ((a + k) / 8) : Nat) : Int) ((2 : Int) ^ ((a + k) % 8) % 256)))).drew)
        clear hcells
        go_region
        go_wp2
        go_roundw
        case rel => exact ⟨k + 1, by omega, by go_num, by rw [hT.out]; exact HW.out, HB3.out⟩
        case measure => simp [intOf]; omega
      · have hb2 : (over.toNat / 2 ^ k % 2 == 1) = false := beq_eq_false_iff_ne.2 hbit
        rw [hb2] at hob
        have hT : Hid (turn over.toNat a f (k + 1) = turn over.toNat a f k) := Lib.hid (if_neg hbit)
        clear hbit hb2
        go_wp2
        go_roundw
        case rel => exact ⟨k + 1, by omega, by go_num, by rw [hT.out]; exact HO2.out, HB.out⟩
        case measure => simp [intOf]; omega
    · obtain rfl : k = 32 := by omega
      have hd : (((sums [(n, turn over.toNat a f 32)] : Nat) : Int) == ((sums [(n, f)] : Nat) : Int)) = (over == 0) := by
        have h := sum_turn f (over := over.toNat) (at_ := a) (n := n) (by have := HO.out; omega) a1
        rw [sums_one, sums_one]
        by_cases e : over = 0
        · rw [beq_iff_eq.2 e, beq_iff_eq.2 (by rw [h.2 (by omega)])]
        · have e2 : ¬ over.toNat = 0 := by have := HO.out; omega
          rw [beq_eq_false_iff_ne.2 e, beq_eq_false_iff_ne.2 (fun q => e2 (h.1 (by omega)))]
      have HD := Lib.hid hd
      clear hd
      go_wp2_with fail
      have P1 := Lib.hid (Pcs.one (c := c') (HE.out.below HB.out) 24 (HO2.out.row (Nat.le_refl n)) (by omega))
      have Q1 := Lib.hid (HB.out.alloc HB.out.size (.cells #[.slice A' n c'] 24))
      refine (HS.out _ 1 _ [(n, turn over.toNat a f 32)] _ rfl (by omega) P1.out).mono ?_
      rintro e2 w4 ⟨rfl, hb⟩
      have B4 := Lib.hid (Q1.out.trans (hb.mono Q1.out.size))
      have RA4 := Lib.hid (HA.out.below B4.out)
      clear hb P1 Q1
      go_wp2_with fail
      have P2 := Lib.hid (Pcs.one (c := c) (HE.out.below B4.out) 24 RA4.out (by omega))
      have Q2 := Lib.hid (B4.out.alloc B4.out.size (.cells #[.slice A n c] 24))
      refine (HS.out _ 1 _ [(n, f)] _ rfl (by omega) P2.out).mono ?_
      rintro e3 w5 ⟨rfl, hb⟩
      have B5 := Lib.hid (Q2.out.trans (hb.mono Q2.out.size))
      clear hb P2 Q2
      have hD := HD.out
      go_wp2_with fail
      go_ret
      exact ⟨rfl, B5.out⟩

end Go.Proofs.YtoopoemkickpkaaDoor
