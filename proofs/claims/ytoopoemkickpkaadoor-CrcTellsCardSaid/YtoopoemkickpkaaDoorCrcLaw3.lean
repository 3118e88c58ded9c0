import Derived.Test.YtoopoemkickpkaaDoorCrcLaw2
namespace Go.Proofs.YtoopoemkickpkaaDoor
open Go.RowKit CrcM

theorem join_run (v : Nat) (g : Nat → Nat) (m : Nat) : join (v ^^^ ff) (sum g m) m = run v g m ^^^ ff := by
  unfold sum join
  rw [run_start v, run_start ff, shN_xor]
  generalize shN (8 * m) v = a
  generalize shN (8 * m) ff = b
  generalize run 0 g m = c
  rw [← Nat.xor_assoc, ← Nat.xor_assoc, xor_cancel]
theorem joinZ_nat (a b n : Nat) : joinZ (a : Int) (b : Int) (n : Int) = ((join a b n : Nat) : Int) := by
  rw [joinZ_at (by omega), Int.toNat_natCast, Int.toNat_natCast, Int.toNat_natCast]
section
variable (n m l : Nat) (f g q : Nat → Nat)
theorem joins_left : joinZ (joinZ ((sums [(n, f)] : Nat) : Int) ((sums [(m, g)] : Nat) : Int) (m : Int)) ((sums [(l, q)] : Nat) : Int) (l : Int) = ((sums [(n, f), (m, g), (l, q)] : Nat) : Int) := by
  rw [joinZ_nat, joinZ_nat]
  show ((join (join (run ff f n ^^^ ff) (sum g m) m) (sum q l) l : Nat) : Int) = _
  rw [join_run, join_run]
  rfl
theorem joins_right : joinZ ((sums [(n, f)] : Nat) : Int) (joinZ ((sums [(m, g)] : Nat) : Int) ((sums [(l, q)] : Nat) : Int) (l : Int)) ((m : Int) + (l : Int)) = ((sums [(n, f), (m, g), (l, q)] : Nat) : Int) := by
  rw [joinZ_nat, show ((m : Int) + (l : Int)) = ((m + l : Nat) : Int) by omega, joinZ_nat, ← join_assoc, ← joinZ_nat, ← joinZ_nat]
  exact joins_left n m l f g q
theorem joins_first : joinZ ((sums [] : Nat) : Int) ((sums [(n, f)] : Nat) : Int) (n : Int) = ((sums [(n, f)] : Nat) : Int) := by
  rw [sums_nil, joinZ_nat, join_zero]
end
theorem sums_range {ps : List (Nat × (Nat → Nat))} (h : ∀ p ∈ ps, ∀ i, p.2 i < 256) : (0 : Int) ≤ (sums ps : Nat) ∧ ((sums ps : Nat) : Int) < 4294967296 := by
  have := sums_lt h
  omega

set_option maxRecDepth 100000 in
set_option maxHeartbeats 2000000 in
theorem crcJoins_any (hS : SumSays) (hJ : JoinSays) (A B C : Option Addr) (n m l c d k : Nat) (f g q : Nat → Nat) (w : World) (hE : Env w) (hA : Row w A n f) (hB : Row w B m g) (hC : Row w C l q) (hn : n ≤ 140737488351232) (hm : m ≤ 140737488351232) (hl : l ≤ 140737488351232) :
    Calls Tryd.prog 4 #[.slice A n c, .slice B m d, .slice C l k] w fun e w' => e = .returned (.bool true) ∧ Below w.heap.size w w' := by
  have HE := Lib.hid hE
  clear hE
  have HS := Lib.hid hS
  have HJ := Lib.hid hJ
  have HA := Lib.hid hA
  have HB := Lib.hid hB
  have HC := Lib.hid hC
  clear hS hJ hA hB hC
  by_cases hg : 20000 < n + m + l
  · have t : decide ((20000 : Int) < (n : Int) + m + l) = true := by simp; omega
    go_enter Tryd.func4, Tryd.ntmps4
    go_wp2_with fail
    refine (crcAwake_any HS.out HJ.out _ HE.out).mono ?_
    rintro e1 w1 ⟨rfl, hb⟩
    have B1 := Lib.hid hb
    clear hb
    go_wp2_with fail
    go_ret
    exact ⟨rfl, B1.out⟩
  have t : decide ((20000 : Int) < (n : Int) + m + l) = false := by simp; omega
  have n1 : n ≤ 20000 := by omega
  have m1 : m ≤ 20000 := by omega
  have l1 : l ≤ 20000 := by omega
  have RX := Lib.hid (sums_range (ps := [(n, f)]) (by simpa using HA.out.1))
  have RY := Lib.hid (sums_range (ps := [(m, g)]) (by simpa using HB.out.1))
  have RZ := Lib.hid (sums_range (ps := [(l, q)]) (by simpa using HC.out.1))
  have R1 := Lib.hid (joinZ_range (n := (m : Int)) RX.out.2 RY.out.2)
  have R2 := Lib.hid (joinZ_range (n := (l : Int)) RY.out.2 RZ.out.2)
  have E1 := Lib.hid (joins_left n m l f g q)
  have E2 := Lib.hid (joins_right n m l f g q)
  have E3 := Lib.hid (joins_first n f)
  clear hg hn hm hl
  go_enter Tryd.func4, Tryd.ntmps4
  go_wp2_with fail
  refine (crcAwake_any HS.out HJ.out _ HE.out).mono ?_
  rintro e1 w1 ⟨rfl, hb⟩
  have B1 := Lib.hid hb
  clear hb
  have RA1 := Lib.hid (HA.out.below B1.out)
  go_wp2_with fail
  have P2 := Lib.hid (Pcs.one (c := c) (HE.out.below B1.out) 24 RA1.out (by omega))
  have Q2 := Lib.hid (B1.out.alloc B1.out.size (.cells #[.slice A n c] 24))
  refine (HS.out _ 1 _ [(n, f)] _ rfl (by omega) P2.out).mono ?_
  rintro e2 w2 ⟨rfl, hb⟩
  have B2 := Lib.hid (Q2.out.trans (hb.mono Q2.out.size))
  clear hb P2 Q2
  have RB2 := Lib.hid (HB.out.below B2.out)
  go_wp2_with fail
  have P3 := Lib.hid (Pcs.one (c := d) (HE.out.below B2.out) 24 RB2.out (by omega))
  have Q3 := Lib.hid (B2.out.alloc B2.out.size (.cells #[.slice B m d] 24))
  refine (HS.out _ 1 _ [(m, g)] _ rfl (by omega) P3.out).mono ?_
  rintro e3 w3 ⟨rfl, hb⟩
  have B3 := Lib.hid (Q3.out.trans (hb.mono Q3.out.size))
  clear hb P3 Q3
  have RC3 := Lib.hid (HC.out.below B3.out)
  go_wp2_with fail
  have P4 := Lib.hid (Pcs.one (c := k) (HE.out.below B3.out) 24 RC3.out (by omega))
  have Q4 := Lib.hid (B3.out.alloc B3.out.size (.cells #[.slice C l k] 24))
  refine (HS.out _ 1 _ [(l, q)] _ rfl (by omega) P4.out).mono ?_
  rintro e4 w4 ⟨rfl, hb⟩
  have B4 := Lib.hid (Q4.out.trans (hb.mono Q4.out.size))
  clear hb P4 Q4
  go_wp2_with fail
  refine (HJ.out _ _ _ _ RX.out.1 RX.out.2 RY.out.1 RY.out.2 (by omega) (by omega)).mono ?_
  rintro e5 w5 ⟨rfl, hb⟩
  have B5 := Lib.hid (B4.out.trans (hb.mono B4.out.size))
  clear hb
  go_wp2_with fail
  refine (HJ.out _ _ _ _ R1.out.1 R1.out.2 RZ.out.1 RZ.out.2 (by omega) (by omega)).mono ?_
  rintro e6 w6 ⟨rfl, hb⟩
  have B6 := Lib.hid (B5.out.trans (hb.mono B5.out.size))
  clear hb
  rw [E1.out]
  go_wp2_with fail
  refine (HJ.out _ _ _ _ RY.out.1 RY.out.2 RZ.out.1 RZ.out.2 (by omega) (by omega)).mono ?_
  rintro e7 w7 ⟨rfl, hb⟩
  have B7 := Lib.hid (B6.out.trans (hb.mono B6.out.size))
  clear hb
  go_wp2_with fail
  refine (HJ.out _ _ _ _ RX.out.1 RX.out.2 R2.out.1 R2.out.2 (by omega) (by omega)).mono ?_
  rintro e8 w8 ⟨rfl, hb⟩
  have B8 := Lib.hid (B7.out.trans (hb.mono B7.out.size))
  clear hb
  rw [E2.out]
  have RA8 := Lib.hid (HA.out.below B8.out)
  have RB8 := Lib.hid (HB.out.below B8.out)
  have RC8 := Lib.hid (HC.out.below B8.out)
  go_wp2_with fail
  have P9 := Lib.hid (Pcs.three (c := c) (d := d) (e := k) (HE.out.below B8.out) 24 RA8.out (by omega) RB8.out (by omega) RC8.out (by omega))
  have Q9 := Lib.hid (B8.out.alloc B8.out.size (.cells #[.slice A n c, .slice B m d, .slice C l k] 24))
  refine (HS.out _ 3 _ [(n, f), (m, g), (l, q)] _ rfl (by omega) P9.out).mono ?_
  rintro e9 w9 ⟨rfl, hb⟩
  have B9 := Lib.hid (Q9.out.trans (hb.mono Q9.out.size))
  clear hb P9 Q9
  go_wp2_with fail
  refine (HS.out _ 0 _ [] _ rfl (by omega) (Pcs.nil (HE.out.below B9.out) _)).mono ?_
  rintro e10 w10 ⟨rfl, hb⟩
  have B10 := Lib.hid (B9.out.trans (hb.mono B9.out.size))
  clear hb
  go_wp2_with fail
  refine (HJ.out _ _ _ _ (by omega) (by rw [sums_nil]; omega) RX.out.1 RX.out.2 (by omega) (by omega)).mono ?_
  rintro e11 w11 ⟨rfl, hb⟩
  have B11 := Lib.hid (B10.out.trans (hb.mono B10.out.size))
  clear hb
  rw [E3.out]
  go_wp2_with fail
  go_ret
  exact ⟨rfl, B11.out⟩

end Go.Proofs.YtoopoemkickpkaaDoor
