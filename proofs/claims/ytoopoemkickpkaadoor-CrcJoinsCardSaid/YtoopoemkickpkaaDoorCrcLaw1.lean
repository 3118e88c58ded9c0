import Derived.Test.YtoopoemkickpkaaDoorCrcRef
namespace Go.Proofs.YtoopoemkickpkaaDoor
open Go.RowKit CrcM

theorem joinZ_at {a b n : Int} (h : 0 ≤ n) : joinZ a b n = (join a.toNat b.toNat n.toNat : Nat) := if_neg (by omega)
theorem joinZ_neg {a b n : Int} (h : n < 0) : joinZ a b n = 0 := if_pos h
theorem joinZ_range {a b n : Int} (ha : a < 4294967296) (hb : b < 4294967296) : 0 ≤ joinZ a b n ∧ joinZ a b n < 4294967296 := by
  unfold joinZ
  split
  · omega
  · have h : join a.toNat b.toNat n.toNat < 2 ^ 32 := Nat.xor_lt_two_pow (shN_lt _ (by omega)) (by omega)
    omega

set_option maxHeartbeats 1000000 in
theorem crcAwake_any (hS : SumSays) (hJ : JoinSays) (w : World) (hE : Env w) :
    Calls Tryd.prog 15 #[] w fun e w' => e = .returned (.bool true) ∧ Below w.heap.size w w' := by
  have HS := Lib.hid hS
  have HJ := Lib.hid hJ
  have hcv := fun (w : World) (C : Array Value) (n c : Nat) => Lib.run_convert_bytes_const (P := Tryd.prog) w 24 5 C n c Tryd.underlying24 Tryd.underlying5
  have HE := Lib.hid hE
  clear hS hJ hE
  go_enter Tryd.func15, Tryd.ntmps15
  go_wp2_with fail
  refine (HS.out _ 0 _ [] _ rfl (by omega) (Pcs.nil HE.out _)).mono ?_
  rintro e w1 ⟨rfl, hb⟩
  have B1 := Lib.hid hb
  clear hb
  rw [show ((sums [] : Nat) : Int) = 0 from rfl]
  go_wp2_with fail
  have P1 : Hid (Pcs ((w1.alloc (.cells #[.int .u8 97] 5 (1, 2))).alloc (.cells #[.slice (some ⟨w1.heap.size, 0, none⟩) 1 1] 24)) (some ⟨w1.heap.size + 1, 0, none⟩) [(1, lit8 [97])]) := by
    have r1 : Row (w1.alloc (.cells #[.int .u8 97] 5 (1, 2))) (some ⟨w1.heap.size, 0, none⟩) 1 (lit8 [97]) := Row.lit w1 5 [97] (1, 2) (by decide)
    have h := Pcs.one (c := 1) (HE.out.below (B1.out.alloc B1.out.size _)) 24 r1 (by omega)
    rw [World.size_alloc] at h
    exact Lib.hid h
  have B2 : Hid (Below w.heap.size w ((w1.alloc (.cells #[.int .u8 97] 5 (1, 2))).alloc (.cells #[.slice (some ⟨w1.heap.size, 0, none⟩) 1 1] 24))) := Lib.hid ((B1.out.alloc B1.out.size _).alloc (by have := B1.out.size; simp; omega) _)
  generalize (w1.alloc (.cells #[.int .u8 97] 5 (1, 2))).alloc (.cells #[.slice (some ⟨w1.heap.size, 0, none⟩) 1 1] 24) = w1a at P1 B2 ⊢
  refine (HS.out _ 1 _ [(1, lit8 [97])] _ rfl (by omega) P1.out).mono ?_
  rintro e w2 ⟨rfl, hb⟩
  have B3 := Lib.hid (B2.out.trans (hb.mono B2.out.size))
  clear hb P1 B1 B2
  rw [show ((sums [(1, lit8 [97])] : Nat) : Int) = 3904355907 from by decide +kernel]
  have kc2 := Joins.run_convert_bytes_const_at (P := Tryd.prog) (w2.alloc (.cells #[.int .u8 49, .int .u8 50, .int .u8 51, .int .u8 52] 5 (4, 5))) 24 5 #[.int .u8 53, .int .u8 54, .int .u8 55, .int .u8 56, .int .u8 57] 5 5 (w2.heap.size + 1) (by simp) Tryd.underlying24 Tryd.underlying5
  go_wp2_with fail
  have P2 : Hid (Pcs (((w2.alloc (.cells #[.int .u8 49, .int .u8 50, .int .u8 51, .int .u8 52] 5 (4, 5))).alloc (.cells #[.int .u8 53, .int .u8 54, .int .u8 55, .int .u8 56, .int .u8 57] 5 (5, 6))).alloc (.cells #[.slice (some ⟨w2.heap.size, 0, none⟩) 4 4, .slice none 0 0, .slice (some ⟨w2.heap.size + 1, 0, none⟩) 5 5] 24)) (some ⟨w2.heap.size + 1 + 1, 0, none⟩) [(4, lit8 [49, 50, 51, 52]), (0, fun _ => 0), (5, lit8 [53, 54, 55, 56, 57])]) := by
    have r4 : Row (w2.alloc (.cells #[.int .u8 49, .int .u8 50, .int .u8 51, .int .u8 52] 5 (4, 5))) (some ⟨w2.heap.size, 0, none⟩) 4 (lit8 [49, 50, 51, 52]) := Row.lit w2 5 [49, 50, 51, 52] (4, 5) (by decide)
    have r5 : Row ((w2.alloc (.cells #[.int .u8 49, .int .u8 50, .int .u8 51, .int .u8 52] 5 (4, 5))).alloc (.cells #[.int .u8 53, .int .u8 54, .int .u8 55, .int .u8 56, .int .u8 57] 5 (5, 6))) (some ⟨(w2.alloc (.cells #[.int .u8 49, .int .u8 50, .int .u8 51, .int .u8 52] 5 (4, 5))).heap.size, 0, none⟩) 5 (lit8 [53, 54, 55, 56, 57]) := Row.lit (w2.alloc (.cells #[.int .u8 49, .int .u8 50, .int .u8 51, .int .u8 52] 5 (4, 5))) 5 [53, 54, 55, 56, 57] (5, 6) (by decide)
    have r4' := r4.below ((Below.refl _ _).alloc (Nat.le_refl _) (.cells #[.int .u8 53, .int .u8 54, .int .u8 55, .int .u8 56, .int .u8 57] 5 (5, 6)))
    rw [World.size_alloc] at r5
    have h := Pcs.three (c := 4) (d := 0) (e := 5) (HE.out.below ((B3.out.alloc B3.out.size _).alloc (by have := B3.out.size; simp; omega) _)) 24 r4' (by omega) (Row.none_ _ (fun _ => 0) (fun _ => by show 0 < 256; omega)) (by omega) r5 (by omega)
    rw [World.size_alloc, World.size_alloc] at h
    exact Lib.hid h
  have B4 : Hid (Below w.heap.size w (((w2.alloc (.cells #[.int .u8 49, .int .u8 50, .int .u8 51, .int .u8 52] 5 (4, 5))).alloc (.cells #[.int .u8 53, .int .u8 54, .int .u8 55, .int .u8 56, .int .u8 57] 5 (5, 6))).alloc (.cells #[.slice (some ⟨w2.heap.size, 0, none⟩) 4 4, .slice none 0 0, .slice (some ⟨w2.heap.size + 1, 0, none⟩) 5 5] 24))) := Lib.hid (((B3.out.alloc B3.out.size _).alloc (by have := B3.out.size; simp; omega) _).alloc (by have := B3.out.size; simp; omega) _)
  generalize ((w2.alloc (.cells #[.int .u8 49, .int .u8 50, .int .u8 51, .int .u8 52] 5 (4, 5))).alloc (.cells #[.int .u8 53, .int .u8 54, .int .u8 55, .int .u8 56, .int .u8 57] 5 (5, 6))).alloc (.cells #[.slice (some ⟨w2.heap.size, 0, none⟩) 4 4, .slice none 0 0, .slice (some ⟨w2.heap.size + 1, 0, none⟩) 5 5] 24) = w2a at P2 B4 ⊢
  refine (HS.out _ 3 _ [(4, lit8 [49, 50, 51, 52]), (0, fun _ => 0), (5, lit8 [53, 54, 55, 56, 57])] _ rfl (by omega) P2.out).mono ?_
  rintro e w3 ⟨rfl, hb⟩
  have B5 := Lib.hid (B4.out.trans (hb.mono B4.out.size))
  clear hb P2 B3 B4
  rw [show ((sums [(4, lit8 [49, 50, 51, 52]), (0, fun _ => 0), (5, lit8 [53, 54, 55, 56, 57])] : Nat) : Int) = 3421780262 from by decide +kernel]
  go_wp2_with fail
  refine (HJ.out 3904355907 0 0 _ (by omega) (by omega) (by omega) (by omega) (by omega) (by omega)).mono ?_
  rintro e w4 ⟨rfl, hb⟩
  have B6 := Lib.hid (B5.out.trans (hb.mono B5.out.size))
  clear hb B5
  rw [show joinZ 3904355907 0 0 = 3904355907 from by decide +kernel]
  go_wp2_with fail
  refine (HJ.out 1 2 (-1) _ (by omega) (by omega) (by omega) (by omega) (by omega) (by omega)).mono ?_
  rintro e w5 ⟨rfl, hb⟩
  have B7 := Lib.hid (B6.out.trans (hb.mono B6.out.size))
  clear hb B6
  rw [show joinZ 1 2 (-1) = 0 from rfl]
  go_wp2_with fail
  go_ret
  exact ⟨rfl, B7.out⟩

end Go.Proofs.YtoopoemkickpkaaDoor
