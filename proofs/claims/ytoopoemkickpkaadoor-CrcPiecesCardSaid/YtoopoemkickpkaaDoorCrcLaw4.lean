import Derived.Test.YtoopoemkickpkaaDoorCrcLaw3
namespace Go.Proofs.YtoopoemkickpkaaDoor
open Go.RowKit CrcM

theorem sum_byte {x y : Nat} (hx : x < 256) (hy : y < 256) (h : sums [(1, lit8 [x])] = sums [(1, lit8 [y])]) : x = y := by
  have h1 : shN 8 (ff ^^^ x) ^^^ ff = shN 8 (ff ^^^ y) ^^^ ff := h
  have h2 := congrArg (· ^^^ ff) h1
  simp only [xor_cancel] at h2
  rw [shN_xor, shN_xor] at h2
  have h3 := congrArg (shN 8 ff ^^^ ·) h2
  simp only [← Nat.xor_assoc, Nat.xor_self, Nat.zero_xor] at h3
  have h4 : shN 8 (x ^^^ y) = 0 := by rw [shN_xor, h3, Nat.xor_self]
  exact xor_eq_zero (shN_eq_zero 8 (Nat.xor_lt_two_pow (n := 32) (by omega) (by omega)) h4)

set_option maxRecDepth 100000 in
set_option maxHeartbeats 1000000 in
theorem crcBytes_any (hS : SumSays) (hJ : JoinSays) (a b : Int) (w : World) (hE : Env w) (ha : 0 ≤ a ∧ a < 256) (hb : 0 ≤ b ∧ b < 256) :
    Calls Tryd.prog 9 #[.int .u8 a, .int .u8 b] w fun e w' => e = .returned (.bool true) ∧ Below w.heap.size w w' := by
  have HE := Lib.hid hE
  clear hE
  have HS := Lib.hid hS
  have HJ := Lib.hid hJ
  obtain ⟨x, rfl⟩ := Int.eq_ofNat_of_zero_le ha.1
  obtain ⟨y, rfl⟩ := Int.eq_ofNat_of_zero_le hb.1
  have hx : x < 256 := by omega
  have hy : y < 256 := by omega
  have HX := Lib.hid hx
  have HY := Lib.hid hy
  clear hS hJ ha hb hx hy
  have hd : (((sums [(1, lit8 [x])] : Nat) : Int) == ((sums [(1, lit8 [y])] : Nat) : Int)) = ((x : Int) == (y : Int)) := by
    by_cases h : x = y
    · subst h; simp
    · have h1 : ¬ sums [(1, lit8 [x])] = sums [(1, lit8 [y])] := fun e => h (sum_byte HX.out HY.out e)
      rw [beq_eq_false_iff_ne.2 (by omega), beq_eq_false_iff_ne.2 (by omega)]
  have HD := Lib.hid hd
  clear hd
  go_enter Tryd.func9, Tryd.ntmps9
  go_wp2_with fail
  refine (crcAwake_any HS.out HJ.out _ HE.out).mono ?_
  rintro e1 w1 ⟨rfl, hb⟩
  have B1 := Lib.hid hb
  clear hb
  go_wp2_with fail
  have P1 : Hid (Pcs ((w1.alloc (.cells #[.int .u8 x] 5)).alloc (.cells #[.slice (some ⟨w1.heap.size, 0, none⟩) 1 1] 24)) (some ⟨w1.heap.size + 1, 0, none⟩) [(1, lit8 [x])]) := by
    have r1 : Row (w1.alloc (.cells #[.int .u8 x] 5)) (some ⟨w1.heap.size, 0, none⟩) 1 (lit8 [x]) := Row.lit w1 5 [x] (0, 0) (by simpa using HX.out)
    have h := Pcs.one (c := 1) (HE.out.below (B1.out.alloc B1.out.size _)) 24 r1 (by omega)
    rw [World.size_alloc] at h
    exact Lib.hid h
  have Q1 : Hid (Below w.heap.size w ((w1.alloc (.cells #[.int .u8 x] 5)).alloc (.cells #[.slice (some ⟨w1.heap.size, 0, none⟩) 1 1] 24))) := Lib.hid ((B1.out.alloc B1.out.size _).alloc (by have := B1.out.size; simp; omega) _)
  generalize (w1.alloc (.cells #[.int .u8 x] 5)).alloc (.cells #[.slice (some ⟨w1.heap.size, 0, none⟩) 1 1] 24) = w1a at P1 Q1 ⊢
  refine (HS.out _ 1 _ [(1, lit8 [x])] _ rfl (by omega) P1.out).mono ?_
  rintro e2 w2 ⟨rfl, hb⟩
  have B2 := Lib.hid (Q1.out.trans (hb.mono Q1.out.size))
  clear hb P1 Q1
  go_wp2_with fail
  have P2 : Hid (Pcs ((w2.alloc (.cells #[.int .u8 y] 5)).alloc (.cells #[.slice (some ⟨w2.heap.size, 0, none⟩) 1 1] 24)) (some ⟨w2.heap.size + 1, 0, none⟩) [(1, lit8 [y])]) := by
    have r1 : Row (w2.alloc (.cells #[.int .u8 y] 5)) (some ⟨w2.heap.size, 0, none⟩) 1 (lit8 [y]) := Row.lit w2 5 [y] (0, 0) (by simpa using HY.out)
    have h := Pcs.one (c := 1) (HE.out.below (B2.out.alloc B2.out.size _)) 24 r1 (by omega)
    rw [World.size_alloc] at h
    exact Lib.hid h
  have Q2 : Hid (Below w.heap.size w ((w2.alloc (.cells #[.int .u8 y] 5)).alloc (.cells #[.slice (some ⟨w2.heap.size, 0, none⟩) 1 1] 24))) := Lib.hid ((B2.out.alloc B2.out.size _).alloc (by have := B2.out.size; simp; omega) _)
  generalize (w2.alloc (.cells #[.int .u8 y] 5)).alloc (.cells #[.slice (some ⟨w2.heap.size, 0, none⟩) 1 1] 24) = w2a at P2 Q2 ⊢
  refine (HS.out _ 1 _ [(1, lit8 [y])] _ rfl (by omega) P2.out).mono ?_
  rintro e3 w3 ⟨rfl, hb⟩
  have B3 := Lib.hid (Q2.out.trans (hb.mono Q2.out.size))
  clear hb P2 Q2
  have hD := HD.out
  go_wp2_with fail
  go_ret
  exact ⟨rfl, B3.out⟩

end Go.Proofs.YtoopoemkickpkaaDoor
