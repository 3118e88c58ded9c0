import Derived.Test.YtjiooadakklmlaaJbQ2
namespace Go.Proofs.Ytjiooadakklmlaa
open Go.RowKit

/-! The landed code: numbers of a block in memory; numbers that may be; how a block begins. -/
theorem pGet (b k : Nat) (X : Blk) (w : World) (hV : BVar w b X) (hk : k + 4 ≤ 256) : Calls Try.prog 46 #[.pointer (some ⟨b, 0, none⟩), .int .i64 (k : Int)] w fun e w' => e = .returned (.int .u32 ((g32 X.f k : Nat) : Int)) ∧ w' = w := by
  have CG := Lib.hid (Get32_yes (some ⟨b, 0, none⟩) 256 256 (k : Int) X.f w (by omega) (hV.row0 (Nat.le_refl _)) (by omega) (by omega))
  simp only [Int.toNat_natCast] at CG
  generalize g32 X.f k = v at CG ⊢
  clear hV
  go_enter Try.func46, Try.ntmps46
  go_wp2_with (go_at_call 64; with_reducible refine (CG.out).mono ?_; rintro e w2 ⟨rfl, rfl⟩)
  go_ret
  exact ⟨rfl, rfl⟩
theorem pNum (b k : Nat) (X : Blk) (w : World) (hV : BVar w b X) (hk : k < 64) : Calls Try.prog 46 #[.pointer (some ⟨b, 0, none⟩), .int .i64 ((4 * k : Nat) : Int)] w fun e w' => e = .returned (.int .u32 ((num X k : Nat) : Int)) ∧ w' = w := pGet b (4 * k) X w hV (by omega)
theorem pPut (b k v : Nat) (X : Blk) (w : World) (hV : BVar w b X) (hk : k + 4 ≤ 256) (hv : v < 4294967296) : Calls Try.prog 45 #[.pointer (some ⟨b, 0, none⟩), .int .i64 (k : Int), .int .u32 (v : Int)] w fun e w' => e = .returned (.tuple #[]) ∧ BVar w' b (putB32 X k v) ∧ Only b w w' := by
  have CG := Lib.hid (Put32_w b 256 256 k v X.f w (by omega) hV.cells hk hv)
  have R := Lib.hid (show BVar (set32 w b k v) b (putB32 X k v) ∧ Only b w (set32 w b k v) from ⟨hV.set32 hk, Only.set32 _ _ _ _⟩)
  clear hV
  go_enter Try.func45, Try.ntmps45
  go_wp2_with (go_at_call 63; with_reducible refine (CG.out).mono ?_; rintro e w2 ⟨rfl, rfl⟩)
  all_goals refine bodyPost_end (results_none rfl _ _ _) rfl ?_
  all_goals exact ⟨rfl, R.out⟩
theorem pPutN (b k v : Nat) (X : Blk) (w : World) (hV : BVar w b X) (hk : k < 64) (hv : v < 4294967296) : Calls Try.prog 45 #[.pointer (some ⟨b, 0, none⟩), .int .i64 ((4 * k : Nat) : Int), .int .u32 (v : Int)] w fun e w' => e = .returned (.tuple #[]) ∧ BVar w' b (putB32 X (4 * k) v) ∧ Only b w w' := pPut b (4 * k) v X w hV (by omega) hv
theorem pMaySeq (s : Nat) (w : World) : Calls Try.prog 37 #[.int .u32 (s : Int)] w fun e w' => e = .returned (.bool (decide (MaySeq s))) ∧ w' = w := by
  by_cases h1 : 1 ≤ s
  rotate_left
  · have m : decide (MaySeq s) = false := decide_eq_false fun q => h1 q.pos
    have d1 : decide ((1 : Int) ≤ (s : Int)) = false := by simp; omega
    have e1 : ¬ (1 : Int) ≤ (s : Int) := by omega
    rw [m]
    clear m h1
    go_enter Try.func37, Try.ntmps37
    go_wp2
    go_ret
    exact ⟨rfl, rfl⟩
  have d1 : decide ((1 : Int) ≤ (s : Int)) = true := by simp; omega
  have e1 : (1 : Int) ≤ (s : Int) := by omega
  by_cases h2 : s ≤ 2147483648
  · have m : decide (MaySeq s) = true := decide_eq_true ⟨h1, h2⟩
    have d2 : decide ((s : Int) ≤ 2147483648) = true := by simp; omega
    have e2 : (s : Int) ≤ 2147483648 := by omega
    rw [m]
    clear m h1 h2
    go_enter Try.func37, Try.ntmps37
    go_wp2
    go_ret
    exact ⟨rfl, rfl⟩
  · have m : decide (MaySeq s) = false := decide_eq_false fun q => h2 q.le
    have d2 : decide ((s : Int) ≤ 2147483648) = false := by simp; omega
    have e2 : ¬ (s : Int) ≤ 2147483648 := by omega
    rw [m]
    clear m h1 h2
    go_enter Try.func37, Try.ntmps37
    go_wp2
    go_ret
    exact ⟨rfl, rfl⟩
def MayKind (k : Nat) : Prop := k = 4 ∨ k = 1 ∨ k = 2 ∨ k = 3
instance (k : Nat) : Decidable (MayKind k) := by unfold MayKind; infer_instance
theorem pMayKind (k : Nat) (w : World) : Calls Try.prog 50 #[.int .u32 (k : Int)] w fun e w' => e = .returned (.bool (decide (MayKind k))) ∧ w' = w := by
  by_cases h : MayKind k
  · rw [decide_eq_true h]
    rcases h with rfl | rfl | rfl | rfl
    all_goals
      go_enter Try.func50, Try.ntmps50
      go_wp2
      go_ret
      exact ⟨rfl, rfl⟩
  · rw [decide_eq_false h]
    unfold MayKind at h
    have t4 : (((k : Nat) : Int) == 4) = false := by rw [beq_eq_false_iff_ne]; omega
    have t1 : (((k : Nat) : Int) == 1) = false := by rw [beq_eq_false_iff_ne]; omega
    have t2 : (((k : Nat) : Int) == 2) = false := by rw [beq_eq_false_iff_ne]; omega
    have t3 : (((k : Nat) : Int) == 3) = false := by rw [beq_eq_false_iff_ne]; omega
    clear h
    go_enter Try.func50, Try.ntmps50
    go_wp2
    go_ret
    exact ⟨rfl, rfl⟩
def begunL (k s n : Nat) : List Nat := [magic, k, s, n]
theorem begunL_lt {k s n : Nat} (hk : k < 256) (hs : s < 4294967296) (hn : n < 4294967296) : Small32 (begunL k s n) := by
  intro v hv
  simp [begunL] at hv
  rcases hv with rfl | rfl | rfl | rfl
  · decide
  · omega
  · exact hs
  · exact hn
theorem begun_part {k s n : Nat} (h : Small32 (begunL k s n)) (X0 X1 X2 X3 X4 : Blk) (h0 : X0 = .zero) (h1 : X1 = putB32 X0 0 magic) (h2 : X2 = putB32 X1 4 k) (h3 : X3 = putB32 X2 8 s) (h4 : X4 = putB32 X3 12 n) : X4 = listB (begunL k s n) := by
  have e1 := partB_next h (k := 0) (by omega)
  have e2 := partB_next h (k := 1) (by omega)
  have e3 := partB_next h (k := 2) (by omega)
  have e4 := partB_next h (k := 3) (by omega)
  rw [← partB_end h]
  subst h0 h1 h2 h3 h4
  rw [partB_0 h] at e1
  rw [← e1] at e2
  rw [← e2] at e3
  rw [← e3] at e4
  exact e4
set_option maxHeartbeats 2000000 in
theorem pBegun (k s n : Nat) (w : World) (hk : k < 256) (hs : s < 4294967296) (hn : n < 4294967296) : Calls Try.prog 38 #[.int .u8 (k : Int), .int .u32 (s : Int), .int .u32 (n : Int)] w fun e w' => e = .returned (.agg (arr (listB (begunL k s n)))) ∧ Below w.heap.size w w' := by
  have hz := fun W => zero_blk W
  have R := Lib.hid (show BVar ((w.alloc (.cells (arr .zero) 28)).alloc (.cells (arr .zero) 28)) w.heap.size .zero from BVar.below (heap_alloc_new w _) (below_new _ _))
  have V := Lib.hid (show BVar ((w.alloc (.cells (arr .zero) 28)).alloc (.cells (arr .zero) 28)) (w.heap.size + 1) .zero from heap_alloc2_new w _ _)
  have B := Lib.hid (show Below w.heap.size w ((w.alloc (.cells (arr .zero) 28)).alloc (.cells (arr .zero) 28)) from low_go (below_new w _) (below_new _ _))
  have E := Lib.hid (begun_part (begunL_lt hk hs hn))
  have w32 : IntKind.u32.wrap (k : Int) = (k : Int) := by rw [IntKind.wrap_u32]; omega
  have C0 : Hid (∀ W X, BVar W (w.heap.size + 1) X → Calls Try.prog 45 #[.pointer (some ⟨w.heap.size + 1, 0, none⟩), .int .i64 0, .int .u32 1280199249] W fun e w' => e = .returned (.tuple #[]) ∧ BVar w' (w.heap.size + 1) (putB32 X 0 magic) ∧ Only (w.heap.size + 1) W w') := Lib.hid fun W X h => pPut _ 0 1280199249 X W h (by omega) (by omega)
  have C1 : Hid (∀ W X, BVar W (w.heap.size + 1) X → Calls Try.prog 45 #[.pointer (some ⟨w.heap.size + 1, 0, none⟩), .int .i64 4, .int .u32 (k : Int)] W fun e w' => e = .returned (.tuple #[]) ∧ BVar w' (w.heap.size + 1) (putB32 X 4 k) ∧ Only (w.heap.size + 1) W w') := Lib.hid fun W X h => pPut _ 4 k X W h (by omega) (by omega)
  have C2 : Hid (∀ W X, BVar W (w.heap.size + 1) X → Calls Try.prog 45 #[.pointer (some ⟨w.heap.size + 1, 0, none⟩), .int .i64 8, .int .u32 (s : Int)] W fun e w' => e = .returned (.tuple #[]) ∧ BVar w' (w.heap.size + 1) (putB32 X 8 s) ∧ Only (w.heap.size + 1) W w') := Lib.hid fun W X h => pPut _ 8 s X W h (by omega) hs
  have C3 : Hid (∀ W X, BVar W (w.heap.size + 1) X → Calls Try.prog 45 #[.pointer (some ⟨w.heap.size + 1, 0, none⟩), .int .i64 12, .int .u32 (n : Int)] W fun e w' => e = .returned (.tuple #[]) ∧ BVar w' (w.heap.size + 1) (putB32 X 12 n) ∧ Only (w.heap.size + 1) W w') := Lib.hid fun W X h => pPut _ 12 n X W h (by omega) hn
  clear hk hs hn
  go_enter Try.func38, Try.ntmps38
  go_upto_region 2 with fail
  generalize (w.alloc (.cells (arr .zero) 28)).alloc (.cells (arr .zero) 28) = w1 at R V B ⊢
  clear hz
  go_upto_region 3 with (go_at_call 45; with_reducible refine (C0.out _ _ V.out).mono ?_; rintro e w2 ⟨rfl, hv, ho⟩; have R2 := Lib.hid (ho.blk (by omega) R.out); have V2 := Lib.hid hv; have B2 := Lib.hid (low_only B.out ho (by omega)); clear hv ho)
  go_upto_region 4 with (go_at_call 45; with_reducible refine (C1.out _ _ V2.out).mono ?_; rintro e w3 ⟨rfl, hv, ho⟩; have R3 := Lib.hid (ho.blk (by omega) R2.out); have V3 := Lib.hid hv; have B3 := Lib.hid (low_only B2.out ho (by omega)); clear hv ho)
  go_upto_region 5 with (go_at_call 45; with_reducible refine (C2.out _ _ V3.out).mono ?_; rintro e w4 ⟨rfl, hv, ho⟩; have R4 := Lib.hid (ho.blk (by omega) R3.out); have V4 := Lib.hid hv; have B4 := Lib.hid (low_only B3.out ho (by omega)); clear hv ho)
  go_upto_region 6 with (go_at_call 45; with_reducible refine (C3.out _ _ V4.out).mono ?_; rintro e w5 ⟨rfl, hv, ho⟩; have R5 := Lib.hid (ho.blk (by omega) R4.out); have V5 := Lib.hid hv; have B5 := Lib.hid (low_only B4.out ho (by omega)); clear hv ho)
  have V6 := Lib.hid V5.out
  rw [E.out _ _ _ _ _ rfl rfl rfl rfl rfl] at V6
  clear R V B R2 V2 B2 R3 V3 B3 R4 V4 B4 V5
  go_wp2_with (first
    | (refine load_blk rfl (.tmp 7) rfl (w.heap.size + 1) 0 rfl _ V6.out.at ?_)
    | (refine store_row rfl (.tmp 6) (.tmp 16) rfl w.heap.size (listB (begunL k s n)) .zero 28 rfl rfl R5.out ?_))
  exact bodyPost_ret (results_blk Try.results38 _ _ w.heap.size _ _ rfl (row_heap _ _ _ _ R5.out)) rfl ⟨rfl, row_low B5.out (Nat.le_refl _) _⟩
end Go.Proofs.Ytjiooadakklmlaa
