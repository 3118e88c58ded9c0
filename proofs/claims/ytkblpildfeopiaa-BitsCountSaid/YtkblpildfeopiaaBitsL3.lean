import Derived.Test.YtkblpildfeopiaaBitsL1
namespace Go.Proofs.Ytkblpildfeopiaa
open Go.RowKit

theorem first_all {X : Blk} {a b : Int} (h : firstI X a b = -1) (i : Int) (h0 : 0 ≤ i) (h1 : a ≤ i) (h2 : i < b) (h3 : i < 2048) : hasI X i = true := by
  obtain ⟨k, rfl⟩ := Int.eq_ofNat_of_zero_le h0
  rw [hasI_nat (by omega)]
  unfold firstI at h
  exact firstN_before X _ _ k (by unfold lim; omega) (by unfold lim; omega) (.inl h)
theorem first_some {X : Blk} {a b : Int} (h : firstI X a b ≠ -1) : ∃ k : Nat, firstI X a b = k ∧ k < 2048 ∧ a ≤ k ∧ (k : Int) < b ∧ bit X k = false ∧ ∀ i : Int, 0 ≤ i → a ≤ i → i < k → hasI X i = true := by
  have hg := (firstN_ge X (lim b - lim a) (lim a)).2 h
  have hb := firstN_before X (lim b - lim a) (lim a)
  unfold firstI at h ⊢
  generalize firstN X (lim a) (lim b - lim a) = r at *
  obtain ⟨q1, q2, q3⟩ := hg
  have l1 := lim_le b
  obtain ⟨k, rfl⟩ := Int.eq_ofNat_of_zero_le (show 0 ≤ r by omega)
  rw [Int.toNat_natCast] at q3
  refine ⟨k, rfl, by omega, by unfold lim at q1 q2; omega, by unfold lim at q1 q2; omega, q3, fun i h0 h1 h2 => ?_⟩
  obtain ⟨j, rfl⟩ := Int.eq_ofNat_of_zero_le h0
  rw [hasI_nat (by omega)]
  exact hb j (by unfold lim; omega) (by omega) (.inr h2)
set_option maxRecDepth 100000 in
set_option maxHeartbeats 1000000 in
theorem bitsLeast_any (hS : BitsSays) (X : Blk) (a b : Int) (w : World) (h2 : I64 a) (h3 : I64 b) :
    Calls Try.prog 8 #[.agg (arr X), .int .i64 a, .int .i64 b] w fun e w' => e = .returned (.bool true) ∧ Below w.heap.size w w' := by
  have HS := Lib.hid hS
  have H2 := Lib.hid h2
  have H3 := Lib.hid h3
  clear hS h2 h3
  have V0 : Hid (Var (w.alloc (.cells (arr X) 23)) w.heap.size X) := Lib.hid (heap_alloc_new w _)
  have B0 := Lib.hid ((Below.refl w.heap.size w).alloc (Nat.le_refl _) (.cells (arr X) 23))
  go_enter Try.func8, Try.ntmps8
  go_wp2_with fail
  generalize w.alloc (.cells (arr X) 23) = w1 at V0 B0 ⊢
  refine (bAwake_any HS.out w1).mono ?_
  rintro e w2 ⟨rfl, hb⟩
  have V2 := Lib.hid (V0.out.below hb)
  have B2 := Lib.hid (B0.out.trans (hb.mono B0.out.size))
  clear hb V0 B0
  go_wp2_with (refine load_blk rfl (.tmp 3) rfl w.heap.size 0 rfl X V2.out.at ?_)
  refine (HS.out.first X a b w2 H2.out H3.out).mono ?_
  rintro e w3 ⟨rfl, hb⟩
  have V3 := Lib.hid (V2.out.below hb)
  have B3 := Lib.hid (B2.out.trans (hb.mono B2.out.size))
  clear hb V2 B2
  obtain ⟨m, hm⟩ : ∃ m : Int, max a 0 = m := ⟨_, rfl⟩
  by_cases hr : firstI X a b = -1
  · have HA := Lib.hid (first_all hr)
    rw [hr]
    clear hr
    have HM := Lib.hid hm
    have hmx : (if (0 : Int) > a then 0 else a) = m := by rw [← hm]; split <;> omega
    obtain ⟨E, hE⟩ : ∃ E : Int, min b 2048 = E := ⟨_, rfl⟩
    have hmn : (if (2048 : Int) < b then 2048 else b) = E := by rw [← hE]; split <;> omega
    have HE := Lib.hid hE
    have k1 : 0 ≤ m := by omega
    have k2 : m ≤ 9223372036854775807 := by have := H2.out; unfold I64 at this; omega
    have k3 : E ≤ 2048 := by omega
    clear hm hE
    go_wp2_with fail
    go_loopw [9] (fun i wr => ∃ j : Int, i = .int .i64 j ∧ m ≤ j ∧ (j = m ∨ j ≤ E) ∧ Hid (Var wr w.heap.size X) ∧ Hid (Below w.heap.size w wr)) (fun i _ => (E - intOf i).toNat)
    case atStart => exact ⟨m, rfl, by omega, .inl rfl, V3, B3⟩
    case round =>
      clear V3 B3
      obtain ⟨j, rfl, hj, hj2, V, B⟩ := hrel
      have j1 : 0 ≤ j := by omega
      by_cases hlt : j < E
      · have hx := HA.out j (by omega) (by have := HM.out; omega) (by have := HE.out; omega) (by have := HE.out; omega)
        have tl : decide (j < E) = true := by simp; omega
        have hj64 : I64 j := by unfold I64; omega
        go_wp2_with (refine load_blk rfl (.tmp 3) rfl w.heap.size 0 rfl X V.out.at ?_)
        refine (HS.out.has X j wr hj64).mono ?_
        rintro e w4 ⟨rfl, hb⟩
        rw [hx]
        have V4 := Lib.hid (V.out.below hb)
        have B4 := Lib.hid (B.out.trans (hb.mono B.out.size))
        clear hb V B
        go_wp2_with fail
        go_roundw
        case rel => exact ⟨j + 1, by go_num, by omega, .inr (by omega), V4, B4⟩
        case measure => first | (simp [intOf]; done) | (simp [intOf]; omega)
      · have tl : decide (j < E) = false := by simp; omega
        clear hlt
        go_wp2_with fail
        go_ret
        exact ⟨rfl, B.out⟩
  · obtain ⟨k, hk, hk2, hk3, hk4, hk5, hk6⟩ := first_some hr
    have HA := Lib.hid hk6
    rw [hk]
    have HM := Lib.hid hm
    have hmx : (if (0 : Int) > a then 0 else a) = m := by rw [← hm]; split <;> omega
    have k1 : 0 ≤ m := by omega
    have k2 : m ≤ 9223372036854775807 := by have := H2.out; unfold I64 at this; omega
    have t1 : decide ((k : Int) < 0) = false := decide_eq_false (by omega)
    have t2 : decide ((k : Int) < a) = false := by simp; omega
    have t3 : decide (b ≤ (k : Int)) = false := by simp; omega
    have hx := hasI_nat (X := X) hk2
    rw [hk5] at hx
    have HX := Lib.hid hx
    have hk64 : I64 k := by unfold I64; omega
    clear hm hr hk hk5 hk6 hx hk3 hk4
    go_wp2_with (refine load_blk_w (by rfl) (.tmp 3) rfl w.heap.size 0 rfl X V3.out.at ?_)
    refine (HS.out.has X k w3 hk64).mono ?_
    rintro e w5 ⟨rfl, hb⟩
    rw [HX.out]
    have V5 := Lib.hid (V3.out.below hb)
    have B5 := Lib.hid (B3.out.trans (hb.mono B3.out.size))
    clear hb V3 B3
    have V3 := V5
    have B3 := B5
    clear V5 B5
    go_wp2_with fail
    go_loopw [9] (fun i wr => ∃ j : Int, i = .int .i64 j ∧ m ≤ j ∧ (j = m ∨ j ≤ (k : Int)) ∧ Hid (Var wr w.heap.size X) ∧ Hid (Below w.heap.size w wr)) (fun i _ => ((k : Int) - intOf i).toNat)
    case atStart => exact ⟨m, rfl, by omega, .inl rfl, V3, B3⟩
    case round =>
      clear V3 B3
      obtain ⟨j, rfl, hj, hj2, V, B⟩ := hrel
      have j1 : 0 ≤ j := by omega
      by_cases hlt : j < (k : Int)
      · have hx := HA.out j (by omega) (by have := HM.out; omega) (by omega)
        have tl : decide (j < (k : Int)) = true := by simp; omega
        have hj64 : I64 j := by unfold I64; omega
        go_wp2_with (refine load_blk rfl (.tmp 3) rfl w.heap.size 0 rfl X V.out.at ?_)
        refine (HS.out.has X j wr hj64).mono ?_
        rintro e w4 ⟨rfl, hb⟩
        rw [hx]
        have V4 := Lib.hid (V.out.below hb)
        have B4 := Lib.hid (B.out.trans (hb.mono B.out.size))
        clear hb V B
        go_wp2_with fail
        go_roundw
        case rel => exact ⟨j + 1, by go_num, by omega, .inr (by omega), V4, B4⟩
        case measure => first | (simp [intOf]; done) | (simp [intOf]; omega)
      · have tl : decide (j < (k : Int)) = false := by simp; omega
        clear hlt
        go_wp2_with fail
        go_ret
        exact ⟨rfl, B.out⟩
end Go.Proofs.Ytkblpildfeopiaa
