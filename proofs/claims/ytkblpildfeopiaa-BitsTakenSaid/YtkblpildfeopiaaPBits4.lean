import Derived.Test.YtkblpildfeopiaaPBits3
namespace Go.Proofs.Ytkblpildfeopiaa
open Go.RowKit Go.Shelf Go.BigFrame

set_option maxRecDepth 100000 in
set_option maxHeartbeats 1000000 in
theorem pFirst (X : Blk) (a b : Int) (w : World) (h1 : I64 a) (h2 : I64 b) : Calls Try.prog 13 #[.agg (arr X), .int .i64 a, .int .i64 b] w fun e w' => e = .returned (.int .i64 (firstI X a b)) ∧ Below w.heap.size w w' := by
  have H1 := Lib.hid h1
  have H2 := Lib.hid h2
  obtain ⟨m, hm⟩ : ∃ m : Int, max a 0 = m := ⟨_, rfl⟩
  have hmx : (if (0 : Int) > a then 0 else a) = m := by rw [← hm]; split <;> omega
  obtain ⟨E, hE⟩ : ∃ E : Int, min b 2048 = E := ⟨_, rfl⟩
  have hmn : (if (2048 : Int) < b then 2048 else b) = E := by rw [← hE]; split <;> omega
  have HM := Lib.hid hm
  have HE := Lib.hid hE
  have k1 : 0 ≤ m := by omega
  have k2 : m ≤ 9223372036854775807 := by unfold I64 at h1; omega
  have k3 : E ≤ 2048 := by omega
  clear hm hE h1 h2
  have V0 : Hid (Var (w.alloc (.cells (arr X) 23)) w.heap.size X) := Lib.hid (heap_alloc_new w _)
  have B0 := Lib.hid ((Below.refl w.heap.size w).alloc (Nat.le_refl _) (.cells (arr X) 23))
  go_enter Try.func13, Try.ntmps13
  go_wp2_with fail
  generalize w.alloc (.cells (arr X) 23) = w1 at V0 B0 ⊢
  go_loopw [7] (fun i wr => ∃ q : Int, m ≤ q ∧ q ≤ 9223372036854775807 ∧ i = .int .i64 q ∧ Hid (∀ j : Nat, j < 2048 → a ≤ j → (j : Int) < q → bit X j = true) ∧ Hid (Var wr w.heap.size X) ∧ Hid (Below w.heap.size w wr)) (fun i _ => (E - intOf i).toNat)
  case atStart => exact ⟨m, Int.le_refl _, k2, rfl, Lib.hid (fun j _ h1 h2 => by have := HM.out; omega), V0, B0⟩
  case round =>
    obtain ⟨q, q1, q2, rfl, HI, VW, BW⟩ := hrel
    by_cases hlt : q < E
    · have t1 : decide (q < E) = true := decide_eq_true hlt
      obtain ⟨k, rfl⟩ := Int.eq_ofNat_of_zero_le (show 0 ≤ q by omega)
      have hk : k < 2048 := by omega
      have CM := Lib.hid (mask_any k)
      have HB0 := mask_bit X k
      have HC : Hid (∀ w', At w' w.heap.size 0 X → w'.cell? ⟨w.heap.size, k / 8, none⟩ = some (.int .u8 ((X.f (k / 8) : Nat) : Int))) := Lib.hid fun w' hh => by have := hh.cell (i := k / 8) (by omega); rwa [Nat.zero_add] at this
      generalize X.f (k / 8) = v at HB0 HC
      generalize mkB k = mm at CM HB0
      have HB : (bits BinOp.and IntKind.u8 (v : Int) (mm : Int) == 0) = !(bit X k) := by rw [← HB0]; simp [bne]
      clear HB0
      cases hb : bit X k
      · rw [hb] at HB
        have HF : Hid (firstI X a b = k) := Lib.hid (firstI_eq hk (by have := HM.out; omega) (by have := HE.out; omega) hb fun j h1 h2 _ => HI.out j (by omega) h2 (by omega))
        clear hb
        go_wp2_with fail
        refine wp_region_class (More wr) (by kernel_rfl) (by kernel_rfl) (More.drew _) ?_
        repeat (first | go_big_quiet_skip | (go_big_quiet_want; first | (refine quiet_u8 _ rfl _ (by rfl) _ (by intro w' hw'; exact HC.out _ (VW.out.below hw').at) ?_; simp only [Act.put, List.setIfInBounds_toArray, List.set_cons_zero, List.set_cons_succ]; go_big_quiet_on) | (go_big_quiet_op; first | go_big_quiet_on | (apply Exists.intro; refine ⟨fun _ _ => ?_, ?_⟩; (with_reducible exact rfl); go_big_quiet_on) | go_big_quiet_call ((intro hC; first | (with_reducible refine (CM.out _).mono ?_); exact fun e w' h => ⟨h.1, hC.on h.2⟩)))))
        refine wpQuiet_nil ?_
        intro w2 hw2
        have B2 := Lib.hid (BW.out.trans (Below.mono hw2 BW.out.size))
        clear hw2
        go_wp2
        go_ret
        exact ⟨by rw [HF.out]; try rfl, B2.out⟩
      · rw [hb] at HB
        have HI2 : Hid (∀ j : Nat, j < 2048 → a ≤ j → (j : Int) < (k : Int) + 1 → bit X j = true) := Lib.hid fun j g0 g1 g2 => by
          rcases Decidable.em ((j : Int) < k) with u | u
          · exact HI.out j g0 g1 u
          · obtain rfl : j = k := by omega
            exact hb
        clear hb
        go_wp2_with fail
        refine wp_region_class (More wr) (by kernel_rfl) (by kernel_rfl) (More.drew _) ?_
        repeat (first | go_big_quiet_skip | (go_big_quiet_want; first | (refine quiet_u8 _ rfl _ (by rfl) _ (by intro w' hw'; exact HC.out _ (VW.out.below hw').at) ?_; simp only [Act.put, List.setIfInBounds_toArray, List.set_cons_zero, List.set_cons_succ]; go_big_quiet_on) | (go_big_quiet_op; first | go_big_quiet_on | (apply Exists.intro; refine ⟨fun _ _ => ?_, ?_⟩; (with_reducible exact rfl); go_big_quiet_on) | go_big_quiet_call ((intro hC; first | (with_reducible refine (CM.out _).mono ?_); exact fun e w' h => ⟨h.1, hC.on h.2⟩)))))
        refine wpQuiet_nil ?_
        intro w2 hw2
        have V2 := Lib.hid (VW.out.below hw2)
        have B2 := Lib.hid (BW.out.trans (Below.mono hw2 BW.out.size))
        clear hw2
        go_wp2
        go_roundw
        case rel => exact ⟨(k : Int) + 1, by omega, by omega, by go_num, HI2, V2, B2⟩
        case measure => simp [intOf]; omega
    · have t1 : decide (q < E) = false := decide_eq_false hlt
      have HF : Hid (firstI X a b = -1) := Lib.hid (firstI_none fun j g0 g1 g2 => HI.out j g0 g1 (by have := HE.out; omega))
      go_wp2_with fail
      go_ret
      exact ⟨by rw [HF.out]; try rfl, BW.out⟩
end Go.Proofs.Ytkblpildfeopiaa
