import Derived.Test.YtinpdomcfijnmaaSloQ4
namespace Go.Proofs.Ytinpdomcfijnmaa
open Go.RowKit

/-! The document's own Find. -/
theorem Listed.no {X : Blk} {e : Ending} {w : World} (h : Listed X e w) (hr : ¬ Right X) : e = .returned (.tuple #[.slice none 0 0, .int .i64 80]) := by
  unfold Listed at h
  rcases h with h | h
  · exact absurd h.1 hr
  · exact h.2
theorem Listed.yes {X : Blk} {e : Ending} {w : World} (h : Listed X e w) (hr : Right X) : ∃ A c, e = .returned (.tuple #[.slice A 8 c, .int .i64 0]) ∧ SRow w A 8 (slotS X) := by
  unfold Listed at h
  rcases h with h | h
  · exact h.2
  · exact absurd hr h.1
theorem find_not {X : Blk} {s : ByteArray} (h : ¬ Right X) : findD X s = (-1, 0) := if_neg h
theorem find_at {X : Blk} {s : ByteArray} {i : Nat} (h : Right X) (hi : i < 8) (h0 : (slotS X i).ino ≠ 0) (hs : (slotS X i).name = s) : findD X s = ((i : Int), (slotS X i).ino) := by
  unfold findD
  rw [if_pos h, (where_some h).2 ⟨hi, h0, hs⟩]
theorem find_none {X : Blk} {s : ByteArray} (h : ∀ j, j < 8 → (slotS X j).ino ≠ 0 → (slotS X j).name ≠ s) : findD X s = (-1, 0) := by
  unfold findD
  rw [where_none.2 h]
  split <;> rfl
set_option maxRecDepth 100000 in
set_option maxHeartbeats 4000000 in
theorem rFind (X : Blk) (s : ByteArray) (w : World) : Calls Try.prog 14 #[.agg (arr X), .string s] w fun e w' => e = .returned (.tuple #[.int .i64 (findD X s).1, .int .u32 (((findD X s).2 : Nat) : Int)]) ∧ Below w.heap.size w w' := by
  have V := Lib.hid (show BVar (w.alloc (.cells (arr X) 23)) w.heap.size X from heap_alloc_new w _)
  have B := Lib.hid (below_new w (.cells (arr X) 23))
  have CL := Lib.hid fun W => rList X W
  obtain ⟨F, hF⟩ : ∃ F, findD X s = F := ⟨_, rfl⟩
  rw [hF]
  have FE := Lib.hid hF
  clear hF
  go_enter Try.func14, Try.ntmps14
  go_upto_region 1 with fail
  generalize w.alloc (.cells (arr X) 23) = w1 at V B ⊢
  by_cases hr : Right X
  rotate_left
  · obtain rfl : F = (-1, 0) := by rw [← FE.out]; exact find_not hr
    have HR := Lib.hid hr
    clear hr
    go_wp2_with (first
      | (refine load_blk rfl (.tmp 2) rfl w.heap.size 0 rfl X V.out.at ?_)
      | (go_at_call 10; with_reducible refine (CL.out _).mono ?_; rintro e w2 ⟨hl, hb⟩; obtain rfl : e = .returned (.tuple #[.slice none 0 0, .int .i64 80]) := hl.no HR.out))
    have B2 := Lib.hid (low_go B.out hb)
    clear hb hl
    go_loopw [8] (fun i wr => i = .int .i64 0 ∧ wr = w2) (fun _ _ => 0)
    case atStart => exact ⟨rfl, rfl⟩
    case round =>
      obtain ⟨rfl, hw⟩ := hrel
      subst hw
      go_wp2_with fail
      go_ret2
      exact ⟨rfl, B2.out⟩
  have HR := Lib.hid hr
  clear hr
  go_upto_region 2 with (first
    | (refine load_blk rfl (.tmp 2) rfl w.heap.size 0 rfl X V.out.at ?_)
    | (go_at_call 10; with_reducible refine (CL.out _).mono ?_; rintro e w2 ⟨hl, hb⟩; obtain ⟨A, c, rfl, hs⟩ : ∃ A c, e = .returned (.tuple #[.slice A 8 c, .int .i64 0]) ∧ SRow w2 A 8 (slotS X) := hl.yes HR.out))
  have B2 := Lib.hid (low_go B.out hb)
  obtain ⟨b, o, rfl, hlt, hc⟩ := hs.mem (by omega)
  have HC := Lib.hid hc
  clear hb hl hs hc hlt V B CL
  go_wp2_with fail
  go_loopw [8] (fun iv wr => ∃ k : Nat, k ≤ 8 ∧ iv = .int .i64 k ∧ wr = w2 ∧ Hid (∀ j, j < k → (slotS X j).ino ≠ 0 → (slotS X j).name ≠ s)) (fun iv _ => 8 - (intOf iv).toNat)
  case atStart => exact ⟨0, Nat.zero_le _, rfl, rfl, Lib.hid fun j h => absurd h (Nat.not_lt_zero _)⟩
  case round =>
    obtain ⟨k, hk, rfl, hw, NE⟩ := hrel
    obtain rfl : w2 = wr := hw.symm
    by_cases h8 : k < 8
    · have d0 := (HC.out k h8).ino
      have d1 := (HC.out k h8).name
      have g0 : (0 : Int) ≤ (k : Int) := by omega
      obtain ⟨nk, hnk⟩ : ∃ nk, (slotS X k).name = nk := ⟨_, rfl⟩
      obtain ⟨ik, hik⟩ : ∃ ik, (slotS X k).ino = ik := ⟨_, rfl⟩
      rw [hnk] at d1
      rw [hik] at d0
      by_cases z : ik = 0
      · have NE' : Hid (∀ j, j < k + 1 → (slotS X j).ino ≠ 0 → (slotS X j).name ≠ s) := Lib.hid fun j hj h0 => by
          rcases Nat.lt_or_ge j k with q | q
          · exact NE.out j q h0
          · rw [show j = k by omega, hik] at h0; exact absurd z h0
        subst z
        clear hnk hik
        go_wp2_with fail
        go_roundw
        case rel => exact ⟨k + 1, by omega, by congr 1, trivial, NE'⟩
        case measure => simp [intOf]; omega
      have z0 : decide ((0 : Int) < (ik : Int)) = true := by simp; omega
      have z1 : (0 : Int) < (ik : Int) := by omega
      by_cases he : nk = s
      · obtain rfl : F = ((k : Int), ik) := by rw [← FE.out, ← hik]; exact find_at HR.out h8 (by rw [hik]; exact z) (by rw [hnk]; exact he)
        have te : (nk.toList == s.toList) = true := by rw [he]; simp
        clear he hnk hik z FE
        go_wp2_with fail
        go_quiet (fail)
        go_wp2_with fail
        go_ret2
        exact ⟨rfl, low_drewN B2.out _⟩
      · have te : (nk.toList == s.toList) = false := by rw [beq_eq_false_iff_ne]; exact fun q => he (list_same q)
        have NE' : Hid (∀ j, j < k + 1 → (slotS X j).ino ≠ 0 → (slotS X j).name ≠ s) := Lib.hid fun j hj h0 => by
          rcases Nat.lt_or_ge j k with q | q
          · exact NE.out j q h0
          · rw [show j = k by omega, hnk]; exact he
        clear he hnk hik z
        go_wp2_with fail
        go_roundw
        case rel => exact ⟨k + 1, by omega, by congr 1, trivial, NE'⟩
        case measure => simp [intOf]; omega
    · obtain rfl : F = (-1, 0) := by rw [← FE.out]; exact find_none fun j hj h0 => NE.out j (by omega) h0
      obtain rfl : k = 8 := by omega
      go_wp2_with fail
      go_ret2
      exact ⟨rfl, B2.out⟩
end Go.Proofs.Ytinpdomcfijnmaa
