import Derived.Test.YtinpdomcfijnmaaSloQ7
namespace Go.Proofs.Ytinpdomcfijnmaa
open Go.RowKit

/-! The document's own Add. -/
theorem add_not {X : Blk} {s : ByteArray} {ino : Nat} (h : ¬ Right X) : addD X s ino = (X, 80) := if_pos h
theorem add_arg {X : Blk} {s : ByteArray} {ino : Nat} (h : Right X) (hb : ¬ MayN s ∨ ino = 0 ∨ (whereN X s).isSome = true) : addD X s ino = (X, 2) := by
  unfold addD
  rw [if_neg (fun q => q h), if_pos hb]
theorem add_full {X : Blk} {s : ByteArray} {ino : Nat} (h : Right X) (hb : ¬ (¬ MayN s ∨ ino = 0 ∨ (whereN X s).isSome = true)) (hf : freeN X = none) : addD X s ino = (X, 4) := by
  unfold addD
  rw [if_neg (fun q => q h), if_neg hb, hf]
theorem add_yes {X : Blk} {s : ByteArray} {ino i : Nat} (h : Right X) (hb : ¬ (¬ MayN s ∨ ino = 0 ∨ (whereN X s).isSome = true)) (hf : freeN X = some i) : addD X s ino = (setS X i ⟨ino, s⟩, 0) := by
  unfold addD
  rw [if_neg (fun q => q h), if_neg hb, hf]
set_option maxRecDepth 100000 in
set_option maxHeartbeats 4000000 in
theorem rAdd (X : Blk) (s : ByteArray) (ino : Nat) (w : World) (hino : ino < 4294967296) : Calls Try.prog 18 #[.agg (arr X), .string s, .int .u32 (ino : Int)] w fun e w' => e = .returned (.tuple #[.agg (arr (addD X s ino).1), .int .i64 (addD X s ino).2]) ∧ Below w.heap.size w w' := by
  have hz := fun W => zero_blk W
  have P := Lib.hid (RM.new w X)
  have CL := Lib.hid fun W => rList X W
  have CF := Lib.hid fun W => rFind X s W
  have CM := Lib.hid fun W => rMayN s W
  by_cases hr : Right X
  rotate_left
  · have E := Lib.hid (add_not (s := s) (ino := ino) hr)
    have HR := Lib.hid hr
    clear hr CF CM
    go_enter Try.func18, Try.ntmps18
    go_upto_region 1 with fail
    generalize (w.alloc (.cells (arr X) 23)).alloc (.cells (arr .zero) 23) = w1 at P ⊢
    go_wp2_with (first
      | (refine load_blk rfl (.tmp 3) rfl w.heap.size 0 rfl X P.out.blk.at ?_)
      | (go_at_call 10; with_reducible refine (CL.out _).mono ?_; rintro e w2 ⟨hl, hb⟩; obtain rfl : e = .returned (.tuple #[.slice none 0 0, .int .i64 80]) := hl.no HR.out; have P2 := Lib.hid (P.out.below hb); clear hb hl)
      | (refine load_blk rfl (.tmp 3) rfl w.heap.size 0 rfl X P2.out.blk.at ?_)
      | (refine store_row rfl (.tmp 6) (.tmp 20) rfl (w.heap.size + 1) X .zero 23 rfl rfl P2.out.res ?_))
    exact bodyPost_ret (res_blk Try.results18 _ _ (w.heap.size + 1) X (.int .i64 80) _ rfl rfl (P2.out.end _)) rfl ⟨by rw [E.out], below_setRow P2.out.low (by omega) _⟩
  have HR := Lib.hid hr
  clear hr
  obtain ⟨fi, fo, hfd, hsome⟩ : ∃ fi fo, findD X s = (fi, fo) ∧ ((whereN X s).isSome = true ↔ 0 ≤ fi) := by
    rcases find_neg (X := X) (s := s) with ⟨_, i, hw, _, hf⟩ | ⟨hn, hf⟩
    · exact ⟨_, _, hf, by rw [hw]; simp⟩
    · refine ⟨_, _, hf, ?_⟩
      rcases e : whereN X s with _ | i
      · simp
      · exact absurd ⟨HR.out, i, e⟩ hn
  rw [hfd] at CF
  have SM := Lib.hid hsome
  clear hsome hfd
  go_enter Try.func18, Try.ntmps18
  go_upto_region 1 with fail
  generalize (w.alloc (.cells (arr X) 23)).alloc (.cells (arr .zero) 23) = w1 at P ⊢
  go_upto_region 5 with (first
    | (refine load_blk rfl (.tmp 3) rfl w.heap.size 0 rfl X P.out.blk.at ?_)
    | (go_at_call 10; with_reducible refine (CL.out _).mono ?_; rintro e w2 ⟨hl, hb⟩; obtain ⟨A, c, rfl, hs⟩ : ∃ A c, e = .returned (.tuple #[.slice A 8 c, .int .i64 0]) ∧ SRow w2 A 8 (slotS X) := hl.yes HR.out; have P2 := Lib.hid (P.out.below hb); have S2 := Lib.hid hs; clear hb hl hs)
    | (refine load_blk rfl (.tmp 3) rfl w.heap.size 0 rfl X P2.out.blk.at ?_)
    | (go_at_call 14; with_reducible refine (CF.out _).mono ?_; rintro e w3 ⟨rfl, hb⟩))
  have P3 := Lib.hid (P2.out.below hb)
  have S3 := Lib.hid (S2.out.below hb)
  clear hb P P2 S2 CL CF
  have ANS : Hid (¬ MayN s ∨ ino = 0 ∨ 0 ≤ fi → addD X s ino = (X, 2)) := Lib.hid fun q => add_arg HR.out (by rw [SM.out]; exact q)
  obtain ⟨bad, hbad⟩ : ∃ bad, decide (MayN s) = bad := ⟨_, rfl⟩
  rw [hbad] at CM
  rcases bad with _ | _
  · have E := Lib.hid (ANS.out (.inl (of_decide_eq_false hbad)))
    clear hbad ANS
    go_wp2_with (first
      | (go_at_call 16; with_reducible refine (CM.out _).mono ?_; rintro e w4 ⟨rfl, rfl⟩)
      | (refine load_blk rfl (.tmp 3) rfl w.heap.size 0 rfl X P3.out.blk.at ?_)
      | (refine store_row rfl (.tmp 6) (.tmp 39) rfl (w.heap.size + 1) X .zero 23 rfl rfl P3.out.res ?_))
    exact bodyPost_ret (res_blk Try.results18 _ _ (w.heap.size + 1) X (.int .i64 2) _ rfl rfl (P3.out.end _)) rfl ⟨by rw [E.out], below_setRow P3.out.low (by omega) _⟩
  have HM := Lib.hid (of_decide_eq_true hbad)
  clear hbad
  by_cases h0 : ino = 0
  · have E := Lib.hid (ANS.out (.inr (.inl h0)))
    have E2 : Hid (addD X s 0 = (X, 2)) := Lib.hid (by have := E.out; rwa [h0] at this)
    subst h0
    clear ANS E
    go_wp2_with (first
      | (go_at_call 16; with_reducible refine (CM.out _).mono ?_; rintro e w4 ⟨rfl, rfl⟩)
      | (refine load_blk rfl (.tmp 3) rfl w.heap.size 0 rfl X P3.out.blk.at ?_)
      | (refine store_row rfl (.tmp 6) (.tmp 39) rfl (w.heap.size + 1) X .zero 23 rfl rfl P3.out.res ?_))
    exact bodyPost_ret (res_blk Try.results18 _ _ (w.heap.size + 1) X (.int .i64 2) _ rfl rfl (P3.out.end _)) rfl ⟨by rw [E2.out], below_setRow P3.out.low (by omega) _⟩
  have H0 := Lib.hid h0
  have t0 : (((ino : Nat) : Int) == 0) = false := by rw [beq_eq_false_iff_ne]; omega
  clear h0
  by_cases hf : 0 ≤ fi
  · have E := Lib.hid (ANS.out (.inr (.inr hf)))
    have t1 : decide (0 ≤ fi) = true := decide_eq_true hf
    clear ANS
    go_wp2_with (first
      | (go_at_call 16; with_reducible refine (CM.out _).mono ?_; rintro e w4 ⟨rfl, rfl⟩)
      | (refine load_blk rfl (.tmp 3) rfl w.heap.size 0 rfl X P3.out.blk.at ?_)
      | (refine store_row rfl (.tmp 6) (.tmp 39) rfl (w.heap.size + 1) X .zero 23 rfl rfl P3.out.res ?_))
    exact bodyPost_ret (res_blk Try.results18 _ _ (w.heap.size + 1) X (.int .i64 2) _ rfl rfl (P3.out.end _)) rfl ⟨by rw [E.out], below_setRow P3.out.low (by omega) _⟩
  have t1 : decide (0 ≤ fi) = false := decide_eq_false hf
  have NB : Hid (¬ (¬ MayN s ∨ ino = 0 ∨ (whereN X s).isSome = true)) := Lib.hid (by rw [SM.out]; rintro (q | q | q); exact q HM.out; exact H0.out q; exact hf q)
  clear ANS SM
  obtain ⟨b, o, rfl, _, hc⟩ := S3.out.mem (by omega)
  have HC := Lib.hid hc
  clear hc S3
  go_wp2_with (go_at_call 16; with_reducible refine (CM.out _).mono ?_; rintro e w4 ⟨rfl, rfl⟩)
  go_loopw [12] (fun iv wr => ∃ k : Nat, k ≤ 8 ∧ iv = .int .i64 k ∧ wr = w4 ∧ Hid (∀ j, j < k → (slotS X j).ino ≠ 0)) (fun iv _ => 8 - (intOf iv).toNat)
  case atStart => exact ⟨0, Nat.zero_le _, rfl, rfl, Lib.hid fun j h => absurd h (Nat.not_lt_zero _)⟩
  case round =>
    obtain ⟨k, hk, rfl, hw, NE⟩ := hrel
    obtain rfl : w4 = wr := hw.symm
    by_cases h8 : k < 8
    · have d0 := (HC.out k h8).ino
      have g0 : (0 : Int) ≤ (k : Int) := by omega
      obtain ⟨ik, hik⟩ : ∃ ik, (slotS X k).ino = ik := ⟨_, rfl⟩
      rw [hik] at d0
      by_cases z : ik = 0
      · have E := Lib.hid (add_yes HR.out NB.out (free_some.2 ⟨h8, by rw [hik]; exact z, NE.out⟩))
        have CP := Lib.hid fun W => rPut X k ⟨ino, s⟩ W h8 (may_ok HM.out H0.out hino)
        subst z
        clear hik
        go_wp2_with (first
          | (refine load_blk rfl (.tmp 3) rfl w.heap.size 0 rfl X P3.out.blk.at ?_)
          | (refine build_slot rfl #[(0, .tmp 52), (1, .tmp 53)] rfl ⟨ino, s⟩ (slot_built2 ino s) ?_)
          | (go_at_call 32; with_reducible refine (CP.out _).mono ?_; rintro e w5 ⟨rfl, hb⟩; have P5 := Lib.hid (P3.out.below hb); clear hb)
          | (refine store_row rfl (.tmp 6) (.tmp 55) rfl (w.heap.size + 1) (setS X k ⟨ino, s⟩) .zero 23 rfl rfl P5.out.res ?_))
        exact bodyPost_ret (res_blk Try.results18 _ _ (w.heap.size + 1) (setS X k ⟨ino, s⟩) (.int .i64 0) _ rfl rfl (P5.out.end _)) rfl ⟨by rw [E.out], below_setRow P5.out.low (by omega) _⟩
      · have z1 : (((ik : Nat) : Int) == 0) = false := by rw [beq_eq_false_iff_ne]; omega
        have NE' : Hid (∀ j, j < k + 1 → (slotS X j).ino ≠ 0) := Lib.hid fun j hj => by
          rcases Nat.lt_or_ge j k with q | q
          · exact NE.out j q
          · rw [show j = k by omega, hik]; exact z
        clear hik z
        go_wp2_with fail
        go_roundw
        case rel => exact ⟨k + 1, by omega, by congr 1, trivial, NE'⟩
        case measure => simp [intOf]; omega
    · have E := Lib.hid (add_full HR.out NB.out (free_none.2 fun j hj => NE.out j (by omega)))
      obtain rfl : k = 8 := by omega
      go_wp2_with (first
        | (refine load_blk rfl (.tmp 3) rfl w.heap.size 0 rfl X P3.out.blk.at ?_)
        | (refine store_row rfl (.tmp 6) (.tmp 56) rfl (w.heap.size + 1) X .zero 23 rfl rfl P3.out.res ?_))
      exact bodyPost_ret (res_blk Try.results18 _ _ (w.heap.size + 1) X (.int .i64 4) _ rfl rfl (P3.out.end _)) rfl ⟨by rw [E.out], below_setRow P3.out.low (by omega) _⟩
end Go.Proofs.Ytinpdomcfijnmaa
