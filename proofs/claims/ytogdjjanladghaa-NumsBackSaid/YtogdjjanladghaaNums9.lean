import Derived.Test.YtogdjjanladghaaNums8
import Derived.Test.YtogdjjanladghaaNumsMath2
namespace Go.Proofs.Ytogdjjanladghaa
open Go.RowKit Go.BigFrame

theorem Same_quiet (A B : Option Addr) (n c d : Nat) (f g : Nat → Nat) (w : World) (k : Nat) (hn : n ≤ 140737488355328) (hR : Row w A n f) (hS : Row w B n g) (hz : ∀ i, i < n → f i = g i) :
    Calls Try.prog 17 #[.slice A n c, .slice B n d] (w.drewN k) fun e w' => e = .returned (.bool true) ∧ ∃ d, w' = w.drewN d :=
  (Same_yes A B n c d f g (w.drewN k) hn hR hS hz).mono fun _ _ ⟨he, m, hm⟩ => ⟨he, k + m, by rw [hm, World.drewN_drewN]⟩

set_option maxRecDepth 100000 in
set_option maxHeartbeats 1000000 in
theorem numsBack_any (A : Option Addr) (n c : Nat) (at_ v : Int) (f : Nat → Nat) (w : World) (hR : Row w A n f) (hnc : n ≤ c) (hcm : c ≤ 9223372036854775807) (h0 : -9223372036854775808 ≤ at_) (h1 : at_ ≤ 9223372036854775807) (hv0 : 0 ≤ v) (hv1 : v < 4294967296) :
    Calls Try.prog 6 #[.slice A n c, .int .i64 at_, .int .u32 v] w fun e w' => e = .returned (.bool true) ∧ Below w.heap.size w w' := by
  have HR := Lib.hid hR
  clear hR
  by_cases hn : 20000 < n
  · have d1 : decide ((20000 : Int) < n) = true := by simp; omega
    go_enter Try.func6, Try.ntmps6
    go_wp2_with (go_at_call 23; refine (awake_any _).mono ?_; rintro e w1 ⟨rfl, hB⟩)
    go_ret
    exact ⟨rfl, hB⟩
  have d1 : decide ((20000 : Int) < n) = false := by simp; omega
  have hn' : n ≤ 140737488355328 := by omega
  obtain ⟨i0, hi0, hz0, hz1, hz2⟩ := info_parts u8_info
  by_cases hin : 0 ≤ at_ ∧ at_ ≤ n - 4
  · obtain ⟨a, rfl⟩ := Int.eq_ofNat_of_zero_le hin.1
    have ha : a + 4 ≤ n := by omega
    clear hin h0 h1
    go_enter Try.func6, Try.ntmps6
    go_wp2_with fail
    refine (awake_any _).mono ?_
    rintro e w1 ⟨rfl, hB1⟩
    have HR1 := Lib.hid (HR.out.below hB1)
    have HB1 := Lib.hid hB1
    clear hB1
    go_wp2_with (at_builtin; refine at_append_nil _ rfl (.tmp 21) (.tmp 22) _ rfl 5 i0 Try.underlying22 hi0 hz0 hz1 hz2 rfl A n c f rfl HR1.out (by omega) ?_; intro A' c' w2 hc1 hc2 hO hB; have HO := Lib.hid hO; have HB2 := Lib.hid (HB1.out.trans (hB.mono HB1.out.size)); have HR2 := Lib.hid (HR1.out.below hB); clear hO hB)
    have hg2 : w.heap.size ≤ w2.heap.size := HB2.out.size
    refine (Get32_yes _ _ _ _ f _ hn' (HO.out.row (Nat.le_refl _)) (by omega) (by omega)).mono ?_
    rintro e w' ⟨rfl, rfl⟩
    rw [Int.toNat_natCast]
    obtain ⟨y, hy⟩ : ∃ y : Int, ((g32 f a : Nat) : Int) = y := ⟨_, rfl⟩
    have hy0 : 0 ≤ y := by omega
    have hy1 : y < 4294967296 := by have := g32_lt HR.out.1 a; omega
    rw [hy]
    have HY := Lib.hid hy
    clear hy
    go_wp2_with fail
    refine (Put32_yes _ _ _ n _ _ _ f _ hn' (Nat.le_refl _) HO.out (by omega) (by omega) (by omega) (by omega)).mono ?_
    rintro e w3 ⟨rfl, hO3, hOnly⟩
    rw [Int.toNat_natCast] at hO3
    have HB3 := Lib.hid (HB2.out.trans (HO.out.only_below (by omega) hOnly HB1.out.size HB2.out.size))
    have HR3 := Lib.hid (HR.out.below HB3.out)
    have HO3 := Lib.hid hO3
    clear hO3
    go_wp2_with fail
    refine (Get32_yes _ _ _ _ _ _ hn' (HO3.out.row (Nat.le_refl _)) (by omega) (by omega)).mono ?_
    rintro e w' ⟨rfl, rfl⟩
    rw [Int.toNat_natCast, g32_p32 f a v.toNat (by omega), Int.toNat_of_nonneg hv0]
    go_wp2_with fail
    refine (Get16_yes _ _ _ _ _ _ hn' (HO3.out.row (Nat.le_refl _)) (by omega) (by omega)).mono ?_
    rintro e w' ⟨rfl, rfl⟩
    rw [Int.toNat_natCast, g16_p32_low f a v.toNat]
    obtain ⟨l, hl⟩ : ∃ l : Int, ((v.toNat % 65536 : Nat) : Int) = l := ⟨_, rfl⟩
    obtain ⟨h, hh⟩ : ∃ h : Int, ((v.toNat / 65536 : Nat) : Int) = h := ⟨_, rfl⟩
    have t1 : l + 65536 * h = v := by omega
    have l0 : 0 ≤ l := by omega
    have l1 : l < 65536 := by omega
    have h0 : 0 ≤ h := by omega
    have h1 : h < 65536 := by omega
    rw [hl]
    have HH := Lib.hid hh
    have T1 := Lib.hid t1
    clear hl hh t1
    go_wp2_with fail
    refine (Get16_yes _ _ _ _ _ _ hn' (HO3.out.row (Nat.le_refl _)) (by omega) (by omega)).mono ?_
    rintro e w' ⟨rfl, rfl⟩
    rw [show ((a : Int) + 2).toNat = a + 2 from by omega, g16_p32_high f a v.toNat (by omega), HH.out]
    go_wp2_with fail
    unfold maxLen at hc2
    have t2 : ((l + 65536 * h : Int) != v) = false := by rw [T1.out]; simp
    have k1 : (0 : Int) ≤ a := by omega
    have k2 : (a : Int) ≤ c' := by omega
    have k3 : (a : Int) ≤ c := by omega
    have k4 : (a : Int) + 4 ≤ c' := by omega
    have k5 : (a : Int) + 4 ≤ c := by omega
    have k6 : (a : Int) + 4 ≤ n := by omega
    have q1 := fun k => Same_quiet A' A a c' c (p32 f a v.toNat) f w3 k (by omega) ((HO3.out.row (n := n) (Nat.le_refl _)).cut (by omega)) (HR3.out.cut (by omega)) (fun i hi => p32_off f a v.toNat i (.inl hi))
    have Q1 := Lib.hid q1
    clear q1
    have q2 := fun k => Same_quiet (if c' = a + 4 then A' else Option.map (fun x => ⟨x.block, x.off + (a + 3 + 1), none⟩) A') (if c = a + 4 then A else Option.map (fun x => ⟨x.block, x.off + (a + 3 + 1), none⟩) A) (n - (a + 4)) (c' - (a + 4)) (c - (a + 4)) (fun i => p32 f a v.toNat (a + 4 + i)) (fun i => f (a + 4 + i)) w3 k (by omega)
      ((HO3.out.row (n := n) (Nat.le_refl _)).from (fun h b o e => by rw [if_neg (by omega), e]; rfl)) (HR3.out.from (fun h b o e => by rw [if_neg (by omega), e]; rfl)) (fun i hi => p32_off f a v.toNat _ (.inr (by omega)))
    have Q2 := Lib.hid q2
    clear q2
    go_quiet ((go_at_call 17; first | (with_reducible exact Q1.out _) | (with_reducible exact Q2.out _)))
    clear t2 Q1 Q2 k1 k2 k3 k4 k5 k6
    have e1 : (y % 65536).toNat = g32 f a % 65536 := by have := HY.out; omega
    have e2 : (y / 65536).toNat = g32 f a / 65536 := by have := HY.out; omega
    have E1 := Lib.hid e1
    have E2 := Lib.hid e2
    clear e1 e2
    go_wp2_with fail
    all_goals
      refine (Put16_yes _ _ _ n _ _ _ _ _ hn' (Nat.le_refl _) (by exact HO3.out) (by omega) (by omega) (by omega) (by omega)).mono ?_
      rintro e w4 ⟨rfl, hO4, hOnly4⟩
      rw [Int.toNat_natCast, E1.out] at hO4
      have HO4 := Lib.hid hO4
      clear hO4
      go_wp2_with fail
      refine (Put16_yes _ _ _ n _ _ _ _ _ hn' (Nat.le_refl _) HO4.out (by omega) (by omega) (by omega) (by omega)).mono ?_
      rintro e w5 ⟨rfl, hO5, hOnly5⟩
      rw [show ((a : Int) + 2).toNat = a + 2 from by omega, E2.out] at hO5
      have HO5 := Lib.hid hO5
      clear hO5
      have HB4 := Lib.hid ((HB3.out.drewN nq).trans (Own.only_below (w := w3.drewN nq) (by exact HO3.out) (by omega) hOnly4 HB1.out.size HB3.out.size))
      have HB5 := Lib.hid (HB4.out.trans (HO4.out.only_below (by omega) hOnly5 HB1.out.size HB4.out.size))
      have HR5 := Lib.hid (HR.out.below HB5.out)
      go_wp2_with fail
      refine (Same_yes _ _ _ _ _ _ f _ hn' (HO5.out.row (Nat.le_refl _)) HR5.out (fun i _ => put_back f HR.out.1 a v.toNat i)).mono ?_
      rintro e w' ⟨rfl, d3, rfl⟩
      go_wp2_with fail
      go_ret
      exact ⟨rfl, HB5.out.drewN _⟩
  · have HIN := Lib.hid hin
    clear hin
    go_enter Try.func6, Try.ntmps6
    go_wp2_with fail
    refine (awake_any _).mono ?_
    rintro e w1 ⟨rfl, hB1⟩
    have HR1 := Lib.hid (HR.out.below hB1)
    have HB1 := Lib.hid hB1
    clear hB1
    go_wp2_with (at_builtin; refine at_append_nil _ rfl (.tmp 21) (.tmp 22) _ rfl 5 i0 Try.underlying22 hi0 hz0 hz1 hz2 rfl A n c f rfl HR1.out (by omega) ?_; intro A' c' w2 hc1 hc2 hO hB; have HO := Lib.hid hO; have HB2 := Lib.hid (HB1.out.trans (hB.mono HB1.out.size)); have HR2 := Lib.hid (HR1.out.below hB); clear hO hB)
    refine (Get32_no _ _ _ _ _ hn' (by have := HIN.out; omega)).mono ?_
    rintro e w' ⟨rfl, rfl⟩
    go_wp2_with fail
    refine (Put32_no _ _ _ _ _ _ hn' (by have := HIN.out; omega)).mono ?_
    rintro e w' ⟨rfl, rfl⟩
    go_wp2_with fail
    refine (Same_yes _ _ _ _ _ f f _ hn' (HO.out.row (Nat.le_refl _)) HR2.out (fun _ _ => rfl)).mono ?_
    rintro e w' ⟨rfl, d3, rfl⟩
    go_wp2_with fail
    go_ret
    exact ⟨rfl, HB2.out.drewN _⟩

end Go.Proofs.Ytogdjjanladghaa
