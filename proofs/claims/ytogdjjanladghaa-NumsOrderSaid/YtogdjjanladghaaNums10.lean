import Derived.Test.YtogdjjanladghaaNumsMut
namespace Go.Proofs.Ytogdjjanladghaa
open Go.RowKit

theorem q32_swap (n : Nat) (f : Nat → Nat) (a b u v : Int) (h : a + 4 ≤ b) (i : Nat) : q32 n (q32 n f a u) b v i = q32 n (q32 n f b v) a u i := by
  unfold q32
  by_cases hb : 0 ≤ b ∧ b ≤ n - 4
  · by_cases ha : 0 ≤ a ∧ a ≤ n - 4
    · rw [if_pos hb, if_pos ha, if_pos ha, if_pos hb]
      by_cases h1 : i < b.toNat
      · rw [p32_off _ b.toNat _ i (.inl h1)]
        by_cases h2 : i < a.toNat ∨ a.toNat + 4 ≤ i
        · rw [p32_off _ a.toNat _ i h2, p32_off _ a.toNat _ i h2, p32_off _ b.toNat _ i (.inl h1)]
        · rw [p32_at, p32_at, p32_off f b.toNat _ i (.inl h1)]
      · rw [p32_off (p32 f b.toNat v.toNat) a.toNat _ i (.inr (by omega))]
        rw [p32_at (p32 f a.toNat u.toNat) b.toNat v.toNat i, p32_at f b.toNat v.toNat i, p32_off f a.toNat _ i (.inr (by omega))]
    · rw [if_pos hb, if_neg ha, if_neg ha, if_pos hb]
  · by_cases ha : 0 ≤ a ∧ a ≤ n - 4
    · rw [if_neg hb, if_pos ha, if_pos ha, if_neg hb]
    · rw [if_neg hb, if_neg ha, if_neg ha, if_neg hb]
theorem v32_q32 (n : Nat) (f : Nat → Nat) (a b u v : Int) (h : a + 4 ≤ b) (ha : 0 ≤ a) (hu0 : 0 ≤ u) (hu1 : u < 4294967296) (hin : b32 n a = true) : v32 n (q32 n (q32 n f a u) b v) a = u := by
  have hc : 0 ≤ a ∧ a ≤ n - 4 := by simpa [b32] using hin
  have key : ∀ F : Nat → Nat, (∀ i, i < a.toNat + 4 → F i = p32 f a.toNat u.toNat i) → ((g32 F a.toNat : Nat) : Int) = u := by
    intro F hF
    have e := g32_p32 f a.toNat u.toNat (by omega)
    unfold g32 at e ⊢
    rw [hF _ (by omega), hF _ (by omega), hF _ (by omega), hF _ (by omega), e]
    omega
  unfold v32
  rw [if_pos hc]
  apply key
  intro i hi
  unfold q32
  by_cases hb : 0 ≤ b ∧ b ≤ n - 4
  · rw [if_pos hb, if_pos hc, p32_off _ b.toNat _ i (.inl (by omega))]
  · rw [if_neg hb, if_pos hc]

set_option maxRecDepth 100000 in
set_option maxHeartbeats 1000000 in
theorem numsOrder_early (A : Option Addr) (n c : Nat) (at_ to u v : Int) (w : World) (hn : n ≤ 9223372036854775807) (h0 : -9223372036854775808 ≤ at_) (h1 : at_ ≤ 9223372036854775807) (k0 : -9223372036854775808 ≤ to) (k1 : to ≤ 9223372036854775807)
    (h : 20000 < n ∨ at_ < 0 ∨ 20000 < at_ ∨ to < at_ ∨ 20000 < to ∨ to - at_ < 4) :
    Calls Try.prog 9 #[.slice A n c, .int .i64 at_, .int .i64 to, .int .u32 u, .int .u32 v] w fun e w' => e = .returned (.bool true) ∧ Below w.heap.size w w' := by
  have H := Lib.hid h
  clear h
  by_cases c1 : (20000 : Int) < n
  · have d1 : decide ((20000 : Int) < n) = true := by simp; omega
    go_enter Try.func9, Try.ntmps9
    go_wp2_with (go_at_call 23; refine (awake_any _).mono ?_; rintro e w1 ⟨rfl, hB⟩)
    go_ret
    exact ⟨rfl, hB⟩
  have d1 : decide ((20000 : Int) < n) = false := by simp; omega
  by_cases c2 : at_ < 0
  · go_enter Try.func9, Try.ntmps9
    go_wp2_with (go_at_call 23; refine (awake_any _).mono ?_; rintro e w1 ⟨rfl, hB⟩)
    go_ret
    exact ⟨rfl, hB⟩
  have d2 : decide (at_ < 0) = false := by simp; omega
  by_cases c3 : 20000 < at_
  · have d3 : decide ((20000 : Int) < at_) = true := by simp; omega
    go_enter Try.func9, Try.ntmps9
    go_wp2_with (go_at_call 23; refine (awake_any _).mono ?_; rintro e w1 ⟨rfl, hB⟩)
    go_ret
    exact ⟨rfl, hB⟩
  have d3 : decide ((20000 : Int) < at_) = false := by simp; omega
  by_cases c4 : to < at_
  · have d4 : decide (to < at_) = true := by simp; omega
    go_enter Try.func9, Try.ntmps9
    go_wp2_with (go_at_call 23; refine (awake_any _).mono ?_; rintro e w1 ⟨rfl, hB⟩)
    go_ret
    exact ⟨rfl, hB⟩
  have d4 : decide (to < at_) = false := by simp; omega
  by_cases c5 : 20000 < to
  · have d5 : decide ((20000 : Int) < to) = true := by simp; omega
    go_enter Try.func9, Try.ntmps9
    go_wp2_with (go_at_call 23; refine (awake_any _).mono ?_; rintro e w1 ⟨rfl, hB⟩)
    go_ret
    exact ⟨rfl, hB⟩
  have d5 : decide ((20000 : Int) < to) = false := by simp; omega
  have c6 : to - at_ < 4 := by have := H.out; omega
  have d6 : decide (to - at_ < 4) = true := by simp; omega
  go_enter Try.func9, Try.ntmps9
  go_wp2_with (go_at_call 23; refine (awake_any _).mono ?_; rintro e w1 ⟨rfl, hB⟩)
  go_ret
  exact ⟨rfl, hB⟩

set_option maxRecDepth 100000 in
set_option maxHeartbeats 2000000 in
theorem numsOrder_any (A : Option Addr) (n c : Nat) (at_ to u v : Int) (f : Nat → Nat) (w : World) (hR : Row w A n f) (hcap : n ≤ c ∧ c ≤ 9223372036854775807) (h0 : -9223372036854775808 ≤ at_ ∧ at_ ≤ 9223372036854775807) (k0 : -9223372036854775808 ≤ to ∧ to ≤ 9223372036854775807)
    (hu : 0 ≤ u ∧ u < 4294967296) (hv : 0 ≤ v ∧ v < 4294967296) :
    Calls Try.prog 9 #[.slice A n c, .int .i64 at_, .int .i64 to, .int .u32 u, .int .u32 v] w fun e w' => e = .returned (.bool true) ∧ Below w.heap.size w w' := by
  by_cases h : 20000 < n ∨ at_ < 0 ∨ 20000 < at_ ∨ to < at_ ∨ 20000 < to ∨ to - at_ < 4
  · exact numsOrder_early A n c at_ to u v w (by omega) h0.1 h0.2 k0.1 k0.2 h
  have HR := Lib.hid hR
  have d1 : decide ((20000 : Int) < n) = false := by simp; omega
  have d2 : decide (at_ < 0) = false := by simp; omega
  have d3 : decide ((20000 : Int) < at_) = false := by simp; omega
  have d4 : decide (to < at_) = false := by simp; omega
  have d5 : decide ((20000 : Int) < to) = false := by simp; omega
  have d6 : decide (to - at_ < 4) = false := by simp; omega
  have hn' : n ≤ 140737488355328 := by omega
  have hn2 : n ≤ 20000 := by omega
  have l1 : at_ + 4 ≤ to := by omega
  have l2 : 0 ≤ at_ := by omega
  have l3 : to ≤ 20000 := by omega
  have HSW := Lib.hid (fun i => q32_swap n f at_ to u v l1 i)
  have HVQ := Lib.hid (v32_q32 n f at_ to u v l1 l2 hu.1 hu.2)
  have HU := Lib.hid hu
  have HV := Lib.hid hv
  obtain ⟨i0, hi0, hz0, hz1, hz2⟩ := info_parts u8_info
  clear h hR hcap h0 k0 hu hv
  go_enter Try.func9, Try.ntmps9
  go_wp2_with fail
  refine (awake_any _).mono ?_
  rintro e w1 ⟨rfl, hB1⟩
  have HR1 := Lib.hid (HR.out.below hB1)
  have HB1 := Lib.hid hB1
  clear hB1
  go_wp2_with (first
    | (at_builtin; refine at_append_nil _ rfl (.tmp 48) (.tmp 49) _ rfl 5 i0 Try.underlying22 hi0 hz0 hz1 hz2 rfl A n c f rfl HR1.out (by omega) ?_; intro A1 c1 w2 hc1 hc2 hO1 hB; have HO1 := Lib.hid hO1; have HB2 := Lib.hid (HB1.out.trans (hB.mono HB1.out.size)); have HR2 := Lib.hid (HR1.out.below hB); clear hO1 hB hc1 hc2)
    | (at_builtin; refine at_append_nil _ rfl (.tmp 51) (.tmp 52) _ rfl 5 i0 Try.underlying22 hi0 hz0 hz1 hz2 rfl A n c f rfl HR2.out (by omega) ?_; intro A2 c2 w3 hc1 hc2 hO2 hB; have HO2 := Lib.hid hO2; have HB3 := Lib.hid (HB2.out.trans (hB.mono HB2.out.size)); have HP1 := Lib.hid (HO1.out.below hB); have HAP := Lib.hid (apart_of HO1.out hO2); clear hO2 hB hc1 hc2))
  refine (Put32_any _ _ _ n _ _ _ f _ hn' (Nat.le_refl _) HP1.out HU.out.1 HU.out.2).mono ?_
  rintro e w4 ⟨rfl, o, m⟩
  have HX4 := Lib.hid o
  have HY4 := Lib.hid (HO2.out.mut m HAP.out.symm)
  have HB4 := Lib.hid (HB3.out.trans (m.below HB1.out.size HB3.out.size))
  clear o m HP1 HO2
  go_wp2_with fail
  refine (Put32_any _ _ _ n _ _ _ _ _ hn' (Nat.le_refl _) HX4.out HV.out.1 HV.out.2).mono ?_
  rintro e w5 ⟨rfl, o, m⟩
  have HX5 := Lib.hid o
  have HY5 := Lib.hid (HY4.out.mut m HAP.out.symm)
  have HB5 := Lib.hid (HB4.out.trans (m.below HB1.out.size HB4.out.size))
  clear o m HX4 HY4
  go_wp2_with fail
  refine (Put32_any _ _ _ n _ _ _ _ _ hn' (Nat.le_refl _) HY5.out HV.out.1 HV.out.2).mono ?_
  rintro e w6 ⟨rfl, o, m⟩
  have HY6 := Lib.hid o
  have HX6 := Lib.hid (HX5.out.mut m HAP.out)
  have HB6 := Lib.hid (HB5.out.trans (m.below HB2.out.size HB5.out.size))
  clear o m HX5 HY5
  go_wp2_with fail
  refine (Put32_any _ _ _ n _ _ _ _ _ hn' (Nat.le_refl _) HY6.out HU.out.1 HU.out.2).mono ?_
  rintro e w7 ⟨rfl, o, m⟩
  have HY7 := Lib.hid (o.row (Nat.le_refl n))
  have HX7 := Lib.hid ((HX6.out.mut m HAP.out).row (Nat.le_refl n))
  have HB7 := Lib.hid (HB6.out.trans (m.below HB2.out.size HB6.out.size))
  clear o m HX6 HY6
  go_wp2_with fail
  go_loopw [17] (fun i wr => (∃ k : Nat, k ≤ n ∧ i = .int .i64 k) ∧ ∃ d, wr = w7.drewN d) (fun i _ => n - (intOf i).toNat)
  case atStart => exact ⟨⟨0, Nat.zero_le _, rfl⟩, 0, rfl⟩
  case round =>
    obtain ⟨⟨k, hk, rfl⟩, dd, rfl⟩ := hrel
    by_cases hlt : k < n
    · obtain ⟨b, o, rfl, _, hc⟩ := HX7.out.2 (by omega)
      obtain ⟨b', o', rfl, _, hc'⟩ := HY7.out.2 (by omega)
      have ck := hc k hlt
      have ck' := hc' k hlt
      rw [HSW.out k] at ck
      have j1 : (0 : Int) ≤ k := by omega
      have j2 : (k : Int) < n := by omega
      clear hc hc'
      go_wp2
      go_quiet (fail)
      go_wp2
      go_roundw
      case rel => exact ⟨⟨k + 1, by omega, by go_num⟩, _, rfl⟩
      case measure => simp [intOf]; omega
    · have hk : k = n := by omega
      have d7 : decide ((k : Int) < n) = false := by simp; omega
      go_wp2_with fail
      refine (Get32_any _ _ _ _ _ _ hn' (by exact HX7.out)).mono ?_
      rintro e w' ⟨rfl, rfl⟩
      rcases Bool.eq_false_or_eq_true (b32 n at_) with hb | hb
      · rw [hb, HVQ.out hb]
        clear hb
        go_wp2_with fail
        go_ret
        exact ⟨rfl, HB7.out.drewN _⟩
      · rw [hb]
        clear hb
        go_wp2_with fail
        go_ret
        exact ⟨rfl, HB7.out.drewN _⟩

end Go.Proofs.Ytogdjjanladghaa
