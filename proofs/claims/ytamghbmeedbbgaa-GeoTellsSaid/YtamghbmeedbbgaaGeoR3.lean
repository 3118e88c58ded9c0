import Derived.Test.YtamghbmeedbbgaaGeoR2
import Derived.Test.YtamghbmeedbbgaaGeoM4
namespace Go.Proofs.Ytamghbmeedbbgaa
open Go.RowKit

/-! The document's own answers over its list: What, Data, Start. -/
set_option maxRecDepth 100000 in
set_option maxHeartbeats 1000000 in
theorem rWhat (g : GeoV) (b : Int) (w : World) (hb64 : I64 b) : Calls Try.prog 13 #[.agg (gcs g), .int .i64 b] w fun e w' => e = .returned (.tuple #[.int .u8 (whatG g b).1, .int .i64 (whatG g b).2.1, .int .i64 (whatG g b).2.2]) ∧ Below w.heap.size w w' := by
  have P0 := Lib.hid (gp_start w g)
  have BF := Lib.hid (blocks_fits g)
  obtain ⟨n, hn⟩ : ∃ n, (blocksG g).toNat = n := ⟨_, rfl⟩
  have HN : Hid (blocksG g = (n : Int)) := Lib.hid (by have := BF.out; omega)
  by_cases h0 : 0 ≤ b
  · have t1 : decide (b < 0) = false := decide_eq_false (by omega)
    obtain ⟨k, rfl⟩ := Int.eq_ofNat_of_zero_le h0
    by_cases h1 : k < n
    · have t2 : decide ((n : Int) ≤ (k : Int)) = false := decide_eq_false (by omega)
      have t3 : decide (n ≤ k) = false := decide_eq_false (by omega)
      go_enter Try.func13, Try.ntmps13
      go_wp2_with (first
        | (refine load_geo rfl (.tmp 2) rfl w.heap.size 0 rfl g P0.out.2.at ?_)
        | (go_at_call 30; refine (rAll g _).mono ?_; rintro e w2 ⟨v, rfl, hT⟩; have hb := hT.gp.1; have HB := Lib.hid hb; clear hb; rw [hn] at hT; obtain ⟨A, cap, rfl, hth⟩ := hT.things; obtain ⟨bt, rfl, hlt, hcs⟩ := hth.view (by omega); have hle := hth.le; obtain ⟨e0, e1, e2, _⟩ := hcs k h1; clear hth hcs hT))
      go_region
      go_wp2
      refine bodyPost_ret (v := .tuple #[.int .u8 (whatG g k).1, .int .i64 (whatG g k).2.1, .int .i64 (whatG g k).2.2]) (by simp [results, Try.f13, go_sem]) rfl ⟨rfl, (P0.out.1.trans (HB.out.mono P0.out.1.size)).drew⟩
    · have t2 : decide ((n : Int) ≤ (k : Int)) = true := decide_eq_true (by omega)
      have t3 : decide (n ≤ k) = true := decide_eq_true (by omega)
      have hz : Hid (whatG g (k : Int) = (0, 0, 0)) := Lib.hid (by
        unfold whatG
        rw [if_pos (.inr (.inr (by rw [HN.out]; omega)))])
      go_enter Try.func13, Try.ntmps13
      go_wp2_with (first
        | (refine load_geo rfl (.tmp 2) rfl w.heap.size 0 rfl g P0.out.2.at ?_)
        | (go_at_call 30; refine (rAll g _).mono ?_; rintro e w2 ⟨v, rfl, hT⟩; have hb := hT.gp.1; have HB := Lib.hid hb; clear hb; rw [hn] at hT; obtain ⟨A, cap, rfl, hth⟩ := hT.things; clear hth hT))
      refine bodyPost_ret (v := .tuple #[.int .u8 0, .int .i64 0, .int .i64 0]) (by simp [results, Try.f13, go_sem]) rfl ⟨by rw [hz.out], P0.out.1.trans (HB.out.mono P0.out.1.size)⟩
  · have t1 : decide (b < 0) = true := decide_eq_true (by omega)
    have hz : Hid (whatG g b = (0, 0, 0)) := Lib.hid (by
      unfold whatG
      rw [if_pos (.inr (.inl (by omega)))])
    go_enter Try.func13, Try.ntmps13
    go_wp2_with (first
      | (refine load_geo rfl (.tmp 2) rfl w.heap.size 0 rfl g P0.out.2.at ?_)
      | (go_at_call 30; refine (rAll g _).mono ?_; rintro e w2 ⟨v, rfl, hT⟩; have hb := hT.gp.1; have HB := Lib.hid hb; clear hb; rw [hn] at hT; obtain ⟨A, cap, rfl, hth⟩ := hT.things; clear hth hT))
    refine bodyPost_ret (v := .tuple #[.int .u8 0, .int .i64 0, .int .i64 0]) (by simp [results, Try.f13, go_sem]) rfl ⟨by rw [hz.out], P0.out.1.trans (HB.out.mono P0.out.1.size)⟩
/-- Where the blocks of kind 4 stand. -/
theorem what_four {g : GeoV} {b : Nat} (hb : (b : Int) < blocksG g) {q : Int} (h4 : (whatG g (b : Int)).1 = 4) (hq : (whatG g (b : Int)).2.1 = q) : inGroup g q = true ∧ startG g q = b := by
  have hm : May g := by
    by_cases h : May g
    · exact h
    · unfold blocksG at hb; rw [if_neg h] at hb; omega
  rw [← first_num] at hb
  obtain ⟨k, hk, p1, p2⟩ := part_covers (g := g) (b := (b : Int)) (by omega) _ hb
  have hw := what_part hk p1 p2
  rw [hw] at h4 hq
  simp only at h4 hq
  match k with
  | 0 => simp [partG] at h4
  | 1 => simp [partG] at h4
  | 2 => simp [partG] at h4
  | k + 3 =>
    obtain ⟨_, q', r, hq', hr, e⟩ := part_of_kind' hk
    rw [e] at h4 hq p1 p2
    have h : r = 0 ∨ r = 1 ∨ r = 2 ∨ r = 3 := by omega
    rcases h with rfl | rfl | rfl | rfl <;> simp [inG] at h4
    simp only [inG] at hq p1 p2
    subst hq
    obtain ⟨s1, s2⟩ := start_in' hm hq'
    exact ⟨s1, by rw [s2]; omega⟩
theorem four_there {g : GeoV} {q : Int} (h : inGroup g q = true) : ∃ b : Nat, (b : Int) < blocksG g ∧ startG g q = b ∧ (whatG g (b : Int)).1 = 4 ∧ (whatG g (b : Int)).2.1 = q := by
  obtain ⟨hm, h1, h2⟩ := of_decide_eq_true h
  obtain ⟨n, rfl⟩ := Int.eq_ofNat_of_zero_le h1
  have hs := (start_in' hm h2).2
  have hw := what_at hm (k := (n : Int)) (a := 0) h1 h2 (by omega) (by have := hm.2.2.1; omega)
  have hf := start_fits' h
  refine ⟨(startG g n).toNat, ?_, by omega, ?_⟩
  · have hg := group_below (sz := g.sz) (a := 0) h2 (by have := hm.2.2.1; omega) (by have := hm.2.2.1; omega)
    unfold blocksG
    rw [if_pos hm, hs]
    unfold baseG at *
    have := Int.mul_nonneg (show (0 : Int) ≤ n by omega) (show 0 ≤ g.sz by have := hm.2.2.1; omega)
    have := hm.2.2.2.2.2.2.2.1
    omega
  · rw [show (((startG g n).toNat : Nat) : Int) = 2 + g.jr + n * g.sz + 0 by rw [Int.toNat_of_nonneg hf.1, hs]; unfold baseG; omega, hw]
    exact ⟨rfl, rfl⟩
set_option maxRecDepth 100000 in
set_option maxHeartbeats 1000000 in
theorem rStart (g : GeoV) (q : Int) (w : World) : Calls Try.prog 11 #[.agg (gcs g), .int .i64 q] w fun e w' => e = .returned (.tuple #[.int .i64 (startG g q), .bool (inGroup g q)]) ∧ Below w.heap.size w w' := by
  have P0 := Lib.hid (gp_start w g)
  have BF := Lib.hid (blocks_fits g)
  obtain ⟨n, hn⟩ : ∃ n, (blocksG g).toNat = n := ⟨_, rfl⟩
  have HN : Hid (blocksG g = (n : Int)) := Lib.hid (by have := BF.out; omega)
  have n2 : n ≤ 2048 := by have := BF.out; omega
  go_enter Try.func11, Try.ntmps11
  go_wp2_with (first
    | (refine load_geo rfl (.tmp 2) rfl w.heap.size 0 rfl g P0.out.2.at ?_)
    | (go_at_call 30; refine (rAll g _).mono ?_; rintro e w2 ⟨v, rfl, hT⟩; have HB := Lib.hid (P0.out.step hT.gp.1); rw [hn] at hT; obtain ⟨A, cap, rfl, hth⟩ := hT.things; have HT := Lib.hid hth; clear hth hT))
  clear hn
  go_loopw [7] (fun iv wr => ∃ i : Nat, i ≤ n ∧ iv = .int .i64 i ∧ wr = w2 ∧ Hid (∀ j : Nat, j < i → ¬ ((whatG g (j : Int)).1 = 4 ∧ (whatG g (j : Int)).2.1 = q))) (fun iv _ => n - (intOf iv).toNat)
  case atStart => exact ⟨0, by omega, rfl, rfl, Lib.hid fun j h => by omega⟩
  case round =>
    obtain ⟨i, hi, rfl, rfl, HNO⟩ := hrel
    by_cases hlt : i < n
    · obtain ⟨bt, rfl, hbt, hcs⟩ := HT.out.view (by omega)
      have hle := HT.out.le
      obtain ⟨e0, e1, _, _⟩ := hcs i hlt
      clear hcs
      have HF := Lib.hid (fun (a1 : (whatG g (i : Int)).1 = 4) (a2 : (whatG g (i : Int)).2.1 = q) => what_four (g := g) (by rw [HN.out]; omega) a1 a2)
      have HNX : ¬ ((whatG g (i : Int)).1 = 4 ∧ (whatG g (i : Int)).2.1 = q) → Hid (∀ j : Nat, j < i + 1 → ¬ ((whatG g (j : Int)).1 = 4 ∧ (whatG g (j : Int)).2.1 = q)) := fun h => Lib.hid fun j hj => by
        rcases Nat.lt_or_ge j i with u | u
        · exact HNO.out j u
        · obtain rfl : j = i := by omega
          exact h
      by_cases a1 : (whatG g (i : Int)).1 = 4
      · have u1 : ((whatG g (i : Int)).1 == 4) = true := by simp [a1]
        by_cases a2 : (whatG g (i : Int)).2.1 = q
        · have u2 : ((whatG g (i : Int)).2.1 == q) = true := by simp [a2]
          have HR := Lib.hid (HF.out a1 a2)
          clear a1 a2 HNX HF
          generalize whatG g (i : Int) = h at *
          obtain ⟨x, y, z⟩ := h
          go_wp2_with fail
          go_ret2
          exact ⟨by rw [HR.out.1, HR.out.2]; rfl, HB.out.1⟩
        · have u2 : ((whatG g (i : Int)).2.1 == q) = false := by simp [a2]
          replace HNX := HNX fun z => a2 z.2
          clear a1 a2 HF HNO
          generalize whatG g (i : Int) = h at *
          obtain ⟨x, y, z⟩ := h
          go_wp2_with fail
          go_roundw
          case rel => exact ⟨i + 1, by omega, by go_num, by first | rfl | trivial, HNX⟩
          case measure => simp [intOf]; omega
      · have u1 : ((whatG g (i : Int)).1 == 4) = false := by simp [a1]
        replace HNX := HNX fun z => a1 z.1
        clear a1 HF HNO
        generalize whatG g (i : Int) = h at *
        obtain ⟨x, y, z⟩ := h
        go_wp2_with fail
        go_roundw
        case rel => exact ⟨i + 1, by omega, by go_num, by first | rfl | trivial, HNX⟩
        case measure => simp [intOf]; omega
    · obtain rfl : i = n := by omega
      have hno : inGroup g q = false := by
        cases hg : inGroup g q
        · rfl
        · obtain ⟨b, b1, b2, b3, b4⟩ := four_there hg
          rw [HN.out] at b1
          exact absurd ⟨b3, b4⟩ (HNO.out b (by omega))
      have HR : Hid (startG g q = 0 ∧ inGroup g q = false) := Lib.hid ⟨by unfold startG; rw [hno]; rfl, hno⟩
      clear hno hlt
      go_wp2_with fail
      go_ret2
      exact ⟨by rw [HR.out.1, HR.out.2]; rfl, HB.out.1⟩
end Go.Proofs.Ytamghbmeedbbgaa
