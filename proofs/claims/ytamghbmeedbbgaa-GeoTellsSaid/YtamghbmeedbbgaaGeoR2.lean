import Derived.Test.YtamghbmeedbbgaaGeoR1
namespace Go.Proofs.Ytamghbmeedbbgaa
open Go.RowKit

theorem GP.geo {w a : World} {g : GeoV} (h : GP w g a) : GVar a w.heap.size g := h.2
/-! The document's own answers over its list: Blocks, Inodes, Number, What. -/
/-- A list of things as its reader sees it. -/
structure Things (W : World) (g : GeoV) (n : Nat) (A : Option Addr) (cap : Nat) : Prop where
  some : 0 < n → ∃ b, A = some ⟨b, 0, none⟩ ∧ b < W.heap.size ∧ ∀ k j v, k < n → j < 4 → (thingC g k)[j]? = some v → W.cell? ⟨b, k * 4 + j, none⟩ = some v
  le : n ≤ cap
theorem TRow.things {w W : World} {g : GeoV} {n : Nat} {v : Value} (h : TRow w g n v W) : ∃ A cap, v = .slice A n cap ∧ Things W g n A cap := by
  rcases h.own.2 with ⟨rfl, rfl⟩ | ⟨b, cap, cur, rfl, hb, hg, hc, _, hs, ht⟩
  · exact ⟨none, 0, rfl, fun h => by omega, Nat.le_refl _⟩
  · refine ⟨_, cap, rfl, fun _ => ⟨b, rfl, (Array.getElem?_eq_some_iff.1 hg).1, fun k j v hk hj hv => ?_⟩, hc⟩
    rw [cell_of_row W b _ _ _ _ hg]
    have h1 := tl_get (g := g) (n := n) hk hj
    rw [← ht, List.getElem?_take_of_lt (by omega), hv] at h1
    rw [← Array.getElem?_toList]
    exact h1
theorem Things.below {W W' : World} {g : GeoV} {n : Nat} {A : Option Addr} {cap : Nat} (h : Things W g n A cap) (hb : Below W.heap.size W W') : Things W' g n A cap :=
  ⟨fun hn => by
    obtain ⟨b, h1, h2, h3⟩ := h.some hn
    exact ⟨b, h1, Nat.lt_of_lt_of_le h2 hb.size, fun k j v hk hj hv => (hb.cell (p := ⟨b, _, none⟩) h2).trans (h3 k j v hk hj hv)⟩, h.le⟩
theorem Things.view {W : World} {g : GeoV} {n : Nat} {A : Option Addr} {cap : Nat} (h : Things W g n A cap) (hn : 0 < n) : ∃ b, A = Option.some ⟨b, 0, none⟩ ∧ b < W.heap.size ∧ ∀ k : Nat, k < n →
    W.cell? ⟨b, k * 4, none⟩ = Option.some (.int .u8 (whatG g k).1) ∧ W.cell? ⟨b, k * 4 + 1, none⟩ = Option.some (.int .i64 (whatG g k).2.1) ∧ W.cell? ⟨b, k * 4 + 2, none⟩ = Option.some (.int .i64 (whatG g k).2.2) ∧ W.cell? ⟨b, k * 4 + 3, none⟩ = Option.some (.int .i64 (inoW g k)) := by
  obtain ⟨b, h1, h2, h3⟩ := h.some hn
  exact ⟨b, h1, h2, fun k hk => ⟨h3 k 0 _ hk (by omega) rfl, h3 k 1 _ hk (by omega) rfl, h3 k 2 _ hk (by omega) rfl, h3 k 3 _ hk (by omega) rfl⟩⟩
theorem blocks_fits (g : GeoV) : 0 ≤ blocksG g ∧ blocksG g ≤ 2048 := by
  unfold blocksG
  split
  · rename_i hm
    have := Int.mul_nonneg (show 0 ≤ g.gr by have := hm.1; omega) (show 0 ≤ g.sz by have := hm.2.2.1; omega)
    have := hm.2.2.2.2.2.2.2.2.2.2
    have := hm.2.2.2.2.2.2.2.1
    omega
  · omega

set_option maxRecDepth 100000 in
theorem rBlocks (g : GeoV) (w : World) : Calls Try.prog 17 #[.agg (gcs g)] w fun e w' => e = .returned (.int .i64 (blocksG g)) ∧ Below w.heap.size w w' := by
  have P0 := Lib.hid (gp_start w g)
  have BF := Lib.hid (blocks_fits g)
  go_enter Try.func17, Try.ntmps17
  go_wp2_with (first
    | (refine load_geo rfl (.tmp 1) rfl w.heap.size 0 rfl g P0.out.2.at ?_)
    | (go_at_call 30; refine (rAll g _).mono ?_; rintro e w2 ⟨v, rfl, hT⟩; obtain ⟨A, cap, rfl, _⟩ := hT.things; have hb := hT.gp.1; have HB := Lib.hid hb; clear hb hT))
  go_ret
  refine ⟨?_, P0.out.1.trans (HB.out.mono P0.out.1.size)⟩
  show Ending.returned (.int .i64 (max (blocksG g) 0)) = _
  rw [Int.max_eq_left BF.out.1]
set_option maxRecDepth 100000 in
theorem rInodes (g : GeoV) (w : World) : Calls Try.prog 19 #[.agg (gcs g)] w fun e w' => e = .returned (.int .i64 (inodesG g)) ∧ Below w.heap.size w w' := by
  have P0 := Lib.hid (gp_start w g)
  by_cases hm : May g
  · have CM := Lib.hid (fun W => rMay_yes hm W)
    have ei : Hid (inodesG g = g.gr * g.ino) := Lib.hid (if_pos hm)
    have r1 : 0 ≤ g.gr * g.ino := Int.mul_nonneg (by have := hm.1; omega) (by have := hm.2.2.2.2.1; omega)
    have r2 : g.gr * g.ino ≤ 4 * 64 := Int.mul_le_mul hm.2.1 hm.2.2.2.2.2.1 (by have := hm.2.2.2.2.1; omega) (by omega)
    clear hm
    go_enter Try.func19, Try.ntmps19
    go_wp2_with (first
      | (refine load_geo rfl (.tmp 1) rfl w.heap.size 0 rfl g P0.out.2.at ?_)
      | (go_at_call 15; with_reducible refine (CM.out _).mono ?_; rintro e w2 ⟨rfl, hb⟩; have P := Lib.hid (P0.out.step hb); clear hb; have c0 := P.out.geo.c0; have c2 := P.out.geo.c2))
    go_ret
    exact ⟨by rw [ei.out]; rfl, P.out.1⟩
  · have CM := Lib.hid (fun W => rMay_no hm W)
    have ei : Hid (inodesG g = 0) := Lib.hid (if_neg hm)
    clear hm
    go_enter Try.func19, Try.ntmps19
    go_wp2_with (first
      | (refine load_geo rfl (.tmp 1) rfl w.heap.size 0 rfl g P0.out.2.at ?_)
      | (go_at_call 15; with_reducible refine (CM.out _).mono ?_; rintro e w2 ⟨rfl, hb⟩; have P := Lib.hid (P0.out.step hb); clear hb))
    go_ret
    exact ⟨by rw [ei.out]; rfl, P.out.1⟩
theorem num_no' {g : GeoV} {k i : Int} (h : ¬ (inGroup g k = true ∧ 0 ≤ i ∧ i < g.ino)) : numberG g k i = 0 := by unfold numberG; rw [if_neg h]
set_option maxRecDepth 100000 in
set_option maxHeartbeats 1000000 in
theorem rNumber (g : GeoV) (k i : Int) (w : World) : Calls Try.prog 26 #[.agg (gcs g), .int .i64 k, .int .i64 i] w fun e w' => e = .returned (.int .i64 (numberG g k i)) ∧ Below w.heap.size w w' := by
  have P0 := Lib.hid (gp_start w g)
  by_cases hm : May g
  · have CM := Lib.hid (fun W => rMay_yes hm W)
    have HM := Lib.hid hm
    obtain ⟨m1, m2, m3, m4, m5, m6, m7, m8, m9, m10, m11⟩ := hm
    by_cases h1 : 0 ≤ k
    · have t1 : decide (k < 0) = false := decide_eq_false (by omega)
      by_cases h2 : k < g.gr
      · have t2 : decide (g.gr ≤ k) = false := decide_eq_false (by omega)
        by_cases h3 : 0 ≤ i
        · have t3 : decide (i < 0) = false := decide_eq_false (by omega)
          by_cases h4 : i < g.ino
          · have t4 : decide (g.ino ≤ i) = false := decide_eq_false (by omega)
            have HN : Hid (numberG g k i = k * g.ino + i + 1) := Lib.hid (by unfold numberG; rw [if_pos ⟨decide_eq_true ⟨HM.out, h1, h2⟩, h3, h4⟩])
            have r1 : 0 ≤ k * g.ino := Int.mul_nonneg h1 (by omega)
            have r2 : k * g.ino ≤ 4 * 64 := Int.mul_le_mul (by omega) m6 (by omega) (by omega)
            go_enter Try.func26, Try.ntmps26
            go_wp2_with (first
              | (refine load_geo rfl (.tmp 3) rfl w.heap.size 0 rfl g P0.out.2.at ?_)
              | (go_at_call 15; with_reducible refine (CM.out _).mono ?_; rintro e w2 ⟨rfl, hb⟩; have P := Lib.hid (P0.out.step hb); clear hb; have c0 := P.out.geo.c0; have c2 := P.out.geo.c2))
            go_ret
            refine ⟨?_, P.out.1⟩
            rw [HN.out]
            show Ending.returned (.int .i64 _) = _
            congr 2
            omega
          · have t4 : decide (g.ino ≤ i) = true := decide_eq_true (by omega)
            have HN : Hid (numberG g k i = 0) := Lib.hid (num_no' fun z => h4 z.2.2)
            go_enter Try.func26, Try.ntmps26
            go_wp2_with (first
              | (refine load_geo rfl (.tmp 3) rfl w.heap.size 0 rfl g P0.out.2.at ?_)
              | (go_at_call 15; with_reducible refine (CM.out _).mono ?_; rintro e w2 ⟨rfl, hb⟩; have P := Lib.hid (P0.out.step hb); clear hb; have c0 := P.out.geo.c0; have c2 := P.out.geo.c2))
            go_ret
            exact ⟨by rw [HN.out]; rfl, P.out.1⟩
        · have t3 : decide (i < 0) = true := decide_eq_true (by omega)
          have HN : Hid (numberG g k i = 0) := Lib.hid (num_no' fun z => h3 z.2.1)
          go_enter Try.func26, Try.ntmps26
          go_wp2_with (first
            | (refine load_geo rfl (.tmp 3) rfl w.heap.size 0 rfl g P0.out.2.at ?_)
            | (go_at_call 15; with_reducible refine (CM.out _).mono ?_; rintro e w2 ⟨rfl, hb⟩; have P := Lib.hid (P0.out.step hb); clear hb; have c0 := P.out.geo.c0))
          go_ret
          exact ⟨by rw [HN.out]; rfl, P.out.1⟩
      · have t2 : decide (g.gr ≤ k) = true := decide_eq_true (by omega)
        have HN : Hid (numberG g k i = 0) := Lib.hid (num_no' fun z => h2 (of_decide_eq_true z.1).2.2)
        go_enter Try.func26, Try.ntmps26
        go_wp2_with (first
          | (refine load_geo rfl (.tmp 3) rfl w.heap.size 0 rfl g P0.out.2.at ?_)
          | (go_at_call 15; with_reducible refine (CM.out _).mono ?_; rintro e w2 ⟨rfl, hb⟩; have P := Lib.hid (P0.out.step hb); clear hb; have c0 := P.out.geo.c0))
        go_ret
        exact ⟨by rw [HN.out]; rfl, P.out.1⟩
    · have t1 : decide (k < 0) = true := decide_eq_true (by omega)
      have HN : Hid (numberG g k i = 0) := Lib.hid (num_no' fun z => h1 (of_decide_eq_true z.1).2.1)
      go_enter Try.func26, Try.ntmps26
      go_wp2_with (first
        | (refine load_geo rfl (.tmp 3) rfl w.heap.size 0 rfl g P0.out.2.at ?_)
        | (go_at_call 15; with_reducible refine (CM.out _).mono ?_; rintro e w2 ⟨rfl, hb⟩; have P := Lib.hid (P0.out.step hb); clear hb))
      go_ret
      exact ⟨by rw [HN.out]; rfl, P.out.1⟩
  · have CM := Lib.hid (fun W => rMay_no hm W)
    have HN : Hid (numberG g k i = 0) := Lib.hid (num_no' fun z => hm (of_decide_eq_true z.1).1)
    clear hm
    go_enter Try.func26, Try.ntmps26
    go_wp2_with (first
      | (refine load_geo rfl (.tmp 3) rfl w.heap.size 0 rfl g P0.out.2.at ?_)
      | (go_at_call 15; with_reducible refine (CM.out _).mono ?_; rintro e w2 ⟨rfl, hb⟩; have P := Lib.hid (P0.out.step hb); clear hb))
    go_ret
    exact ⟨by rw [HN.out]; rfl, P.out.1⟩
end Go.Proofs.Ytamghbmeedbbgaa
