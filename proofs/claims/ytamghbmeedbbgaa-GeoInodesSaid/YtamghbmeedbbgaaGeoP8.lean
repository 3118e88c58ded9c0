import Derived.Test.YtamghbmeedbbgaaGeoP7
import Derived.Test.YtamghbmeedbbgaaGeoM3
namespace Go.Proofs.Ytamghbmeedbbgaa
open Go.RowKit Go.Shelf Go.BigFrame

/-! What find finds; Data, Start. -/
theorem part_of_kind {g : GeoV} {k : Nat} (hk : k < numG g) (h : 4 ≤ (partG g k).kind) : May g ∧ ∃ q r : Nat, (q : Int) < g.gr ∧ r < 4 ∧ partG g k = inG g q r := by
  have hm : May g := by
    by_cases h : May g
    · exact h
    · unfold numG at hk; rw [if_neg h] at hk; omega
  unfold numG at hk
  rw [if_pos hm] at hk
  have := hm.1
  match k with
  | 0 => simp [partG] at h
  | 1 => simp [partG] at h
  | 2 => simp [partG] at h
  | k + 3 => exact ⟨hm, k / 4, k % 4, by omega, Nat.mod_lt _ (by omega), rfl⟩
theorem num_in {g : GeoV} (hm : May g) {q r : Nat} (hq : (q : Int) < g.gr) (hr : r < 4) : 3 + 4 * q + r < numG g := by
  unfold numG
  rw [if_pos hm]
  have := hm.1
  omega
theorem start_in {g : GeoV} (hm : May g) {q : Nat} (hq : (q : Int) < g.gr) : inGroup g q = true ∧ startG g q = baseG g q := by
  have h : inGroup g q = true := by unfold inGroup; exact decide_eq_true ⟨hm, by omega, hq⟩
  exact ⟨h, by unfold startG; rw [h]; rfl⟩
theorem found_data {g : GeoV} {p : PartV} {b : Bool} (h : Found g 7 0 p b) : p.cnt = dataG g := by
  rcases h with ⟨rfl, k, hk, rfl, h1, h2⟩ | ⟨rfl, rfl, h⟩
  · obtain ⟨hm, q, r, hq, hr, e⟩ := part_of_kind hk (by omega)
    rw [e] at h1 ⊢
    have h3 : r = 0 ∨ r = 1 ∨ r = 2 ∨ r = 3 := by omega
    rcases h3 with rfl | rfl | rfl | rfl <;> simp [inG] at h1
    unfold dataG
    rw [if_pos hm]
    show g.sz - ownG g = _
    unfold ownG
    omega
  · unfold dataG
    rw [if_neg]
    · rfl
    · intro hm
      have := hm.1
      refine h (3 + 4 * 0 + 3) (num_in hm (by omega) (by omega)) ?_
      rw [partG_in g 0 (by omega)]
      exact ⟨rfl, rfl⟩
theorem found_start {g : GeoV} {q : Int} {p : PartV} {b : Bool} (h : Found g 4 q p b) : p.first = startG g q ∧ b = inGroup g q := by
  rcases h with ⟨rfl, k, hk, rfl, h1, h2⟩ | ⟨rfl, rfl, h⟩
  · obtain ⟨hm, q', r, hq, hr, e⟩ := part_of_kind hk (by omega)
    rw [e] at h1 h2 ⊢
    have h3 : r = 0 ∨ r = 1 ∨ r = 2 ∨ r = 3 := by omega
    rcases h3 with rfl | rfl | rfl | rfl <;> simp [inG] at h1
    simp only [inG] at h2 ⊢
    subst h2
    obtain ⟨e1, e2⟩ := start_in hm hq
    exact ⟨e2.symm, e1.symm⟩
  · have hn : inGroup g q = false := by
      unfold inGroup
      refine decide_eq_false fun ⟨hm, h1, h2⟩ => ?_
      obtain ⟨n, rfl⟩ := Int.eq_ofNat_of_zero_le h1
      refine h (3 + 4 * n + 0) (num_in hm h2 (by omega)) ?_
      rw [partG_in g n (by omega)]
      exact ⟨rfl, rfl⟩
    refine ⟨?_, hn.symm⟩
    unfold startG
    rw [hn]
    rfl
theorem found_table {g : GeoV} {q : Int} {p : PartV} {b : Bool} (h : Found g 6 q p b) (hq : inGroup g q = true) : p.first = startG g q + 2 ∧ b = true := by
  have hq' := of_decide_eq_true hq
  rcases h with ⟨rfl, k, hk, rfl, h1, h2⟩ | ⟨rfl, rfl, h⟩
  · obtain ⟨hm, q', r, hq3, hr, e⟩ := part_of_kind hk (by omega)
    rw [e] at h1 h2 ⊢
    have h3 : r = 0 ∨ r = 1 ∨ r = 2 ∨ r = 3 := by omega
    rcases h3 with rfl | rfl | rfl | rfl <;> simp [inG] at h1
    simp only [inG] at h2 ⊢
    subst h2
    obtain ⟨e1, e2⟩ := start_in hm hq3
    exact ⟨by rw [e2], trivial⟩
  · exfalso
    obtain ⟨n, rfl⟩ := Int.eq_ofNat_of_zero_le hq'.2.1
    refine h (3 + 4 * n + 2) (num_in hq'.1 hq'.2.2 (by omega)) ?_
    rw [partG_in g n (by omega)]
    exact ⟨rfl, rfl⟩

set_option maxRecDepth 100000 in
set_option maxHeartbeats 1000000 in
theorem pData (g : GeoV) (w : World) (hg : g.Fits) : Calls Try.prog 20 #[.agg (gcs g)] w fun e w' => e = .returned (.int .i64 (dataG g)) ∧ Below w.heap.size w w' := by
  have V1 : Hid (GVar (w.alloc (.cells (gcs g) 23)) w.heap.size g) := Lib.hid (heap_alloc_new w _)
  have B1 := Lib.hid (below_alloc2 w (.cells (gcs g) 23))
  have HG := Lib.hid hg
  clear hg
  go_enter Try.func20, Try.ntmps20
  go_wp2_with (first | (refine load_geo rfl (.tmp 1) rfl w.heap.size 0 rfl g V1.out.at ?_) | (go_at_call 29; refine (pFind g 7 0 _ HG.out).mono ?_; rintro e w2 ⟨p, b, rfl, hf, hb⟩; have hd := found_data hf; obtain ⟨k1, k2, k3, k4, k5⟩ := p; have HD := Lib.hid hd; clear hd hf; unfold pcs))
  go_ret
  exact ⟨by rw [← HD.out]; rfl, (B1.out.trans (hb.mono B1.out.size)).alloc (Nat.le_trans B1.out.size hb.size) _⟩
set_option maxRecDepth 100000 in
set_option maxHeartbeats 1000000 in
theorem pStart (g : GeoV) (k : Int) (w : World) (hg : g.Fits) : Calls Try.prog 10 #[.agg (gcs g), .int .i64 k] w fun e w' => e = .returned (.tuple #[.int .i64 (startG g k), .bool (inGroup g k)]) ∧ Below w.heap.size w w' := by
  have V1 : Hid (GVar (w.alloc (.cells (gcs g) 23)) w.heap.size g) := Lib.hid (heap_alloc_new w _)
  have B1 := Lib.hid (below_alloc2 w (.cells (gcs g) 23))
  have HG := Lib.hid hg
  clear hg
  go_enter Try.func10, Try.ntmps10
  go_wp2_with (first | (refine load_geo rfl (.tmp 2) rfl w.heap.size 0 rfl g V1.out.at ?_) | (go_at_call 29; refine (pFind g 4 k _ HG.out).mono ?_; rintro e w2 ⟨p, b, rfl, hf, hb⟩; have hd := found_start hf; obtain ⟨k1, k2, k3, k4, k5⟩ := p; have HD := Lib.hid hd; clear hd hf; unfold pcs))
  go_ret2
  exact ⟨by rw [← HD.out.1, ← HD.out.2]; rfl, (B1.out.trans (hb.mono B1.out.size)).alloc (Nat.le_trans B1.out.size hb.size) _⟩
set_option maxRecDepth 100000 in
set_option maxHeartbeats 1000000 in
theorem pHome (g : GeoV) (n : Int) (w : World) (hg : g.Fits) (hn : I64 n) : Calls Try.prog 24 #[.agg (gcs g), .int .i64 n] w fun e w' => e = .returned (.tuple #[.int .i64 (homeG g n).1, .int .i64 (homeG g n).2, .bool (inInode g n)]) ∧ Below w.heap.size w w' := by
  have V1 : Hid (GVar (w.alloc (.cells (gcs g) 23)) w.heap.size g) := Lib.hid (heap_alloc_new w _)
  have B1 := Lib.hid (below_alloc2 w (.cells (gcs g) 23))
  have HG := Lib.hid hg
  have H64 := Lib.hid hn
  clear hg hn
  cases hi : inInode g n
  · have CW : Hid (∀ W, Calls Try.prog 32 #[.int .i64 n, .int .i64 1, .int .i64 (inodesG g)] W fun e w' => e = .returned (.bool false) ∧ Below W.heap.size W w') := Lib.hid fun W => within_any _ _ _ W false (by unfold inInode at hi; rw [← Bool.decide_and]; exact hi)
    have HH : Hid (homeG g n = (0, 0)) := Lib.hid (by unfold homeG; rw [hi]; rfl)
    clear hi
    go_enter Try.func24, Try.ntmps24
    go_wp2_with (first | (refine load_geo rfl (.tmp 2) rfl w.heap.size 0 rfl g V1.out.at ?_) | (go_at_call 18; refine (pInodes g _ HG.out).mono ?_; rintro e w2 ⟨rfl, hb⟩) | (go_at_call 32; refine (CW.out _).mono ?_; rintro e w3 ⟨rfl, hb3⟩))
    refine bodyPost_ret (v := .tuple #[.int .i64 0, .int .i64 0, .bool false]) (by simp [results, Try.f24, go_sem]) rfl ⟨by rw [HH.out], (B1.out.trans (hb.mono B1.out.size)).trans (hb3.mono (Nat.le_trans B1.out.size hb.size))⟩
  · have CW : Hid (∀ W, Calls Try.prog 32 #[.int .i64 n, .int .i64 1, .int .i64 (inodesG g)] W fun e w' => e = .returned (.bool true) ∧ Below W.heap.size W w') := Lib.hid fun W => within_any _ _ _ W true (by unfold inInode at hi; rw [← Bool.decide_and]; exact hi)
    obtain ⟨hm, r1, r2⟩ := in_may hi
    obtain ⟨m1, m2, m3, m4, m5, m6, m7, m8, m9, m10, m11⟩ := hm
    have HH : Hid (homeG g n = ((n - 1) / g.ino, (n - 1) % g.ino)) := Lib.hid (home_in hi)
    have r3 : g.gr * g.ino ≤ 4 * 64 := Int.mul_le_mul m2 m6 (by omega) (by omega)
    clear hi
    have e0 : (g.ino == 0) = false := by simp; omega
    go_enter Try.func24, Try.ntmps24
    go_wp2_with (first | (refine load_geo rfl (.tmp 2) rfl w.heap.size 0 rfl g V1.out.at ?_) | (go_at_call 18; refine (pInodes g _ HG.out).mono ?_; rintro e w2 ⟨rfl, hb⟩) | (go_at_call 32; refine (CW.out _).mono ?_; rintro e w3 ⟨rfl, hb3⟩))
    have V3 := Lib.hid ((V1.out.below hb).below hb3)
    have c2 := V3.out.c2
    go_region
    go_wp2
    refine bodyPost_ret (v := .tuple #[.int .i64 ((n - 1) / g.ino), .int .i64 ((n - 1) % g.ino), .bool true]) (by simp [results, Try.f24, go_sem]) rfl ⟨by rw [HH.out], ((B1.out.trans (hb.mono B1.out.size)).trans (hb3.mono (Nat.le_trans B1.out.size hb.size))).drew⟩
theorem start_fits {g : GeoV} {k : Int} (h : inGroup g k = true) : 0 ≤ startG g k ∧ startG g k ≤ 2048 := by
  obtain ⟨hm, h1, h2⟩ := of_decide_eq_true h
  obtain ⟨n, rfl⟩ := Int.eq_ofNat_of_zero_le h1
  have := inG_first hm (Int.le_of_lt h2)
  rw [(start_in hm h2).2]
  omega
set_option maxRecDepth 100000 in
set_option maxHeartbeats 1000000 in
theorem pInode (g : GeoV) (n : Int) (w : World) (hg : g.Fits) (hn : I64 n) : Calls Try.prog 22 #[.agg (gcs g), .int .i64 n] w fun e w' => e = .returned (.tuple #[.int .i64 (inodeG g n).1, .int .i64 (inodeG g n).2, .bool (inInode g n)]) ∧ Below w.heap.size w w' := by
  have V1 : Hid (GVar (w.alloc (.cells (gcs g) 23)) w.heap.size g) := Lib.hid (heap_alloc_new w _)
  have B1 := Lib.hid (below_alloc2 w (.cells (gcs g) 23))
  have HG := Lib.hid hg
  have CH : Hid (∀ W, Calls Try.prog 24 #[.agg (gcs g), .int .i64 n] W fun e w' => e = .returned (.tuple #[.int .i64 (homeG g n).1, .int .i64 (homeG g n).2, .bool (inInode g n)]) ∧ Below W.heap.size W w') := Lib.hid fun W => pHome g n W hg hn
  clear hg hn
  cases hi : inInode g n
  · have HH : Hid (inodeG g n = (0, 0)) := Lib.hid (by unfold inodeG; rw [hi]; rfl)
    rw [hi] at CH
    clear hi
    generalize homeG g n = h at CH
    go_enter Try.func22, Try.ntmps22
    go_wp2_with (first | (refine load_geo rfl (.tmp 2) rfl w.heap.size 0 rfl g V1.out.at ?_) | (go_at_call 24; refine (CH.out _).mono ?_; rintro e w2 ⟨rfl, hb⟩))
    refine bodyPost_ret (v := .tuple #[.int .i64 0, .int .i64 0, .bool false]) (by simp [results, Try.f22, go_sem]) rfl ⟨by rw [HH.out], B1.out.trans (hb.mono B1.out.size)⟩
  · obtain ⟨b1, b2, b3, b4⟩ := home_bounds hi
    have hm := (in_may hi).1
    have hin : inGroup g (homeG g n).1 = true := decide_eq_true ⟨hm, b1, b2⟩
    have HH : Hid (inodeG g n = (startG g (homeG g n).1 + 2 + (homeG g n).2 / 4, (homeG g n).2 % 4 * 64)) := Lib.hid (by unfold inodeG; rw [hi]; rfl)
    have hs := start_fits hin
    have b5 : (homeG g n).2 < 64 := by have := hm.2.2.2.2.2.1; omega
    rw [hi] at CH
    have HI := Lib.hid hin
    clear hi hm hin b1 b2 b4
    generalize homeG g n = h at *
    obtain ⟨q, i⟩ := h
    simp only at hs b3 b5
    have HST : Hid (∀ p b, Found g 6 q p b → p.first = startG g q + 2 ∧ b = true) := Lib.hid fun p b hf => found_table hf HI.out
    generalize startG g q = st at *
    go_enter Try.func22, Try.ntmps22
    go_wp2_with (first | (refine load_geo rfl (.tmp 2) rfl w.heap.size 0 rfl g (by first | exact V1.out.at | exact (V1.out.below hb).at) ?_) | (go_at_call 24; refine (CH.out _).mono ?_; rintro e w2 ⟨rfl, hb⟩) | (go_at_call 29; refine (pFind g 6 q _ HG.out).mono ?_; rintro e w3 ⟨p, b, rfl, hf, hb3⟩; obtain ⟨hd, rfl⟩ := HST.out _ _ hf; obtain ⟨k1, k2, k3, k4, k5⟩ := p; simp only at hd; subst hd; clear hf; unfold pcs))
    refine bodyPost_ret (v := .tuple #[.int .i64 (st + 2 + i / 4), .int .i64 (i % 4 * 64), .bool true]) (by simp [results, Try.f22, go_sem]) rfl ⟨by rw [HH.out], ?_⟩
    have b2 := B1.out.trans (hb.mono B1.out.size)
    have b3 := b2.trans (hb3.mono b2.size)
    exact b3.alloc b3.size _
theorem num_no {g : GeoV} {k i : Int} (h : ¬ (inGroup g k = true ∧ 0 ≤ i ∧ i < g.ino)) : numberG g k i = 0 := by unfold numberG; rw [if_neg h]
set_option maxRecDepth 100000 in
set_option maxHeartbeats 1000000 in
theorem pNumber (g : GeoV) (k i : Int) (w : World) (hg : g.Fits) : Calls Try.prog 27 #[.agg (gcs g), .int .i64 k, .int .i64 i] w fun e w' => e = .returned (.int .i64 (numberG g k i)) ∧ Below w.heap.size w w' := by
  have V1 : Hid (GVar (w.alloc (.cells (gcs g) 23)) w.heap.size g) := Lib.hid (heap_alloc_new w _)
  have B1 := Lib.hid (below_alloc2 w (.cells (gcs g) 23))
  by_cases hm : May g
  · have CM : Hid (∀ W, Calls Try.prog 14 #[.agg (gcs g)] W fun e w' => e = .returned (.bool true) ∧ Below W.heap.size W w') := Lib.hid fun W => (pMay g W hg).mono fun e w' q => ⟨by rw [q.1]; unfold mayB; rw [decide_eq_true hm], q.2⟩
    have HM := Lib.hid hm
    obtain ⟨m1, m2, m3, m4, m5, m6, m7, m8, m9, m10, m11⟩ := hm
    by_cases h1 : 0 ≤ k ∧ k < g.gr
    · have C1 : Hid (∀ W, Calls Try.prog 32 #[.int .i64 k, .int .i64 0, .int .i64 (g.gr - 1)] W fun e w' => e = .returned (.bool true) ∧ Below W.heap.size W w') := Lib.hid fun W => within_any _ _ _ W true (by simp; omega)
      by_cases h2 : 0 ≤ i ∧ i < g.ino
      · have C2 : Hid (∀ W, Calls Try.prog 32 #[.int .i64 i, .int .i64 0, .int .i64 (g.ino - 1)] W fun e w' => e = .returned (.bool true) ∧ Below W.heap.size W w') := Lib.hid fun W => within_any _ _ _ W true (by simp; omega)
        have HN : Hid (numberG g k i = k * g.ino + i + 1) := Lib.hid (by unfold numberG; rw [if_pos ⟨decide_eq_true ⟨HM.out, h1⟩, h2⟩])
        have r1 : 0 ≤ k * g.ino := Int.mul_nonneg h1.1 (by omega)
        have r2 : k * g.ino ≤ 4 * 64 := Int.mul_le_mul (by omega) m6 (by omega) (by omega)
        clear hg
        go_enter Try.func27, Try.ntmps27
        go_wp2_with (first | (refine load_geo rfl (.tmp 3) rfl w.heap.size 0 rfl g V1.out.at ?_) | (go_at_call 14; refine (CM.out _).mono ?_; rintro e w2 ⟨rfl, hb2⟩; have V2 := Lib.hid (V1.out.below hb2); have c0 := V2.out.c0) | (go_at_call 32; with_reducible refine (C1.out _).mono ?_; rintro e w3 ⟨rfl, hb3⟩; have V3 := Lib.hid (V2.out.below hb3); have c2 := V3.out.c2) | (go_at_call 32; with_reducible refine (C2.out _).mono ?_; rintro e w4 ⟨rfl, hb4⟩; have V4 := Lib.hid (V3.out.below hb4); have d2 := V4.out.c2))
        go_ret
        have b2 := B1.out.trans (hb2.mono B1.out.size)
        have b3 := b2.trans (hb3.mono b2.size)
        exact ⟨by rw [HN.out]; rfl, b3.trans (hb4.mono b3.size)⟩
      · have C2 : Hid (∀ W, Calls Try.prog 32 #[.int .i64 i, .int .i64 0, .int .i64 (g.ino - 1)] W fun e w' => e = .returned (.bool false) ∧ Below W.heap.size W w') := Lib.hid fun W => within_any _ _ _ W false (by simp; omega)
        have HN : Hid (numberG g k i = 0) := Lib.hid (num_no fun z => h2 z.2)
        clear hg h2
        go_enter Try.func27, Try.ntmps27
        go_wp2_with (first | (refine load_geo rfl (.tmp 3) rfl w.heap.size 0 rfl g V1.out.at ?_) | (go_at_call 14; refine (CM.out _).mono ?_; rintro e w2 ⟨rfl, hb2⟩; have V2 := Lib.hid (V1.out.below hb2); have c0 := V2.out.c0) | (go_at_call 32; with_reducible refine (C1.out _).mono ?_; rintro e w3 ⟨rfl, hb3⟩; have V3 := Lib.hid (V2.out.below hb3); have c2 := V3.out.c2) | (go_at_call 32; with_reducible refine (C2.out _).mono ?_; rintro e w4 ⟨rfl, hb4⟩))
        go_ret
        have b2 := B1.out.trans (hb2.mono B1.out.size)
        have b3 := b2.trans (hb3.mono b2.size)
        exact ⟨by rw [HN.out]; rfl, b3.trans (hb4.mono b3.size)⟩
    · have C1 : Hid (∀ W, Calls Try.prog 32 #[.int .i64 k, .int .i64 0, .int .i64 (g.gr - 1)] W fun e w' => e = .returned (.bool false) ∧ Below W.heap.size W w') := Lib.hid fun W => within_any _ _ _ W false (by simp; omega)
      have HN : Hid (numberG g k i = 0) := Lib.hid (num_no fun z => h1 (of_decide_eq_true z.1).2)
      clear hg h1
      go_enter Try.func27, Try.ntmps27
      go_wp2_with (first | (refine load_geo rfl (.tmp 3) rfl w.heap.size 0 rfl g V1.out.at ?_) | (go_at_call 14; refine (CM.out _).mono ?_; rintro e w2 ⟨rfl, hb2⟩; have V2 := Lib.hid (V1.out.below hb2); have c0 := V2.out.c0) | (go_at_call 32; with_reducible refine (C1.out _).mono ?_; rintro e w3 ⟨rfl, hb3⟩))
      go_ret
      have b2 := B1.out.trans (hb2.mono B1.out.size)
      exact ⟨by rw [HN.out]; rfl, b2.trans (hb3.mono b2.size)⟩
  · have CM : Hid (∀ W, Calls Try.prog 14 #[.agg (gcs g)] W fun e w' => e = .returned (.bool false) ∧ Below W.heap.size W w') := Lib.hid fun W => (pMay g W hg).mono fun e w' q => ⟨by rw [q.1]; unfold mayB; rw [decide_eq_false hm], q.2⟩
    have HN : Hid (numberG g k i = 0) := Lib.hid (num_no fun z => hm (of_decide_eq_true z.1).1)
    clear hg hm
    go_enter Try.func27, Try.ntmps27
    go_wp2_with (first | (refine load_geo rfl (.tmp 3) rfl w.heap.size 0 rfl g V1.out.at ?_) | (go_at_call 14; refine (CM.out _).mono ?_; rintro e w2 ⟨rfl, hb2⟩))
    go_ret
    exact ⟨by rw [HN.out]; rfl, B1.out.trans (hb2.mono B1.out.size)⟩
theorem pGeoSays : GeoSays where
  may := fun g w hg => pMay g w hg
  blocks := fun g w hg => pBlocks g w hg
  inodes := fun g w hg => pInodes g w hg
  data := fun g w hg => pData g w hg
  start := fun g k w hg _ => pStart g k w hg
  what := fun g b w hg hb => pWhat g b w hg hb
  inode := fun g n w hg hn => pInode g n w hg hn
  home := fun g n w hg hn => pHome g n w hg hn
  number := fun g k i w hg _ _ => pNumber g k i w hg
end Go.Proofs.Ytamghbmeedbbgaa
