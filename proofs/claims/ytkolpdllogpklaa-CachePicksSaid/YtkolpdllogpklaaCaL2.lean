import Derived.Test.YtkolpdllogpklaaCaL1
import Derived.Test.YtkolpdllogpklaaSteps
namespace Go.Proofs.Ytkolpdllogpklaa
open Go.RowKit Go.Maps

/-! CachePicks. -/
theorem dirty_back {c : CS} {M : List Blk} (h : Fine c M) {b : Int} (hb : b ∈ c.dirty) : (c.back b).dirty = c.dirty.filter fun k => decide (k ≠ b) := by
  have h1 := (mem_dirty.1 hb).1
  show pickL _ _ = (pickL _ _).filter _
  rw [CS.back_n]
  unfold pickL
  rw [List.filter_filter]
  refine List.filter_congr fun k _ => ?_
  rw [back_isD h h1.1 h1.2]
  by_cases e : k = b <;> simp [e]
theorem filter_len {l : List Int} (h : l.Nodup) {b : Int} (hb : b ∈ l) : (l.filter fun k => decide (k ≠ b)).length + 1 = l.length := by
  have h1 : (l.erase b) = l.filter fun k => decide (k ≠ b) := by
    rw [h.erase_eq_filter]
    refine List.filter_congr fun k _ => ?_
    by_cases e : k = b <;> simp [e]
  rw [← h1, List.length_erase_of_mem hb]
  have := List.length_pos_of_mem hb
  omega
theorem dirty_nodup (c : CS) : c.dirty.Nodup := rise_nodup (pickL_rise _ _)
/-- What Writeback makes of the one that it picks. -/
theorem back_picked {c : CS} {M : List Blk} (h : Fine c M) (hp : c.pin = fun _ => false) {b : Int} (hb : b ∈ c.dirty) : (c.back b).d.read b = M.getD b.toNat .zero ∧ b ∉ (c.back b).dirty ∧ b ∈ (c.back b).clean ∧ (c.back b).dirty.length + 1 = c.dirty.length ∧ (c.back b).d.err b = 0 := by
  obtain ⟨⟨h0, h1⟩, hD⟩ := mem_dirty.1 hb
  have hn := CS.back_n c b
  have hd' : (c.back b).isD b = false := by rw [back_isD h h0 h1, if_pos rfl]
  have hF := h.back b
  refine ⟨hF.rest b h0 (by rw [hn]; exact h1) hd', fun q => ?_, mem_clean.2 ⟨⟨h0, by rw [hn]; exact h1⟩, ?_⟩, ?_, hF.err h0 (by rw [hn]; exact h1)⟩
  · rw [(mem_dirty.1 q).2] at hd'; cases hd'
  · unfold CS.isD at hD
    cases hm : c.m b with
    | none => rw [hm] at hD; cases hD
    | some e =>
      obtain ⟨x, d⟩ := e
      rw [hm] at hD
      have : d = true := hD
      subst this
      rw [back_has (cerr_in h0 h1) hm (h.err h0 h1)]
      unfold CS.isC
      rw [show CS.m { c with d := c.d.write b x, m := setM c.m b (some (x, false)) } b = some (x, false) from setM_same _ _ _]
      show (!false && !c.pin b) = true
      rw [hp]; rfl
  · rw [dirty_back h hb]; exact filter_len (dirty_nodup c) hb
theorem pickAt_low {l : List Int} {k : Int} (h : k ≤ 0) : pickAt l k = l.getD 0 0 := by
  unfold pickAt
  rw [show (max k 0).toNat = 0 by omega, Nat.zero_mod]
theorem pickAt_high {l : List Int} {k : Int} (h : 0 < k) : pickAt l k = l.getD (k.toNat % l.length) 0 := by
  unfold pickAt
  rw [show (max k 0).toNat = k.toNat by omega]
/-- What it keeps of ran, behind Dirty and Writeback. -/
structure CP (w : World) (p a : Addr) (g N : Nat) (c : CS) (M : List Blk) (wr : World) : Prop where
  ca : CA wr p c fun i => i < w.heap.size ∨ i = g
  row : OImg wr g 0 M
  low : Below w.heap.size w wr
  len : M.length = N
  disk : c.a = a
theorem CP.below {w wr w' : World} {p a : Addr} {g N : Nat} {c : CS} {M : List Blk} (h : CP w p a g N c M wr) (hb : Below wr.heap.size wr w') : CP w p a g N c M w' := ⟨h.ca.below hb, h.row.keep (hb.block g h.row.lt), h.low.trans (hb.mono h.low.size), h.len, h.disk⟩
set_option maxRecDepth 100000 in
set_option maxHeartbeats 16000000 in
theorem cachePicks_any (n kk : Int) (A : Option Addr) (len cp : Nat) (l : List DoV) (w : World) (hk64 : I64 kk) (hl : len = l.length) (hA : DosAt w A l) (hf : ∀ x ∈ l, x.Fits) :
    Calls Try.prog 6 #[.int .i64 n, .slice A len cp, .int .i64 kk] w fun e w' => e = .returned (.bool true) ∧ Below w.heap.size w w' := by
  have hz := fun W => zero_blk W
  by_cases h200 : 200 < len
  · have t0 : decide ((200 : Int) < len) = true := decide_eq_true (by omega)
    have t1 : decide (200 < len) = true := decide_eq_true h200
    go_enter Try.func6, Try.ntmps6
    go_wp2
    go_ret
    exact ⟨rfl, Below.refl _ _⟩
  · have t0 : decide ((200 : Int) < len) = false := decide_eq_false (by omega)
    have t1 : decide (200 < len) = false := decide_eq_false h200
    have RA := Lib.hid (ran_any n A len cp l w hl (by omega) hA hf)
    clear hl hA hf h200
    go_enter Try.func6, Try.ntmps6
    go_upto_region 7 with (first
      | (go_at_call 26; refine RA.out.mono ?_; rintro e w1 ⟨p, a, g, N, k, c, M, rfl, n1, n64, hk, hr⟩; have R1 := Lib.hid hr; clear hr)
      | (go_at_call 15; refine (ca_dirty _ p c _ R1.out.ca).mono ?_; rintro e w2 ⟨⟨v, rfl, ho⟩, hb2⟩; have CN : Hid (c.n = N) := Lib.hid (R1.out.fine.len.trans R1.out.len); have LN : Hid (c.dirty.length ≤ 64) := Lib.hid (Nat.le_trans (pickL_length _ _) (by rw [CN.out]; exact n64)); obtain ⟨A1, q1, rfl, hq1, hd⟩ := own_ints ho rfl; have R2 := Lib.hid (R1.out.below hb2); have D2 := Lib.hid hd; have OW := Lib.hid ho; have S2 := Lib.hid (Nat.le_trans R1.out.low.size (Nat.le_refl _)); have BB := Lib.hid hb2; clear hd ho hb2 hq1))
    have AC := Lib.hid (show c.d.acts < 1000000 by have := R2.out.acts; omega)
    by_cases hl : c.dirty = []
    · have EV : Hid (wbV c kk = .tuple #[.int .i64 0, .bool false, .int .i64 0]) := Lib.hid (if_pos hl)
      have hl0 : c.dirty.length = 0 := by rw [hl]; rfl
      rw [hl0]
      clear hl RA R1
      go_wp2_with (go_at_call 12; refine (ca_wb w2 p c _ kk R2.out.ca AC.out).mono ?_; rintro e w3 ⟨rfl, hc3, hk3⟩; rw [EV.out])
      go_ret
      exact ⟨rfl, R2.out.low.trans (hk3.below fun _ hi => .inl hi)⟩
    · have EV : Hid (wbV c kk = .tuple #[.int .i64 (pickAt c.dirty kk), .bool true, .int .i64 (c.backE (pickAt c.dirty kk))]) := Lib.hid (if_neg hl)
      have EW : Hid (c.wb kk = c.back (pickAt c.dirty kk)) := Lib.hid (if_neg hl)
      have hm := pickAt_mem (k := kk) hl
      have hp0 : 0 < c.dirty.length := List.length_pos_iff.2 hl
      have EB : Hid (c.backE (pickAt c.dirty kk) = 0) := Lib.hid (R2.out.fine.backE (mem_dirty.1 hm).1.1 (mem_dirty.1 hm).1.2)
      have PK := Lib.hid (back_picked R2.out.fine R2.out.pin hm)
      have hbn := (mem_dirty.1 hm).1
      -- the list that was told stays: it is memory of its own
      have W2 : Hid (CA w2 p c fun i => (i < w.heap.size ∨ i = g) ∨ (w1.heap.size ≤ i ∧ i < w2.heap.size)) := Lib.hid (R1.out.ca.frame BB.out.size (fun i hi _ => BB.out.block i hi) fun i hi => hi)
      have OA : Hid (∀ b o, A1 = some ⟨b, o, none⟩ → (w1.heap.size ≤ b ∧ b < w2.heap.size)) := Lib.hid fun b o e => OW.out.lt b (by subst e; rfl)
      have t2 : decide (c.dirty.length = 0) = false := decide_eq_false (by omega)
      have t3 : ((c.dirty.length : Int) == 0) = false := by simp; omega
      have HP0 := Lib.hid hp0
      have HBN := Lib.hid hbn
      have PL := Lib.hid (fun h => pickAt_low (l := c.dirty) (k := kk) h)
      have PH := Lib.hid (fun h => pickAt_high (l := c.dirty) (k := kk) h)
      obtain ⟨b, hb⟩ : ∃ b, pickAt c.dirty kk = b := ⟨_, rfl⟩
      rw [hb] at EV EW EB PK HBN PL PH
      rw [EB.out] at EV
      obtain ⟨c', hc'⟩ : ∃ c', c.back b = c' := ⟨_, rfl⟩
      have EA : Hid (c'.a = a) := Lib.hid (by rw [← hc']; exact (back_a c b).1.trans R2.out.disk)
      rw [hc'] at EW PK
      have DG : Hid (∀ j, j < c.dirty.length → c.dirty[j]? = some (c.dirty.getD j 0)) := Lib.hid fun j hj => by rw [List.getD_eq_getElem?_getD, List.getElem?_eq_getElem hj]; rfl
      clear hl hm hb hc' RA hbn hp0 BB OW EB
      go_upto_region 8 with (go_at_call 12; refine (ca_wb w2 p c _ kk W2.out AC.out).mono ?_; rintro e w3 ⟨rfl, hc3, hk3⟩; rw [EV.out]; rw [EW.out] at hc3)
      have P3 : Hid (CP w p a g N c' M w3) := Lib.hid ⟨hc3.mono fun i hi => .inl hi, R2.out.row.keep (hk3.block g (.inl (.inr rfl))), R2.out.low.trans (hk3.below fun _ hi => .inl (.inl hi)), R2.out.len, EA.out⟩
      have D3 : Hid (IntsAt w3 A1 c.dirty) := Lib.hid (ints_keep D2.out hk3 fun b o e => .inr (OA.out b o e))
      clear hc3 hk3 R1 R2 D2 W2 OA EV EW
      have hLN : (c.dirty.length : Int) ≤ 64 := by have := LN.out; omega
      obtain ⟨dl, hdl⟩ : ∃ dl, c.dirty.length = dl := ⟨_, rfl⟩
      rw [hdl] at t2 t3 HP0 DG PH PK LN hLN ⊢
      obtain ⟨gA, oA, rfl, hgA, hcell⟩ := D3.out (by rw [hdl]; exact HP0.out)
      have j1 : (0 : Int) < dl := by have := HP0.out; omega
      by_cases hk0 : 0 < kk
      · obtain ⟨r, hr⟩ : ∃ r : Nat, kk.tmod (dl : Int) = (r : Int) ∧ kk.toNat % dl = r ∧ r < dl := by
          refine ⟨kk.toNat % dl, ?_, rfl, Nat.mod_lt _ HP0.out⟩
          obtain ⟨q, rfl⟩ := Int.eq_ofNat_of_zero_le (show 0 ≤ kk by omega)
          rw [Int.tmod_eq_emod_of_nonneg (by omega), Int.toNat_natCast]
          simp
        obtain ⟨r1, r2, r3⟩ := hr
        have t4 : decide (0 < kk) = true := decide_eq_true hk0
        have c1 := hcell r b (by rw [DG.out r r3, ← r2, ← PH.out hk0])
        have c0 := hcell 0 _ (DG.out 0 HP0.out)
        rw [Nat.add_zero] at c0
        have j2 : (0 : Int) ≤ r := by omega
        have j3 : (r : Int) < dl := by omega
        have r4 : kk % (dl : Int) = r := by rw [← Int.tmod_eq_emod_of_nonneg (by omega)]; exact r1
        clear hdl DG PL PH
        obtain ⟨bn, rfl⟩ := Int.eq_ofNat_of_zero_le HBN.out.1
        have hbN : bn < N := by have := HBN.out.2; rw [CN.out] at this; omega
        have j5 : (0 : Int) ≤ (bn : Int) := by omega
        have j6 : (bn : Int) < (N : Int) := by omega
        have MB : Hid (M[bn]? = some (M.getD bn .zero)) := Lib.hid (by rw [List.getD_eq_getElem?_getD, List.getElem?_eq_getElem (by rw [P3.out.len]; exact hbN)]; rfl)
        have RDV : Hid (c'.d.read (bn : Int) = M.getD bn .zero) := Lib.hid (by have := PK.out.1; rw [Int.toNat_natCast] at this; exact this)
        obtain ⟨Y, hY⟩ : ∃ Y, M.getD bn .zero = Y := ⟨_, rfl⟩
        rw [hY] at MB RDV
        have HDN : Hid (decide ((bn : Int) ∈ c'.dirty) = false) := Lib.hid (decide_eq_false PK.out.2.1)
        have HCY : Hid (decide ((bn : Int) ∈ c'.clean) = true) := Lib.hid (decide_eq_true PK.out.2.2.1)
        have HDL : Hid (c'.dirty.length + 1 = dl) := Lib.hid PK.out.2.2.2.1
        have HCL : Hid (c'.clean.length ≤ 1000000) := Lib.hid (by have h1 := pickL_length c'.n c'.isC; have h2 := (P3.out.ca.ok).2.1; have h3 : c'.n = c'.d.safe.length := rfl; show (pickL c'.n c'.isC).length ≤ _; omega)
        have DR := Lib.hid (fun (W : World) (h : CP w p a g N c' M W) => ca_dread W p c' _ (bn : Int) h.ca)
        rw [PK.out.2.2.2.2, P3.out.disk, RDV.out] at DR
        have wdl : wrap64 ((dl : Int) - 1) = (c'.dirty.length : Int) := by have := HDL.out; unfold wrap64; omega
        have e1 : (((c'.dirty.length : Nat) : Int) == (dl : Int) - 1) = true := by have := HDL.out; simp; omega
        clear hY PK RDV HBN
        go_upto_region 14 with (first
          | (go_at_call 28; refine (DR.out _ P3.out).mono ?_; rintro e w4 ⟨rfl, hb4⟩; have P4 := Lib.hid (P3.out.below hb4); clear hb4)
          | (refine store_row rfl (.tmp 16) (.tmp 69) rfl w4.heap.size Y .zero 41 rfl rfl (heap_alloc_new _ _) ?_; rw [World.setRow_alloc_new]))
        have P5 := Lib.hid (P4.out.below (below_newI w4 (.cells (arr Y) 41)))
        have V5 := Lib.hid (At.row (heap_alloc_new w4 (.cells (arr Y) 41)))
        have M5 := Lib.hid (P5.out.row.at MB.out)
        rw [Nat.zero_add] at M5
        clear P4 P3 DR MB hcell c1
        generalize w4.alloc (.cells (arr Y) 41) = w5 at *
        generalize w4.heap.size = g5 at *
        have heq := fun W => equalIn_blk Y Y W
        have hdy : decide (Y = Y) = true := decide_eq_true rfl
        have hgd := blk_guard
        refine wp_region_any (by kernel_rfl) ?_
        refine any_quiets (k := 0) (n := 23) (g := 22) (C := More w5) (by kernel_rfl) (by kernel_rfl) rfl (More.drew _) ?_
        simp only [List.take_succ_cons, List.take_zero, List.drop_zero, List.size_toArray, List.length_cons, List.length_nil, Nat.reduceAdd, Nat.zero_add]
        repeat (first | go_big_quiet_skip | (go_big_quiet_want; first
          | (refine quiet_load _ rfl _ _ rfl Y (by intro w' hw'; first | exact V5.out.below hw' | exact M5.out.below hw') ?_; simp only [Act.put, List.setIfInBounds_toArray, List.set_cons_zero, List.set_cons_succ]; go_big_quiet_on)
          | (go_big_quiet_op; first | go_big_quiet_on | (apply Exists.intro; refine ⟨fun _ _ => ?_, ?_⟩; (with_reducible exact rfl); go_big_quiet_on))))
        refine wpQuiet_nil ?_
        intro w6 hw6
        have P6 := Lib.hid (P5.out.below hw6)
        clear hw6 V5 M5 P5 heq hdy hgd
        refine any_take (i := 23) (d := 94) (v := ?_) rfl rfl (by kernel_rfl) (by kernel_rfl) (by kernel_rfl) (fun _ _ _ h => h) (Or.inl ⟨by rfl, ?hy⟩) ?_
        case hy => (intro W; go_simp; try (with_reducible rfl))
        go_frame
        refine any_take (i := 25) (d := 96) (v := ?_) rfl rfl (by kernel_rfl) (by kernel_rfl) (by kernel_rfl) (fun _ _ _ h => h) (Or.inl ⟨by rfl, ?hy⟩) ?_
        case hy => (intro W; go_simp; try (with_reducible rfl))
        go_frame
        refine any_force (i := 24) (by kernel_rfl) rfl ?_
        intro K hK
        go_wp2_with (go_at_call 15; refine (ca_dirty _ p c' _ P6.out.ca).mono ?_; rintro e w7 ⟨⟨v7, rfl, ho7⟩, hb7⟩; obtain ⟨A7, q7, rfl, hq7, hd7⟩ := own_ints ho7 rfl; have P7 := Lib.hid (P6.out.below hb7); have D7 := Lib.hid hd7; clear ho7 hb7 hq7 hd7)
        refine hK _ _ ?_
        clear hK K
        refine any_force (i := 26) (by kernel_rfl) rfl ?_
        intro K hK
        go_wp2_with (go_at_call 29; refine (has_any A7 _ q7 c'.dirty bn _ rfl (by have := HDL.out; have := LN.out; omega) D7.out).mono ?_; rintro e wx ⟨rfl, hwx⟩; obtain rfl := hwx.symm; rw [HDN.out])
        refine hK _ _ ?_
        clear hK K
        refine any_take (i := 27) (d := 98) (v := ?_) rfl rfl (by kernel_rfl) (by kernel_rfl) (by kernel_rfl) (fun _ _ _ h => h) (Or.inl ⟨by rfl, ?hy⟩) ?_
        case hy => (intro W; go_simp; try (with_reducible rfl))
        go_frame
        refine any_take (i := 28) (d := 99) (v := ?_) rfl rfl (by kernel_rfl) (by kernel_rfl) (by kernel_rfl) (fun _ _ _ h => h) (Or.inl ⟨by rfl, ?hy⟩) ?_
        case hy => (intro W; go_simp; try (with_reducible rfl))
        go_frame
        refine any_take (i := 29) (d := 100) (v := ?_) rfl rfl (by kernel_rfl) (by kernel_rfl) (by kernel_rfl) (fun _ _ _ h => h) (Or.inl ⟨by rfl, ?hy⟩) ?_
        case hy => (intro W; go_simp; try (with_reducible rfl))
        go_frame
        refine any_take (i := 30) (d := 101) (v := ?_) rfl rfl (by kernel_rfl) (by kernel_rfl) (by kernel_rfl) (fun _ _ _ h => h) (Or.inl ⟨by rfl, ?hy⟩) ?_
        case hy => (intro W; go_simp; try (with_reducible rfl))
        go_frame
        refine any_take (i := 32) (d := 103) (v := ?_) rfl rfl (by kernel_rfl) (by kernel_rfl) (by kernel_rfl) (fun _ _ _ h => h) (Or.inl ⟨by rfl, ?hy⟩) ?_
        case hy => (intro W; go_simp; try (with_reducible rfl))
        go_frame
        refine any_force (i := 31) (by kernel_rfl) rfl ?_
        intro K hK
        go_wp2_with (go_at_call 16; refine (ca_clean _ p c' _ P7.out.ca).mono ?_; rintro e w8 ⟨⟨v8, rfl, ho8⟩, hb8⟩; obtain ⟨A8, q8, rfl, hq8, hd8⟩ := own_ints ho8 rfl; have P8 := Lib.hid (P7.out.below hb8); have D8 := Lib.hid hd8; clear ho8 hb8 hq8 hd8)
        refine hK _ _ ?_
        clear hK K
        refine any_force (i := 33) (by kernel_rfl) rfl ?_
        intro K hK
        go_wp2_with (go_at_call 29; refine (has_any A8 _ q8 c'.clean bn _ rfl HCL.out D8.out).mono ?_; rintro e wx ⟨rfl, hwx⟩; obtain rfl := hwx.symm; rw [HCY.out])
        refine hK _ _ ?_
        clear hK K
        refine any_take (i := 34) (d := 105) (v := ?_) rfl rfl (by kernel_rfl) (by kernel_rfl) (by kernel_rfl) (fun _ _ _ h => h) (Or.inl ⟨by rfl, ?hy⟩) ?_
        case hy => (intro W; go_simp; try (with_reducible rfl))
        go_frame
        refine any_take (i := 35) (d := 106) (v := ?_) rfl rfl (by kernel_rfl) (by kernel_rfl) (by kernel_rfl) (fun _ _ _ h => h) (Or.inl ⟨by rfl, ?hy⟩) ?_
        case hy => (intro W; go_simp; try (with_reducible rfl))
        go_frame
        refine any_take (i := 36) (d := 107) (v := ?_) rfl rfl (by kernel_rfl) (by kernel_rfl) (by kernel_rfl) (fun _ _ _ h => h) (Or.inl ⟨by rfl, ?hy⟩) ?_
        case hy => (intro W; go_simp; try (with_reducible rfl))
        go_frame
        refine any_take (i := 39) (d := 110) (v := ?_) rfl rfl (by kernel_rfl) (by kernel_rfl) (by kernel_rfl) (fun _ _ _ h => h) (Or.inl ⟨by rfl, ?hy⟩) ?_
        case hy => (intro W; go_simp; try (with_reducible rfl))
        go_frame
        refine any_take (i := 40) (d := 111) (v := ?_) rfl rfl (by kernel_rfl) (by kernel_rfl) (by kernel_rfl) (fun _ _ _ h => h) (Or.inl ⟨by rfl, ?hy⟩) ?_
        case hy => (intro W; go_simp; try (with_reducible rfl))
        go_frame
        refine any_take (i := 41) (d := 112) (v := ?_) rfl rfl (by kernel_rfl) (by kernel_rfl) (by kernel_rfl) (fun _ _ _ h => h) (Or.inl ⟨by rfl, ?hy⟩) ?_
        case hy => (intro W; go_simp; try (with_reducible rfl))
        go_frame
        refine any_force (i := 37) (by kernel_rfl) rfl ?_
        intro K hK
        go_wp2_with (go_at_call 15; refine (ca_dirty _ p c' _ P8.out.ca).mono ?_; rintro e w9 ⟨⟨v9, rfl, ho9⟩, hb9⟩; obtain ⟨A9, q9, rfl, hq9, hd9⟩ := own_ints ho9 rfl; have P9 := Lib.hid (P8.out.below hb9); clear ho9 hb9 hq9 hd9)
        refine hK _ _ ?_
        clear hK K
        refine any_take (i := 38) (d := 109) (v := ?_) rfl rfl (by kernel_rfl) (by kernel_rfl) (by kernel_rfl) (fun _ _ _ h => h) (Or.inl ⟨by rfl, ?hy⟩) ?_
        case hy => (intro W; go_simp; try (with_reducible rfl))
        go_frame
        refine any_take (i := 42) (d := 113) (v := ?_) rfl rfl (by kernel_rfl) (by kernel_rfl) (by kernel_rfl) (fun _ _ _ h => h) (Or.inl ⟨by rfl, ?hy⟩) ?_
        case hy => (intro W; go_simp; try (with_reducible rfl))
        go_frame
        refine any_take (i := 43) (d := 114) (v := ?_) rfl rfl (by kernel_rfl) (by kernel_rfl) (by kernel_rfl) (fun _ _ _ h => h) (Or.inl ⟨by rfl, ?hy⟩) ?_
        case hy => (intro W; go_simp; try (with_reducible rfl))
        go_frame
        refine any_take (i := 44) (d := 6) (v := ?_) rfl rfl (by kernel_rfl) (by kernel_rfl) (by kernel_rfl) (fun _ _ _ h => h) (Or.inl ⟨by rfl, ?hy⟩) ?_
        case hy => (intro W; go_simp; try (with_reducible rfl))
        go_frame
        refine any_end (by kernel_rfl) ?_
        go_wp2
        go_ret
        exact ⟨rfl, P9.out.low⟩
      · have t4 : decide (0 < kk) = false := decide_eq_false hk0
        have c1 := hcell 0 b (by rw [DG.out 0 HP0.out, ← PL.out (by omega)])
        rw [Nat.add_zero] at c1
        clear hdl DG PL PH
        obtain ⟨bn, rfl⟩ := Int.eq_ofNat_of_zero_le HBN.out.1
        have hbN : bn < N := by have := HBN.out.2; rw [CN.out] at this; omega
        have j5 : (0 : Int) ≤ (bn : Int) := by omega
        have j6 : (bn : Int) < (N : Int) := by omega
        have MB : Hid (M[bn]? = some (M.getD bn .zero)) := Lib.hid (by rw [List.getD_eq_getElem?_getD, List.getElem?_eq_getElem (by rw [P3.out.len]; exact hbN)]; rfl)
        have RDV : Hid (c'.d.read (bn : Int) = M.getD bn .zero) := Lib.hid (by have := PK.out.1; rw [Int.toNat_natCast] at this; exact this)
        obtain ⟨Y, hY⟩ : ∃ Y, M.getD bn .zero = Y := ⟨_, rfl⟩
        rw [hY] at MB RDV
        have HDN : Hid (decide ((bn : Int) ∈ c'.dirty) = false) := Lib.hid (decide_eq_false PK.out.2.1)
        have HCY : Hid (decide ((bn : Int) ∈ c'.clean) = true) := Lib.hid (decide_eq_true PK.out.2.2.1)
        have HDL : Hid (c'.dirty.length + 1 = dl) := Lib.hid PK.out.2.2.2.1
        have HCL : Hid (c'.clean.length ≤ 1000000) := Lib.hid (by have h1 := pickL_length c'.n c'.isC; have h2 := (P3.out.ca.ok).2.1; have h3 : c'.n = c'.d.safe.length := rfl; show (pickL c'.n c'.isC).length ≤ _; omega)
        have DR := Lib.hid (fun (W : World) (h : CP w p a g N c' M W) => ca_dread W p c' _ (bn : Int) h.ca)
        rw [PK.out.2.2.2.2, P3.out.disk, RDV.out] at DR
        have wdl : wrap64 ((dl : Int) - 1) = (c'.dirty.length : Int) := by have := HDL.out; unfold wrap64; omega
        have e1 : (((c'.dirty.length : Nat) : Int) == (dl : Int) - 1) = true := by have := HDL.out; simp; omega
        clear hY PK RDV HBN
        go_upto_region 14 with (first
          | (go_at_call 28; refine (DR.out _ P3.out).mono ?_; rintro e w4 ⟨rfl, hb4⟩; have P4 := Lib.hid (P3.out.below hb4); clear hb4)
          | (refine store_row rfl (.tmp 16) (.tmp 69) rfl w4.heap.size Y .zero 41 rfl rfl (heap_alloc_new _ _) ?_; rw [World.setRow_alloc_new]))
        have P5 := Lib.hid (P4.out.below (below_newI w4 (.cells (arr Y) 41)))
        have V5 := Lib.hid (At.row (heap_alloc_new w4 (.cells (arr Y) 41)))
        have M5 := Lib.hid (P5.out.row.at MB.out)
        rw [Nat.zero_add] at M5
        clear P4 P3 DR MB hcell c1
        generalize w4.alloc (.cells (arr Y) 41) = w5 at *
        generalize w4.heap.size = g5 at *
        have heq := fun W => equalIn_blk Y Y W
        have hdy : decide (Y = Y) = true := decide_eq_true rfl
        have hgd := blk_guard
        refine wp_region_any (by kernel_rfl) ?_
        refine any_quiets (k := 0) (n := 23) (g := 22) (C := More w5) (by kernel_rfl) (by kernel_rfl) rfl (More.drew _) ?_
        simp only [List.take_succ_cons, List.take_zero, List.drop_zero, List.size_toArray, List.length_cons, List.length_nil, Nat.reduceAdd, Nat.zero_add]
        repeat (first | go_big_quiet_skip | (go_big_quiet_want; first
          | (refine quiet_load _ rfl _ _ rfl Y (by intro w' hw'; first | exact V5.out.below hw' | exact M5.out.below hw') ?_; simp only [Act.put, List.setIfInBounds_toArray, List.set_cons_zero, List.set_cons_succ]; go_big_quiet_on)
          | (go_big_quiet_op; first | go_big_quiet_on | (apply Exists.intro; refine ⟨fun _ _ => ?_, ?_⟩; (with_reducible exact rfl); go_big_quiet_on))))
        refine wpQuiet_nil ?_
        intro w6 hw6
        have P6 := Lib.hid (P5.out.below hw6)
        clear hw6 V5 M5 P5 heq hdy hgd
        refine any_take (i := 23) (d := 94) (v := ?_) rfl rfl (by kernel_rfl) (by kernel_rfl) (by kernel_rfl) (fun _ _ _ h => h) (Or.inl ⟨by rfl, ?hy⟩) ?_
        case hy => (intro W; go_simp; try (with_reducible rfl))
        go_frame
        refine any_take (i := 25) (d := 96) (v := ?_) rfl rfl (by kernel_rfl) (by kernel_rfl) (by kernel_rfl) (fun _ _ _ h => h) (Or.inl ⟨by rfl, ?hy⟩) ?_
        case hy => (intro W; go_simp; try (with_reducible rfl))
        go_frame
        refine any_force (i := 24) (by kernel_rfl) rfl ?_
        intro K hK
        go_wp2_with (go_at_call 15; refine (ca_dirty _ p c' _ P6.out.ca).mono ?_; rintro e w7 ⟨⟨v7, rfl, ho7⟩, hb7⟩; obtain ⟨A7, q7, rfl, hq7, hd7⟩ := own_ints ho7 rfl; have P7 := Lib.hid (P6.out.below hb7); have D7 := Lib.hid hd7; clear ho7 hb7 hq7 hd7)
        refine hK _ _ ?_
        clear hK K
        refine any_force (i := 26) (by kernel_rfl) rfl ?_
        intro K hK
        go_wp2_with (go_at_call 29; refine (has_any A7 _ q7 c'.dirty bn _ rfl (by have := HDL.out; have := LN.out; omega) D7.out).mono ?_; rintro e wx ⟨rfl, hwx⟩; obtain rfl := hwx.symm; rw [HDN.out])
        refine hK _ _ ?_
        clear hK K
        refine any_take (i := 27) (d := 98) (v := ?_) rfl rfl (by kernel_rfl) (by kernel_rfl) (by kernel_rfl) (fun _ _ _ h => h) (Or.inl ⟨by rfl, ?hy⟩) ?_
        case hy => (intro W; go_simp; try (with_reducible rfl))
        go_frame
        refine any_take (i := 28) (d := 99) (v := ?_) rfl rfl (by kernel_rfl) (by kernel_rfl) (by kernel_rfl) (fun _ _ _ h => h) (Or.inl ⟨by rfl, ?hy⟩) ?_
        case hy => (intro W; go_simp; try (with_reducible rfl))
        go_frame
        refine any_take (i := 29) (d := 100) (v := ?_) rfl rfl (by kernel_rfl) (by kernel_rfl) (by kernel_rfl) (fun _ _ _ h => h) (Or.inl ⟨by rfl, ?hy⟩) ?_
        case hy => (intro W; go_simp; try (with_reducible rfl))
        go_frame
        refine any_take (i := 30) (d := 101) (v := ?_) rfl rfl (by kernel_rfl) (by kernel_rfl) (by kernel_rfl) (fun _ _ _ h => h) (Or.inl ⟨by rfl, ?hy⟩) ?_
        case hy => (intro W; go_simp; try (with_reducible rfl))
        go_frame
        refine any_take (i := 32) (d := 103) (v := ?_) rfl rfl (by kernel_rfl) (by kernel_rfl) (by kernel_rfl) (fun _ _ _ h => h) (Or.inl ⟨by rfl, ?hy⟩) ?_
        case hy => (intro W; go_simp; try (with_reducible rfl))
        go_frame
        refine any_force (i := 31) (by kernel_rfl) rfl ?_
        intro K hK
        go_wp2_with (go_at_call 16; refine (ca_clean _ p c' _ P7.out.ca).mono ?_; rintro e w8 ⟨⟨v8, rfl, ho8⟩, hb8⟩; obtain ⟨A8, q8, rfl, hq8, hd8⟩ := own_ints ho8 rfl; have P8 := Lib.hid (P7.out.below hb8); have D8 := Lib.hid hd8; clear ho8 hb8 hq8 hd8)
        refine hK _ _ ?_
        clear hK K
        refine any_force (i := 33) (by kernel_rfl) rfl ?_
        intro K hK
        go_wp2_with (go_at_call 29; refine (has_any A8 _ q8 c'.clean bn _ rfl HCL.out D8.out).mono ?_; rintro e wx ⟨rfl, hwx⟩; obtain rfl := hwx.symm; rw [HCY.out])
        refine hK _ _ ?_
        clear hK K
        refine any_take (i := 34) (d := 105) (v := ?_) rfl rfl (by kernel_rfl) (by kernel_rfl) (by kernel_rfl) (fun _ _ _ h => h) (Or.inl ⟨by rfl, ?hy⟩) ?_
        case hy => (intro W; go_simp; try (with_reducible rfl))
        go_frame
        refine any_take (i := 35) (d := 106) (v := ?_) rfl rfl (by kernel_rfl) (by kernel_rfl) (by kernel_rfl) (fun _ _ _ h => h) (Or.inl ⟨by rfl, ?hy⟩) ?_
        case hy => (intro W; go_simp; try (with_reducible rfl))
        go_frame
        refine any_take (i := 36) (d := 107) (v := ?_) rfl rfl (by kernel_rfl) (by kernel_rfl) (by kernel_rfl) (fun _ _ _ h => h) (Or.inl ⟨by rfl, ?hy⟩) ?_
        case hy => (intro W; go_simp; try (with_reducible rfl))
        go_frame
        refine any_take (i := 39) (d := 110) (v := ?_) rfl rfl (by kernel_rfl) (by kernel_rfl) (by kernel_rfl) (fun _ _ _ h => h) (Or.inl ⟨by rfl, ?hy⟩) ?_
        case hy => (intro W; go_simp; try (with_reducible rfl))
        go_frame
        refine any_take (i := 40) (d := 111) (v := ?_) rfl rfl (by kernel_rfl) (by kernel_rfl) (by kernel_rfl) (fun _ _ _ h => h) (Or.inl ⟨by rfl, ?hy⟩) ?_
        case hy => (intro W; go_simp; try (with_reducible rfl))
        go_frame
        refine any_take (i := 41) (d := 112) (v := ?_) rfl rfl (by kernel_rfl) (by kernel_rfl) (by kernel_rfl) (fun _ _ _ h => h) (Or.inl ⟨by rfl, ?hy⟩) ?_
        case hy => (intro W; go_simp; try (with_reducible rfl))
        go_frame
        refine any_force (i := 37) (by kernel_rfl) rfl ?_
        intro K hK
        go_wp2_with (go_at_call 15; refine (ca_dirty _ p c' _ P8.out.ca).mono ?_; rintro e w9 ⟨⟨v9, rfl, ho9⟩, hb9⟩; obtain ⟨A9, q9, rfl, hq9, hd9⟩ := own_ints ho9 rfl; have P9 := Lib.hid (P8.out.below hb9); clear ho9 hb9 hq9 hd9)
        refine hK _ _ ?_
        clear hK K
        refine any_take (i := 38) (d := 109) (v := ?_) rfl rfl (by kernel_rfl) (by kernel_rfl) (by kernel_rfl) (fun _ _ _ h => h) (Or.inl ⟨by rfl, ?hy⟩) ?_
        case hy => (intro W; go_simp; try (with_reducible rfl))
        go_frame
        refine any_take (i := 42) (d := 113) (v := ?_) rfl rfl (by kernel_rfl) (by kernel_rfl) (by kernel_rfl) (fun _ _ _ h => h) (Or.inl ⟨by rfl, ?hy⟩) ?_
        case hy => (intro W; go_simp; try (with_reducible rfl))
        go_frame
        refine any_take (i := 43) (d := 114) (v := ?_) rfl rfl (by kernel_rfl) (by kernel_rfl) (by kernel_rfl) (fun _ _ _ h => h) (Or.inl ⟨by rfl, ?hy⟩) ?_
        case hy => (intro W; go_simp; try (with_reducible rfl))
        go_frame
        refine any_take (i := 44) (d := 6) (v := ?_) rfl rfl (by kernel_rfl) (by kernel_rfl) (by kernel_rfl) (fun _ _ _ h => h) (Or.inl ⟨by rfl, ?hy⟩) ?_
        case hy => (intro W; go_simp; try (with_reducible rfl))
        go_frame
        refine any_end (by kernel_rfl) ?_
        go_wp2
        go_ret
        exact ⟨rfl, P9.out.low⟩
end Go.Proofs.Ytkolpdllogpklaa
