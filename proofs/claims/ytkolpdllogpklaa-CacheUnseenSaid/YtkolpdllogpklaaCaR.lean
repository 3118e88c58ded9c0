import Derived.Test.YtkolpdllogpklaaCaH
namespace Go.Proofs.Ytkolpdllogpklaa
open Go.RowKit Go.Maps

/-! A cache behind steps. -/
structure DoV where
  kind : Nat
  b : Int
  fill : Nat
def DoV.Fits (x : DoV) : Prop := x.kind < 256 ∧ I64 x.b ∧ x.fill < 4294967296
def DosAt (w : World) (A : Option Addr) (l : List DoV) : Prop := 0 < l.length → ∃ g o, A = some ⟨g, o, none⟩ ∧ g < w.heap.size ∧ ∀ i x, l[i]? = some x → w.cell? ⟨g, o + i * 3, none⟩ = some (.int .u8 (x.kind : Int)) ∧ w.cell? ⟨g, o + i * 3 + 1, none⟩ = some (.int .i64 x.b) ∧ w.cell? ⟨g, o + i * 3 + 2, none⟩ = some (.int .u32 (x.fill : Int))
theorem DosAt.below {w w' : World} {A : Option Addr} {l : List DoV} (h : DosAt w A l) (hb : Below w.heap.size w w') : DosAt w' A l := fun h0 => by
  obtain ⟨g, o, e, hlt, hc⟩ := h h0
  refine ⟨g, o, e, Nat.lt_of_lt_of_le hlt hb.size, fun i x hx => ?_⟩
  obtain ⟨c1, c2, c3⟩ := hc i x hx
  exact ⟨(hb.cell (p := ⟨g, _, none⟩) hlt).trans c1, (hb.cell (p := ⟨g, _, none⟩) hlt).trans c2, (hb.cell (p := ⟨g, _, none⟩) hlt).trans c3⟩
theorem read_a (c : CS) (b : Int) : (c.read b).a = c.a ∧ (c.read b).d = c.d ∧ (c.read b).pin = c.pin := by unfold CS.read; split <;> exact ⟨rfl, rfl, rfl⟩
theorem write_a (c : CS) (b : Int) (x : Blk) : (c.write b x).a = c.a ∧ (c.write b x).d = c.d ∧ (c.write b x).pin = c.pin := by unfold CS.write; split <;> exact ⟨rfl, rfl, rfl⟩
theorem back_a (c : CS) (b : Int) : (c.back b).a = c.a ∧ (c.back b).pin = c.pin := by
  unfold CS.back
  split
  · split <;> exact ⟨rfl, rfl⟩
  · exact ⟨rfl, rfl⟩
theorem wb_a (c : CS) (k : Int) : (c.wb k).a = c.a ∧ (c.wb k).pin = c.pin ∧ (c.wb k).d.acts ≤ c.d.acts + 1 ∧ (c.wb k).n = c.n := by
  unfold CS.wb
  split
  · exact ⟨rfl, rfl, Nat.le_succ _, rfl⟩
  · exact ⟨(back_a c _).1, (back_a c _).2, CS.back_acts c _, CS.back_n c _⟩
theorem ev_a (c : CS) (k : Int) : (c.ev k).a = c.a ∧ (c.ev k).pin = c.pin ∧ (c.ev k).d = c.d := by
  unfold CS.ev
  split <;> exact ⟨rfl, rfl, rfl⟩
/-- What the loop keeps. -/
structure RN (w : World) (p a : Addr) (g N k : Nat) (c : CS) (M : List Blk) (wr : World) : Prop where
  ca : CA wr p c fun i => i < w.heap.size ∨ i = g
  row : OImg wr g 0 M
  low : Below w.heap.size w wr
  at_ : w.heap.size ≤ g
  fine : Fine c M
  disk : c.a = a
  pin : c.pin = fun _ => false
  acts : c.d.acts ≤ k
  len : M.length = N
section
variable {w wr w' : World} {p a : Addr} {g N k : Nat} {c c' : CS} {M M' : List Blk}
theorem RN.keep (h : RN w p a g N k c M wr) (hc : CA w' p c' fun i => i < w.heap.size ∨ i = g) (hk : Keep (fun i => i < w.heap.size ∨ i = g) wr w') (hf : Fine c' M) (ha : c'.a = c.a) (hp : c'.pin = c.pin) (hd : c'.d.acts ≤ c.d.acts + 1) : RN w p a g N (k + 1) c' M w' :=
  ⟨hc, h.row.keep (hk.block g (.inr rfl)), h.low.trans (hk.below fun _ hi => .inl hi), h.at_, hf, ha.trans h.disk, hp.trans h.pin, Nat.le_trans hd (Nat.succ_le_succ h.acts), h.len⟩
theorem RN.below (h : RN w p a g N k c M wr) (hb : Below wr.heap.size wr w') : RN w p a g N k c M w' :=
  ⟨h.ca.below hb, h.row.keep (hb.block g h.row.lt), h.low.trans (hb.mono h.low.size), h.at_, h.fine, h.disk, h.pin, h.acts, h.len⟩
end
theorem results_tmp4 {fn : Func} {t u v x : Tmp} (h : fn.results = #[.tmp t, .tmp u, .tmp v, .tmp x]) (tmps : Array Value) (P : Program) (w : World) :
    (results fn tmps).run P w = .ok (.tuple #[tmps.getD t undef, tmps.getD u undef, tmps.getD v undef, tmps.getD x undef]) w := by
  simp [results, h]
theorem ran_n (n : Int) : ∃ N : Nat, wrap64 (1 + wrap64 ((IntKind.u64.wrap n).tmod 64)) = (N : Int) ∧ 1 ≤ N ∧ N ≤ 64 := by
  rw [IntKind.wrap_u64, Int.tmod_eq_emod_of_nonneg (by omega)]
  refine ⟨(1 + n % 18446744073709551616 % 64).toNat, ?_, by omega, by omega⟩
  unfold wrap64
  omega
theorem ran_b (B : Int) (N : Nat) (h1 : 1 ≤ N) (h2 : N ≤ 64) : ∃ b : Nat, wrap64 ((IntKind.u64.wrap B).tmod (N : Int)) = (b : Int) ∧ b < N := by
  rw [IntKind.wrap_u64, Int.tmod_eq_emod_of_nonneg (by omega)]
  have h3 : 0 ≤ B % 18446744073709551616 % (N : Int) := Int.emod_nonneg _ (by omega)
  have h4 : B % 18446744073709551616 % (N : Int) < N := Int.emod_lt_of_pos _ (by omega)
  refine ⟨(B % 18446744073709551616 % (N : Int)).toNat, ?_, by omega⟩
  unfold wrap64
  omega
set_option maxRecDepth 100000 in
set_option maxHeartbeats 8000000 in
theorem ran_any (n : Int) (A : Option Addr) (len cp : Nat) (l : List DoV) (w : World) (hl : len = l.length) (h200 : len ≤ 200) (hA : DosAt w A l) (hf : ∀ x ∈ l, x.Fits) :
    Calls Try.prog 26 #[.int .i64 n, .slice A len cp] w fun e w' => (∃ p a g N k c M, e = .returned (.tuple #[.pointer (some p), .pointer (some a), .slice (some ⟨g, 0, none⟩) N N, .bool true]) ∧ 1 ≤ N ∧ N ≤ 64 ∧ k ≤ 200 ∧ RN w p a g N k c M w') := by
  have HA := Lib.hid hA
  have HL := Lib.hid hl
  have HF := Lib.hid hf
  obtain ⟨N, hN, n1, n64⟩ := ran_n n
  have hz := fun W => zero_blk W
  have hmk := fun W => make_blks .i64 .i64 N (by omega) W
  have NY := Lib.hid (fun W => dk_new_yes (N : Int) W (by omega) (by omega))
  have CN := Lib.hid (fun (W : World) (a : Addr) (s : DS) (av : Av) (h : LD W a s av) => cNew W a s av h)
  clear hA hl hf
  go_enter Try.func26, Try.ntmps26
  go_wp2_with (first
    | (go_at_call 22; refine (NY.out _).mono ?_; rintro e w1 ⟨⟨a, rfl, hd⟩, hb⟩; rw [Int.toNat_natCast] at hd)
    | (go_at_call 9; refine (CN.out w1 a _ _ hd).mono ?_; rintro e w2 ⟨⟨p, rfl, hc⟩, hb2⟩))
  have R0 : Hid (RN w p a w2.heap.size N 0 (.fresh a (.new N)) (List.replicate N .zero) (w2.alloc (.cells (madeBlks N) 41))) := Lib.hid (by
    have hB := below_newI w2 (.cells (madeBlks N) 41)
    have hs := Nat.le_trans hb.size hb2.size
    refine ⟨hc.frame hB.size (fun i hi _ => hB.block i hi) fun i hi => hi.imp id fun e => ⟨Nat.le_of_eq e.symm, by rw [e]; simp⟩, OImg.made w2 N _, (hb.trans (hb2.mono hb.size)).trans (hB.mono hs), hs, fresh_fine a N n1, rfl, rfl, Nat.zero_le _, List.length_replicate⟩)
  clear hb hd hb2 hc NY CN hmk
  generalize w2.alloc (.cells (madeBlks N) 41) = w3 at R0 ⊢
  generalize w2.heap.size = g at R0 ⊢
  go_loopw [13] (fun i wr => ∃ (k : Nat) (c : CS) (M : List Blk), k ≤ len ∧ i = .int .i64 k ∧ Hid (RN w p a g N k c M wr)) (fun i _ => len - (intOf i).toNat)
  case atStart => exact ⟨0, _, _, Nat.zero_le _, rfl, R0⟩
  case round =>
    clear R0
    obtain ⟨k, c, M, hk, rfl, R⟩ := hrel
    have j3 : (len : Int) ≤ 200 := by omega
    by_cases hlt : k < len
    · obtain ⟨gA, oA, rfl, hgA, hcell⟩ := HA.out (by rw [← HL.out]; omega)
      obtain ⟨x, hx⟩ : ∃ x, l[k]? = some x := ⟨_, List.getElem?_eq_getElem (by rw [← HL.out]; exact hlt)⟩
      have CE : Hid (∀ W, Below w.heap.size w W → W.cell? ⟨gA, oA + k * 3, none⟩ = some (.int .u8 (x.kind : Int)) ∧ W.cell? ⟨gA, oA + k * 3 + 1, none⟩ = some (.int .i64 x.b) ∧ W.cell? ⟨gA, oA + k * 3 + 2, none⟩ = some (.int .u32 (x.fill : Int))) := Lib.hid fun W hW => by
        obtain ⟨e1, e2, e3⟩ := hcell k x hx
        exact ⟨(hW.cell (p := ⟨gA, _, none⟩) hgA).trans e1, (hW.cell (p := ⟨gA, _, none⟩) hgA).trans e2, (hW.cell (p := ⟨gA, _, none⟩) hgA).trans e3⟩
      obtain ⟨c1, c2, c3⟩ := CE.out wr R.out.low
      have FX := Lib.hid (HF.out x (List.mem_of_getElem? hx))
      obtain ⟨K, B, F⟩ := x
      dsimp only at c1 c2 c3 CE
      have j1 : (0 : Int) ≤ k := by omega
      have j2 : (k : Int) < len := by omega
      obtain ⟨b, hb, hbN⟩ := ran_b B N n1 n64
      obtain ⟨q, hq⟩ : ∃ q, K % 4 = q := ⟨_, rfl⟩
      have q1 : (K : Int).tmod 4 = (q : Int) := by rw [Int.tmod_eq_emod_of_nonneg (by omega)]; omega
      have q2 : (K : Int) % 4 = (q : Int) := by omega
      have hq4 : q < 4 := by omega
      clear hcell hx hq
      go_upto_region 15 with fail
      rw [hb]
      try rw [q1]
      try rw [q2]
      rcases (show q = 0 ∨ q = 1 ∨ q = 2 ∨ q = 3 by omega) with rfl | rfl | rfl | rfl
      · have FL := Lib.hid (fun W => fill_any F W FX.out.2.2)
        have E0 : Hid (c.err (b : Int) = 0) := Lib.hid (cerr_in (by omega) (by rw [R.out.fine.len, R.out.len]; omega))
        generalize fillB F = X at FL
        go_upto_region 16 with fail
        go_upto_region 18 with (first
          | (go_at_call 23; refine (FL.out _).mono ?_; rintro e w4 ⟨rfl, hb4⟩; have R4 := Lib.hid (R.out.below hb4))
          | (go_at_call 17; refine (ca_write w4 p c _ b X R4.out.ca).mono ?_; rintro e w5 ⟨rfl, hc5, hk5⟩; rw [E0.out]))
        have L5 : Hid (Below w.heap.size w w5) := Lib.hid (R4.out.low.trans (hk5.below fun _ hi => .inl hi))
        have O5 := Lib.hid (R4.out.row.keep (hk5.block g (.inr rfl)))
        have C5 := Lib.hid hc5
        clear hb4 c1 c2 c3 hc5 hk5
        obtain ⟨c1, c2, c3⟩ := CE.out w5 L5.out
        have j5 : (0 : Int) ≤ b := by omega
        have j6 : (b : Int) < N := by omega
        go_wp2_with (first
          | (go_at_call 23; refine (FL.out _).mono ?_; rintro e w6 ⟨rfl, hb6⟩; have O6 := Lib.hid (O5.out.keep (hb6.block g O5.out.lt)); have C6 := Lib.hid (C5.out.below hb6); have L6 := Lib.hid (L5.out.trans (hb6.mono L5.out.size)))
          | (refine store_blk rfl (.tmp 91) (.tmp 90) rfl g _ X rfl rfl (by have h := O6.out.there (i := b) (by rw [R4.out.len]; exact hbN); first | exact h | (rw [Nat.zero_add] at h; exact h)) ?_))
        refine ⟨⟨k + 1, c.write (b : Int) X, M.set b X, by omega, by go_num, Lib.hid ?_⟩, by simp [intOf]; omega⟩
        have hw := write_a c (b : Int) X
        have hset := O6.out.set (i := b) (by rw [R4.out.len]; exact hbN) X
        rw [Nat.zero_add] at hset
        have hfine := R4.out.fine.write (b := (b : Int)) (by omega) (by rw [R4.out.fine.len, R4.out.len]; omega) X
        rw [Int.toNat_natCast] at hfine
        exact ⟨C6.out.cells (.inr rfl) _ _, hset, below_cells L6.out R4.out.at_ _ _, R4.out.at_, hfine, hw.1.trans R4.out.disk, hw.2.2.trans R4.out.pin, by rw [hw.2.1]; exact Nat.le_succ_of_le R4.out.acts, by rw [List.length_set]; exact R4.out.len⟩
      · have hbn : (b : Int) < c.n := by rw [R.out.fine.len, R.out.len]; omega
        have EV : Hid (c.readV (b : Int) = M.getD b .zero) := Lib.hid (by have := R.out.fine.readV (b := (b : Int)) (by omega) hbn; rw [Int.toNat_natCast] at this; exact this)
        have EE : Hid (c.readE (b : Int) = 0) := Lib.hid (R.out.fine.readE (by omega) hbn)
        have MB : Hid (M[b]? = some (M.getD b .zero)) := Lib.hid (by rw [List.getD_eq_getElem?_getD, List.getElem?_eq_getElem (by rw [R.out.len]; exact hbN)]; rfl)
        have j5 : (0 : Int) ≤ b := by omega
        have j6 : (b : Int) < N := by omega
        clear hbn
        obtain ⟨Y, hY⟩ : ∃ Y, M.getD b .zero = Y := ⟨_, rfl⟩
        rw [hY] at EV MB
        clear hY
        go_upto_region 20 with fail
        go_upto_region 21 with (first
          | (go_at_call 10; refine (ca_read wr p c _ (b : Int) R.out.ca).mono ?_; rintro e w4 ⟨rfl, hc4, hk4⟩; rw [EE.out, EV.out])
          | (refine store_row rfl (.tmp 15) (.tmp 98) rfl w4.heap.size Y .zero 41 rfl rfl (heap_alloc_new _ _) ?_; rw [World.setRow_alloc_new]))
        have R4 : Hid (RN w p a g N (k + 1) (c.read (b : Int)) M w4) := Lib.hid (R.out.keep hc4 hk4 (R.out.fine.read _) (read_a c _).1 (read_a c _).2.2 (by rw [(read_a c _).2.1]; exact Nat.le_succ _))
        have R5 := Lib.hid (R4.out.below (below_newI w4 (.cells (arr Y) 41)))
        have V5 := Lib.hid (At.row (heap_alloc_new w4 (.cells (arr Y) 41)))
        have M5 := Lib.hid (R5.out.row.at MB.out)
        clear hc4 hk4 R R4 c1 c2 c3 EE EV
        generalize w4.alloc (.cells (arr Y) 41) = w5 at *
        generalize w4.heap.size = g5 at *
        rw [Nat.zero_add] at M5
        have heq := fun W => equalIn_blk Y Y W
        have hdy : decide (Y = Y) = true := decide_eq_true rfl
        have hgd := blk_guard
        refine wp_region_class (More w5) (by kernel_rfl) (by kernel_rfl) (More.drew _) ?_
        repeat (first | go_big_quiet_skip | (go_big_quiet_want; first
          | (refine quiet_load _ rfl _ _ rfl Y (by intro w' hw'; first | exact V5.out.below hw' | exact M5.out.below hw') ?_; simp only [Act.put, List.setIfInBounds_toArray, List.set_cons_zero, List.set_cons_succ]; go_big_quiet_on)
          | (go_big_quiet_op; first | go_big_quiet_on | (apply Exists.intro; refine ⟨fun _ _ => ?_, ?_⟩; (with_reducible exact rfl); go_big_quiet_on))))
        refine wpQuiet_nil ?_
        intro w6 hw6
        have R6 := Lib.hid (R5.out.below hw6)
        clear hw6 R5 V5 M5
        go_wp2
        exact ⟨⟨k + 1, c.read (b : Int), M, by omega, by go_num, R6⟩, by simp [intOf]; omega⟩
      · go_upto_region 23 with fail
        go_wp2_with (go_at_call 12; refine (ca_wb wr p c _ B R.out.ca (by have := R.out.acts; omega)).mono ?_; rintro e w4 ⟨rfl, hc4, hk4⟩)
        have hw := wb_a c B
        refine ⟨⟨k + 1, c.wb B, M, by omega, by go_num, Lib.hid (R.out.keep hc4 hk4 (R.out.fine.wb _) hw.1 hw.2.1 hw.2.2.1)⟩, by simp [intOf]; omega⟩
      · go_upto_region 14 with fail
        go_wp2_with (go_at_call 13; refine (ca_ev wr p c _ B R.out.ca).mono ?_; rintro e w4 ⟨rfl, hc4, hk4⟩)
        have hw := ev_a c B
        refine ⟨⟨k + 1, c.ev B, M, by omega, by go_num, Lib.hid (R.out.keep hc4 hk4 (R.out.fine.ev _) hw.1 hw.2.1 (by rw [hw.2.2]; exact Nat.le_succ _))⟩, by simp [intOf]; omega⟩
    · obtain rfl : k = len := by omega
      clear hk hlt
      go_wp2
      refine bodyPost_ret (results_tmp4 Try.results26 _ _ _) rfl ⟨p, a, g, N, k, c, M, rfl, n1, n64, h200, R.out⟩
end Go.Proofs.Ytkolpdllogpklaa
