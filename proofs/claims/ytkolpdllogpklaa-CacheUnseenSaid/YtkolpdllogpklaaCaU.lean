import Derived.Test.YtkolpdllogpklaaCaU1
namespace Go.Proofs.Ytkolpdllogpklaa
open Go.RowKit Go.Maps

/-! CacheUnseen. -/
set_option maxRecDepth 100000 in
set_option maxHeartbeats 16000000 in
theorem cacheUnseen_any (n : Int) (A : Option Addr) (len cp : Nat) (l : List ActV) (w : World) (hl : len = l.length) (hA : ActsIn w A l) (hf : ∀ x ∈ l, x.Fits) :
    Calls Try.prog 4 #[.int .i64 n, .slice A len cp] w fun e w' => e = .returned (.bool true) ∧ Below w.heap.size w w' := by
  have hz := fun W => zero_blk W
  by_cases h1 : n < 1
  · have t0 : decide (n < 1) = true := decide_eq_true h1
    clear hl hA hf h1
    go_enter Try.func4, Try.ntmps4
    go_wp2_with (go_at_call 21; refine (awake_any _).mono ?_; rintro e w4 ⟨rfl, hb4⟩)
    go_ret
    exact ⟨rfl, hb4⟩
  have t0 : decide (n < 1) = false := decide_eq_false h1
  by_cases h64 : 64 < n
  · have t1 : decide (64 < n) = true := decide_eq_true h64
    clear hl hA hf h1 h64
    go_enter Try.func4, Try.ntmps4
    go_wp2_with (go_at_call 21; refine (awake_any _).mono ?_; rintro e w4 ⟨rfl, hb4⟩)
    go_ret
    exact ⟨rfl, hb4⟩
  have t1 : decide (64 < n) = false := decide_eq_false h64
  by_cases h200 : 200 < len
  · have t2 : decide ((200 : Int) < len) = true := decide_eq_true (by omega)
    have t3 : decide (200 < len) = true := decide_eq_true h200
    clear hl hA hf h1 h64 h200
    go_enter Try.func4, Try.ntmps4
    go_wp2_with (go_at_call 21; refine (awake_any _).mono ?_; rintro e w4 ⟨rfl, hb4⟩)
    go_ret
    exact ⟨rfl, hb4⟩
  have t2 : decide ((200 : Int) < len) = false := decide_eq_false (by omega)
  have t3 : decide (200 < len) = false := decide_eq_false h200
  obtain ⟨N, rfl⟩ := Int.eq_ofNat_of_zero_le (show 0 ≤ n by omega)
  have n1 : 1 ≤ N := by omega
  have n64 : N ≤ 64 := by omega
  have HA := Lib.hid hA
  have HL := Lib.hid hl
  have HF := Lib.hid hf
  have hmk := fun W => make_blks .i64 .i64 N (by omega) W
  have NY := Lib.hid (fun W => dk_new_yes (N : Int) W (by omega) (by omega))
  have CN := Lib.hid (fun (W : World) (a : Addr) (s : DS) (av : Av) (h : LD W a s av) => cNew W a s av h)
  clear hA hl hf h1 h64
  go_enter Try.func4, Try.ntmps4
  go_wp2_with (first
    | (go_at_call 22; refine (NY.out _).mono ?_; rintro e w1 ⟨⟨a, rfl, hd⟩, hb⟩; rw [Int.toNat_natCast] at hd)
    | (go_at_call 9; refine (CN.out w1 a _ _ hd).mono ?_; rintro e w2 ⟨⟨p, rfl, hc⟩, hb2⟩))
  have R0 : Hid (RU w p a w2.heap.size N 0 (.fresh a (.new N)) (List.replicate N .zero) (w2.alloc (.cells (madeBlks N) 41))) := Lib.hid (by
    have hB := below_newI w2 (.cells (madeBlks N) 41)
    have hs := Nat.le_trans hb.size hb2.size
    refine ⟨hc.frame hB.size (fun i hi _ => hB.block i hi) fun i hi => hi.imp id fun e => ⟨Nat.le_of_eq e.symm, by rw [e]; simp⟩, OImg.made w2 N _, (hb.trans (hb2.mono hb.size)).trans (hB.mono hs), hs, fresh_fine a N n1, rfl, Nat.zero_le _, List.length_replicate⟩)
  clear hb hd hb2 hc NY CN hmk t0 t1 t2 t3
  generalize w2.alloc (.cells (madeBlks N) 41) = w3 at R0 ⊢
  generalize w2.heap.size = g at R0 ⊢
  go_loopw [10] (fun i wr => ∃ (k : Nat) (c : CS) (M : List Blk), k ≤ len ∧ i = .int .i64 k ∧ Hid (RU w p a g N k c M wr)) (fun i _ => len - (intOf i).toNat)
  case atStart => exact ⟨0, _, _, Nat.zero_le _, rfl, R0⟩
  case round =>
    clear R0
    obtain ⟨k, c, M, hk, rfl, R⟩ := hrel
    have j3 : (len : Int) ≤ 200 := by omega
    by_cases hlt : k < len
    · obtain ⟨gA, oA, rfl, hgA, hcell⟩ := HA.out (by rw [← HL.out]; omega)
      obtain ⟨x, hx⟩ : ∃ x, l[k]? = some x := ⟨_, List.getElem?_eq_getElem (by rw [← HL.out]; exact hlt)⟩
      have XR : Hid (wr.rangeAt gA (oA + k * 4) x.cells) := Lib.hid fun j v hv => (R.out.low.cell (p := ⟨gA, oA + k * 4 + j, none⟩) hgA).trans (hcell k x hx j v hv)
      have FX := Lib.hid (HF.out x (List.mem_of_getElem? hx))
      have j1 : (0 : Int) ≤ k := by omega
      have j2 : (k : Int) < len := by omega
      clear hcell hx
      go_upto_region 14 with (first
        | (refine load_act11 rfl (.tmp 56) rfl gA (oA + k * 4) (by rfl) x XR.out ?_)
        | (refine store_act11 rfl (.tmp 11) (.tmp 57) rfl x rfl rfl ?_))
      have hb4 := below_newI wr (.cells x.cells.toArray 25)
      have R4 := Lib.hid (R.out.below hb4)
      obtain ⟨av, hav⟩ : ∃ av : Av, av = fun i => (i < w.heap.size ∨ i = g) ∨ (wr.heap.size ≤ i ∧ i < (wr.alloc (.cells x.cells.toArray 25)).heap.size) := ⟨_, rfl⟩
      have AV : Hid (CA (wr.alloc (.cells x.cells.toArray 25)) p c av) := Lib.hid (by rw [hav]; exact R.out.ca.new' hb4)
      have AL : Hid (∀ i, (i < w.heap.size ∨ i = g) → av i) := Lib.hid (by rw [hav]; exact fun i hi => .inl hi)
      have AA : Hid (av wr.heap.size) := Lib.hid (by rw [hav]; exact .inr ⟨Nat.le_refl _, by simp⟩)
      have H4 := Lib.hid (heap_alloc_new wr (.cells x.cells.toArray 25))
      clear hb4 hav R XR
      generalize wr.alloc (.cells x.cells.toArray 25) = w4 at *
      generalize wr.heap.size = va at *
      have CE : Hid (∀ W : World, W.heap[va]? = w4.heap[va]? → W.cell? ⟨va, 0, none⟩ = some (.int .u8 (x.kind : Int)) ∧ W.cell? ⟨va, 1, none⟩ = some (.int .i64 x.at') ∧ W.cell? ⟨va, 2, none⟩ = some (.int .u32 (x.fill : Int))) := Lib.hid fun W hW => by
        have h := hW.trans H4.out
        exact ⟨(cell_of_row W va 0 _ _ (0, 0) h).trans rfl, (cell_of_row W va 1 _ _ (0, 0) h).trans rfl, (cell_of_row W va 2 _ _ (0, 0) h).trans rfl⟩
      have VL : Hid (va < w4.heap.size) := Lib.hid (Array.getElem?_eq_some_iff.1 H4.out).1
      obtain ⟨K, B, F, Ks, Km, Kc⟩ := x
      dsimp only at CE
      clear H4
      obtain ⟨c0, c1, c2⟩ := CE.out w4 rfl
      obtain ⟨q, hq⟩ : ∃ q, K % 12 = q := ⟨_, rfl⟩
      have q1 : (K : Int).tmod 12 = (q : Int) := by rw [Int.tmod_eq_emod_of_nonneg (by omega)]; omega
      have q2 : (K : Int) % 12 = (q : Int) := by omega
      have hq12 : q < 12 := by omega
      have j4 : (0 : Int) < N := by omega
      have j5 : ((N : Int) == 0) = false := by simp; omega
      obtain ⟨r, hr⟩ : ∃ r, k % N = r := ⟨_, rfl⟩
      have r0 : r < N := by rw [← hr]; exact Nat.mod_lt _ n1
      have r1 : (k : Int).tmod (N : Int) = (r : Int) := by rw [Int.tmod_eq_emod_of_nonneg (by omega), ← hr]; simp
      have r2 : (k : Int) % (N : Int) = (r : Int) := by rw [← hr]; simp
      have r3 : (0 : Int) ≤ r := by omega
      have r4 : (r : Int) < N := by omega
      clear hr
      go_upto_region 15 with fail
      try rw [q1]
      try rw [q2]
      clear q1 q2 hq
      rcases (show q = 0 ∨ q = 1 ∨ q = 2 ∨ q = 3 ∨ q = 5 ∨ q = 6 ∨ q = 7 ∨ q = 8 ∨ q = 9 ∨ q = 4 ∨ q = 10 ∨ q = 11 by omega) with rfl | rfl | rfl | rfl | rfl | rfl | rfl | rfl | rfl | rfl | rfl | rfl
      · have FL := Lib.hid (fun W => fill_any F W FX.out.2.2)
        generalize fillB F = X at FL
        go_upto_region 17 with fail
        refine wp_region_class_tail (More w4) 6 (by kernel_rfl) (by kernel_rfl) (More.drew _) ?_
        simp only [List.take_succ_cons, List.take_zero, List.drop_succ_cons, List.drop_zero]
        repeat (first | go_big_quiet_skip | (go_big_quiet_want; first
          | (refine quiet_cell _ rfl _ (by rfl) _ (by intro w' hw'; exact (CE.out w' (hw'.block va VL.out)).2.1) ?_; simp only [Act.put, List.setIfInBounds_toArray, List.set_cons_zero, List.set_cons_succ]; go_big_quiet_on)
          | (refine quiet_u32c _ rfl _ (by rfl) _ (by intro w' hw'; exact (CE.out w' (hw'.block va VL.out)).2.2) ?_; simp only [Act.put, List.setIfInBounds_toArray, List.set_cons_zero, List.set_cons_succ]; go_big_quiet_on)
          | (go_big_quiet_op; first | go_big_quiet_on | (apply Exists.intro; refine ⟨fun _ _ => ?_, ?_⟩; (with_reducible exact rfl); go_big_quiet_on) | go_big_quiet_call ((intro hC; refine (FL.out _).mono ?_; exact fun e w' h => ⟨h.1, hC.on h.2⟩)))))
        refine wpQuiet_nil ?_
        intro w5 hw5
        have A5 := Lib.hid (AV.out.below hw5)
        have RL := Lib.hid (R4.out.below hw5)
        have E5 : Hid (w5.heap[va]? = w4.heap[va]?) := Lib.hid (hw5.block va VL.out)
        have VL5 : Hid (va < w5.heap.size) := Lib.hid (Nat.lt_of_lt_of_le VL.out hw5.size)
        clear hw5 c0 c1 c2
        by_cases hin : 0 ≤ B ∧ B < (N : Int)
        · have E0 : Hid (c.err B = 0) := Lib.hid (cerr_in hin.1 (by rw [R4.out.n]; exact hin.2))
          go_upto_region 19 with (go_at_call 17; refine (ca_write w5 p c _ B X A5.out).mono ?_; rintro e w6 ⟨rfl, hc6, hk6⟩; rw [E0.out])
          have C6 := Lib.hid hc6
          have O6 := Lib.hid (RL.out.row.keep (hk6.block g (AL.out g (.inr rfl))))
          have L6 := Lib.hid (RL.out.low.trans (hk6.below fun i hi => AL.out i (.inl hi)))
          have VL6 : Hid (va < w6.heap.size) := Lib.hid (Nat.lt_of_lt_of_le VL5.out hk6.size)
          have E6 : Hid (w6.heap[va]? = w4.heap[va]?) := Lib.hid ((hk6.block va AA.out).trans E5.out)
          clear hc6 hk6 A5 RL E5
          obtain ⟨b, rfl⟩ := Int.eq_ofNat_of_zero_le hin.1
          have hbN : b < N := by omega
          have j6 : (0 : Int) ≤ (b : Int) := by omega
          have j7 : (b : Int) < (N : Int) := hin.2
          clear hin
          refine wp_region_class_tail (More w6) 7 (by kernel_rfl) (by kernel_rfl) (More.drew _) ?_
          simp only [List.take_succ_cons, List.take_zero, List.drop_succ_cons, List.drop_zero]
          repeat (first | go_big_quiet_skip | (go_big_quiet_want; first
            | (refine quiet_cell _ rfl _ (by rfl) _ (by intro w' hw'; exact (CE.out w' ((hw'.block va VL6.out).trans E6.out)).2.1) ?_; simp only [Act.put, List.setIfInBounds_toArray, List.set_cons_zero, List.set_cons_succ]; go_big_quiet_on)
            | (refine quiet_u32c _ rfl _ (by rfl) _ (by intro w' hw'; exact (CE.out w' ((hw'.block va VL6.out).trans E6.out)).2.2) ?_; simp only [Act.put, List.setIfInBounds_toArray, List.set_cons_zero, List.set_cons_succ]; go_big_quiet_on)
            | (go_big_quiet_op; first | go_big_quiet_on | (apply Exists.intro; refine ⟨fun _ _ => ?_, ?_⟩; (with_reducible exact rfl); go_big_quiet_on) | go_big_quiet_call ((intro hC; refine (FL.out _).mono ?_; exact fun e w' h => ⟨h.1, hC.on h.2⟩)))))
          refine wpQuiet_nil ?_
          intro w7 hw7
          have O7 := Lib.hid (O6.out.keep (hw7.block g O6.out.lt))
          have C7 := Lib.hid (C6.out.below hw7)
          have L7 := Lib.hid (L6.out.trans (Below.mono hw7 L6.out.size))
          clear hw7 C6 O6 L6
          go_upto_region 34 with (refine store_blk rfl (.tmp 79) (.tmp 78) rfl g _ X rfl rfl (by have h := O7.out.there (i := b) (by rw [R4.out.len]; exact hbN); first | exact h | (rw [Nat.zero_add] at h; exact h)) ?_)
          have R5 : Hid (RU w p a g N (k + 1) (c.write (b : Int) X) (M.set b X) (w7.setCells g (b * 256) (arr X).toList)) := Lib.hid (by
            have hw := write_a c (b : Int) X
            have hset := O7.out.set (i := b) (by rw [R4.out.len]; exact hbN) X
            rw [Nat.zero_add] at hset
            have hfine := R4.out.fine.write (b := (b : Int)) (by omega) (by rw [R4.out.n]; exact j7) X
            rw [Int.toNat_natCast] at hfine
            exact ⟨(C7.out.mono AL.out).cells (.inr rfl) _ _, hset, below_cells L7.out R4.out.at_ _ _, R4.out.at_, hfine, hw.1.trans R4.out.disk, by rw [hw.2.1]; have := R4.out.acts; omega, by rw [List.length_set]; exact R4.out.len⟩)
          clear C7 O7 L7 R4 AV CE VL VL5 VL6 E6 FL E0
          generalize w7.setCells g (b * 256) (arr X).toList = wz at R5 ⊢
          generalize c.write (b : Int) X = c5 at R5
          generalize M.set b X = M5 at R5
          clear AL AA FX
          by_cases h9 : k % 9 = 0
          rotate_left
          · have e9 : ((k : Int).tmod 9 == 0) = false := by rw [Int.tmod_eq_emod_of_nonneg (by omega)]; simp; omega
            have e8 : ((k : Int) % 9 == 0) = false := by simp; omega
            go_wp2_with fail
            exact ⟨⟨k + 1, c5, M5, by omega, by go_num, R5⟩, by simp [intOf]; omega⟩
          have e9 : ((k : Int).tmod 9 == 0) = true := by rw [Int.tmod_eq_emod_of_nonneg (by omega)]; simp; omega
          have e8 : ((k : Int) % 9 == 0) = true := by simp; omega
          have hrn : (r : Int) < c5.n := by rw [R5.out.n]; exact r4
          have EV : Hid (c5.readV (r : Int) = M5.getD r .zero) := Lib.hid (by have := R5.out.fine.readV (b := (r : Int)) r3 hrn; rw [Int.toNat_natCast] at this; exact this)
          have EE : Hid (c5.readE (r : Int) = 0) := Lib.hid (R5.out.fine.readE r3 hrn)
          have MB : Hid (M5[r]? = some (M5.getD r .zero)) := Lib.hid (by rw [List.getD_eq_getElem?_getD, List.getElem?_eq_getElem (by rw [R5.out.len]; exact r0)]; rfl)
          clear hrn
          obtain ⟨Y, hY⟩ : ∃ Y, M5.getD r .zero = Y := ⟨_, rfl⟩
          rw [hY] at EV MB
          clear hY
          go_upto_region 36 with (first
            | (go_at_call 10; refine (ca_read _ p c5 _ (r : Int) R5.out.ca).mono ?_; rintro e w8 ⟨rfl, hc8, hk8⟩; rw [EE.out, EV.out])
            | (refine store_row rfl (.tmp 13) (.tmp 129) rfl w8.heap.size Y .zero 41 rfl rfl (heap_alloc_new _ _) ?_; rw [World.setRow_alloc_new]))
          have R8 : Hid (RU w p a g N (k + 1) (c5.read (r : Int)) M5 w8) := Lib.hid (R5.out.keep0 hc8 hk8 (R5.out.fine.read _) (read_a c5 _).1 (by rw [(read_a c5 _).2.1]; exact Nat.le_refl _))
          have R9 := Lib.hid (R8.out.below (below_newI w8 (.cells (arr Y) 41)))
          have V9 := Lib.hid (At.row (heap_alloc_new w8 (.cells (arr Y) 41)))
          have M9 := Lib.hid (R9.out.row.at MB.out)
          clear hc8 hk8 R5 R8 EE EV MB
          generalize w8.alloc (.cells (arr Y) 41) = w9 at *
          generalize w8.heap.size = g9 at *
          rw [Nat.zero_add] at M9
          have heq := fun W => equalIn_blk Y Y W
          have hdy : decide (Y = Y) = true := decide_eq_true rfl
          have hgd := blk_guard
          refine wp_region_class (More w9) (by kernel_rfl) (by kernel_rfl) (More.drew _) ?_
          repeat (first | go_big_quiet_skip | (go_big_quiet_want; first
            | (refine quiet_load _ rfl _ _ rfl Y (by intro w' hw'; first | exact V9.out.below hw' | exact M9.out.below hw') ?_; simp only [Act.put, List.setIfInBounds_toArray, List.set_cons_zero, List.set_cons_succ]; go_big_quiet_on)
            | (go_big_quiet_op; first | go_big_quiet_on | (apply Exists.intro; refine ⟨fun _ _ => ?_, ?_⟩; (with_reducible exact rfl); go_big_quiet_on))))
          refine wpQuiet_nil ?_
          intro w10 hw10
          have R10 := Lib.hid (R9.out.below hw10)
          clear hw10 R9 V9 M9
          go_wp2
          exact ⟨⟨k + 1, c5.read (r : Int), M5, by omega, by go_num, R10⟩, by simp [intOf]; omega⟩
        · have EQ : c.write B X = c := if_neg (fun q => hin (by have h := CS.in_of q; rw [R4.out.n] at h; exact h))
          have E0 : Hid (c.err B = 2) := Lib.hid (CS.err_out (by rw [R4.out.n]; omega))
          have W0 := Lib.hid (ca_write w5 p c _ B X A5.out)
          rw [EQ] at W0
          clear EQ
          go_upto_region 34 with (go_at_call 17; refine W0.out.mono ?_; rintro e w6 ⟨rfl, hc6, hk6⟩; rw [E0.out])
          have R5 : Hid (RU w p a g N (k + 1) c M w6) := Lib.hid ⟨hc6.mono AL.out, RL.out.row.keep (hk6.block g (AL.out g (.inr rfl))), RL.out.low.trans (hk6.below fun i hi => AL.out i (.inl hi)), RL.out.at_, RL.out.fine, RL.out.disk, by have := RL.out.acts; omega, RL.out.len⟩
          clear hc6 hk6 W0 E0 A5 RL E5 VL5 R4 AV CE VL FL hin
          clear AL AA FX
          by_cases h9 : k % 9 = 0
          rotate_left
          · have e9 : ((k : Int).tmod 9 == 0) = false := by rw [Int.tmod_eq_emod_of_nonneg (by omega)]; simp; omega
            have e8 : ((k : Int) % 9 == 0) = false := by simp; omega
            go_wp2_with fail
            exact ⟨⟨k + 1, c, M, by omega, by go_num, R5⟩, by simp [intOf]; omega⟩
          have e9 : ((k : Int).tmod 9 == 0) = true := by rw [Int.tmod_eq_emod_of_nonneg (by omega)]; simp; omega
          have e8 : ((k : Int) % 9 == 0) = true := by simp; omega
          have hrn : (r : Int) < c.n := by rw [R5.out.n]; exact r4
          have EV : Hid (c.readV (r : Int) = M.getD r .zero) := Lib.hid (by have := R5.out.fine.readV (b := (r : Int)) r3 hrn; rw [Int.toNat_natCast] at this; exact this)
          have EE : Hid (c.readE (r : Int) = 0) := Lib.hid (R5.out.fine.readE r3 hrn)
          have MB : Hid (M[r]? = some (M.getD r .zero)) := Lib.hid (by rw [List.getD_eq_getElem?_getD, List.getElem?_eq_getElem (by rw [R5.out.len]; exact r0)]; rfl)
          clear hrn
          obtain ⟨Y, hY⟩ : ∃ Y, M.getD r .zero = Y := ⟨_, rfl⟩
          rw [hY] at EV MB
          clear hY
          go_upto_region 36 with (first
            | (go_at_call 10; refine (ca_read _ p c _ (r : Int) R5.out.ca).mono ?_; rintro e w8 ⟨rfl, hc8, hk8⟩; rw [EE.out, EV.out])
            | (refine store_row rfl (.tmp 13) (.tmp 129) rfl w8.heap.size Y .zero 41 rfl rfl (heap_alloc_new _ _) ?_; rw [World.setRow_alloc_new]))
          have R8 : Hid (RU w p a g N (k + 1) (c.read (r : Int)) M w8) := Lib.hid (R5.out.keep0 hc8 hk8 (R5.out.fine.read _) (read_a c _).1 (by rw [(read_a c _).2.1]; exact Nat.le_refl _))
          have R9 := Lib.hid (R8.out.below (below_newI w8 (.cells (arr Y) 41)))
          have V9 := Lib.hid (At.row (heap_alloc_new w8 (.cells (arr Y) 41)))
          have M9 := Lib.hid (R9.out.row.at MB.out)
          clear hc8 hk8 R5 R8 EE EV MB
          generalize w8.alloc (.cells (arr Y) 41) = w9 at *
          generalize w8.heap.size = g9 at *
          rw [Nat.zero_add] at M9
          have heq := fun W => equalIn_blk Y Y W
          have hdy : decide (Y = Y) = true := decide_eq_true rfl
          have hgd := blk_guard
          refine wp_region_class (More w9) (by kernel_rfl) (by kernel_rfl) (More.drew _) ?_
          repeat (first | go_big_quiet_skip | (go_big_quiet_want; first
            | (refine quiet_load _ rfl _ _ rfl Y (by intro w' hw'; first | exact V9.out.below hw' | exact M9.out.below hw') ?_; simp only [Act.put, List.setIfInBounds_toArray, List.set_cons_zero, List.set_cons_succ]; go_big_quiet_on)
            | (go_big_quiet_op; first | go_big_quiet_on | (apply Exists.intro; refine ⟨fun _ _ => ?_, ?_⟩; (with_reducible exact rfl); go_big_quiet_on))))
          refine wpQuiet_nil ?_
          intro w10 hw10
          have R10 := Lib.hid (R9.out.below hw10)
          clear hw10 R9 V9 M9
          go_wp2
          exact ⟨⟨k + 1, c.read (r : Int), M, by omega, by go_num, R10⟩, by simp [intOf]; omega⟩
      · have FL := Lib.hid (fun W => fill_any F W FX.out.2.2)
        generalize fillB F = X at FL
        go_upto_region 17 with fail
        refine wp_region_class_tail (More w4) 6 (by kernel_rfl) (by kernel_rfl) (More.drew _) ?_
        simp only [List.take_succ_cons, List.take_zero, List.drop_succ_cons, List.drop_zero]
        repeat (first | go_big_quiet_skip | (go_big_quiet_want; first
          | (refine quiet_cell _ rfl _ (by rfl) _ (by intro w' hw'; exact (CE.out w' (hw'.block va VL.out)).2.1) ?_; simp only [Act.put, List.setIfInBounds_toArray, List.set_cons_zero, List.set_cons_succ]; go_big_quiet_on)
          | (refine quiet_u32c _ rfl _ (by rfl) _ (by intro w' hw'; exact (CE.out w' (hw'.block va VL.out)).2.2) ?_; simp only [Act.put, List.setIfInBounds_toArray, List.set_cons_zero, List.set_cons_succ]; go_big_quiet_on)
          | (go_big_quiet_op; first | go_big_quiet_on | (apply Exists.intro; refine ⟨fun _ _ => ?_, ?_⟩; (with_reducible exact rfl); go_big_quiet_on) | go_big_quiet_call ((intro hC; refine (FL.out _).mono ?_; exact fun e w' h => ⟨h.1, hC.on h.2⟩)))))
        refine wpQuiet_nil ?_
        intro w5 hw5
        have A5 := Lib.hid (AV.out.below hw5)
        have RL := Lib.hid (R4.out.below hw5)
        have E5 : Hid (w5.heap[va]? = w4.heap[va]?) := Lib.hid (hw5.block va VL.out)
        have VL5 : Hid (va < w5.heap.size) := Lib.hid (Nat.lt_of_lt_of_le VL.out hw5.size)
        clear hw5 c0 c1 c2
        by_cases hin : 0 ≤ B ∧ B < (N : Int)
        · have E0 : Hid (c.err B = 0) := Lib.hid (cerr_in hin.1 (by rw [R4.out.n]; exact hin.2))
          go_upto_region 19 with (go_at_call 17; refine (ca_write w5 p c _ B X A5.out).mono ?_; rintro e w6 ⟨rfl, hc6, hk6⟩; rw [E0.out])
          have C6 := Lib.hid hc6
          have O6 := Lib.hid (RL.out.row.keep (hk6.block g (AL.out g (.inr rfl))))
          have L6 := Lib.hid (RL.out.low.trans (hk6.below fun i hi => AL.out i (.inl hi)))
          have VL6 : Hid (va < w6.heap.size) := Lib.hid (Nat.lt_of_lt_of_le VL5.out hk6.size)
          have E6 : Hid (w6.heap[va]? = w4.heap[va]?) := Lib.hid ((hk6.block va AA.out).trans E5.out)
          clear hc6 hk6 A5 RL E5
          obtain ⟨b, rfl⟩ := Int.eq_ofNat_of_zero_le hin.1
          have hbN : b < N := by omega
          have j6 : (0 : Int) ≤ (b : Int) := by omega
          have j7 : (b : Int) < (N : Int) := hin.2
          clear hin
          refine wp_region_class_tail (More w6) 7 (by kernel_rfl) (by kernel_rfl) (More.drew _) ?_
          simp only [List.take_succ_cons, List.take_zero, List.drop_succ_cons, List.drop_zero]
          repeat (first | go_big_quiet_skip | (go_big_quiet_want; first
            | (refine quiet_cell _ rfl _ (by rfl) _ (by intro w' hw'; exact (CE.out w' ((hw'.block va VL6.out).trans E6.out)).2.1) ?_; simp only [Act.put, List.setIfInBounds_toArray, List.set_cons_zero, List.set_cons_succ]; go_big_quiet_on)
            | (refine quiet_u32c _ rfl _ (by rfl) _ (by intro w' hw'; exact (CE.out w' ((hw'.block va VL6.out).trans E6.out)).2.2) ?_; simp only [Act.put, List.setIfInBounds_toArray, List.set_cons_zero, List.set_cons_succ]; go_big_quiet_on)
            | (go_big_quiet_op; first | go_big_quiet_on | (apply Exists.intro; refine ⟨fun _ _ => ?_, ?_⟩; (with_reducible exact rfl); go_big_quiet_on) | go_big_quiet_call ((intro hC; refine (FL.out _).mono ?_; exact fun e w' h => ⟨h.1, hC.on h.2⟩)))))
          refine wpQuiet_nil ?_
          intro w7 hw7
          have O7 := Lib.hid (O6.out.keep (hw7.block g O6.out.lt))
          have C7 := Lib.hid (C6.out.below hw7)
          have L7 := Lib.hid (L6.out.trans (Below.mono hw7 L6.out.size))
          clear hw7 C6 O6 L6
          go_upto_region 34 with (refine store_blk rfl (.tmp 79) (.tmp 78) rfl g _ X rfl rfl (by have h := O7.out.there (i := b) (by rw [R4.out.len]; exact hbN); first | exact h | (rw [Nat.zero_add] at h; exact h)) ?_)
          have R5 : Hid (RU w p a g N (k + 1) (c.write (b : Int) X) (M.set b X) (w7.setCells g (b * 256) (arr X).toList)) := Lib.hid (by
            have hw := write_a c (b : Int) X
            have hset := O7.out.set (i := b) (by rw [R4.out.len]; exact hbN) X
            rw [Nat.zero_add] at hset
            have hfine := R4.out.fine.write (b := (b : Int)) (by omega) (by rw [R4.out.n]; exact j7) X
            rw [Int.toNat_natCast] at hfine
            exact ⟨(C7.out.mono AL.out).cells (.inr rfl) _ _, hset, below_cells L7.out R4.out.at_ _ _, R4.out.at_, hfine, hw.1.trans R4.out.disk, by rw [hw.2.1]; have := R4.out.acts; omega, by rw [List.length_set]; exact R4.out.len⟩)
          clear C7 O7 L7 R4 AV CE VL VL5 VL6 E6 FL E0
          generalize w7.setCells g (b * 256) (arr X).toList = wz at R5 ⊢
          generalize c.write (b : Int) X = c5 at R5
          generalize M.set b X = M5 at R5
          clear AL AA FX
          by_cases h9 : k % 9 = 0
          rotate_left
          · have e9 : ((k : Int).tmod 9 == 0) = false := by rw [Int.tmod_eq_emod_of_nonneg (by omega)]; simp; omega
            have e8 : ((k : Int) % 9 == 0) = false := by simp; omega
            go_wp2_with fail
            exact ⟨⟨k + 1, c5, M5, by omega, by go_num, R5⟩, by simp [intOf]; omega⟩
          have e9 : ((k : Int).tmod 9 == 0) = true := by rw [Int.tmod_eq_emod_of_nonneg (by omega)]; simp; omega
          have e8 : ((k : Int) % 9 == 0) = true := by simp; omega
          have hrn : (r : Int) < c5.n := by rw [R5.out.n]; exact r4
          have EV : Hid (c5.readV (r : Int) = M5.getD r .zero) := Lib.hid (by have := R5.out.fine.readV (b := (r : Int)) r3 hrn; rw [Int.toNat_natCast] at this; exact this)
          have EE : Hid (c5.readE (r : Int) = 0) := Lib.hid (R5.out.fine.readE r3 hrn)
          have MB : Hid (M5[r]? = some (M5.getD r .zero)) := Lib.hid (by rw [List.getD_eq_getElem?_getD, List.getElem?_eq_getElem (by rw [R5.out.len]; exact r0)]; rfl)
          clear hrn
          obtain ⟨Y, hY⟩ : ∃ Y, M5.getD r .zero = Y := ⟨_, rfl⟩
          rw [hY] at EV MB
          clear hY
          go_upto_region 36 with (first
            | (go_at_call 10; refine (ca_read _ p c5 _ (r : Int) R5.out.ca).mono ?_; rintro e w8 ⟨rfl, hc8, hk8⟩; rw [EE.out, EV.out])
            | (refine store_row rfl (.tmp 13) (.tmp 129) rfl w8.heap.size Y .zero 41 rfl rfl (heap_alloc_new _ _) ?_; rw [World.setRow_alloc_new]))
          have R8 : Hid (RU w p a g N (k + 1) (c5.read (r : Int)) M5 w8) := Lib.hid (R5.out.keep0 hc8 hk8 (R5.out.fine.read _) (read_a c5 _).1 (by rw [(read_a c5 _).2.1]; exact Nat.le_refl _))
          have R9 := Lib.hid (R8.out.below (below_newI w8 (.cells (arr Y) 41)))
          have V9 := Lib.hid (At.row (heap_alloc_new w8 (.cells (arr Y) 41)))
          have M9 := Lib.hid (R9.out.row.at MB.out)
          clear hc8 hk8 R5 R8 EE EV MB
          generalize w8.alloc (.cells (arr Y) 41) = w9 at *
          generalize w8.heap.size = g9 at *
          rw [Nat.zero_add] at M9
          have heq := fun W => equalIn_blk Y Y W
          have hdy : decide (Y = Y) = true := decide_eq_true rfl
          have hgd := blk_guard
          refine wp_region_class (More w9) (by kernel_rfl) (by kernel_rfl) (More.drew _) ?_
          repeat (first | go_big_quiet_skip | (go_big_quiet_want; first
            | (refine quiet_load _ rfl _ _ rfl Y (by intro w' hw'; first | exact V9.out.below hw' | exact M9.out.below hw') ?_; simp only [Act.put, List.setIfInBounds_toArray, List.set_cons_zero, List.set_cons_succ]; go_big_quiet_on)
            | (go_big_quiet_op; first | go_big_quiet_on | (apply Exists.intro; refine ⟨fun _ _ => ?_, ?_⟩; (with_reducible exact rfl); go_big_quiet_on))))
          refine wpQuiet_nil ?_
          intro w10 hw10
          have R10 := Lib.hid (R9.out.below hw10)
          clear hw10 R9 V9 M9
          go_wp2
          exact ⟨⟨k + 1, c5.read (r : Int), M5, by omega, by go_num, R10⟩, by simp [intOf]; omega⟩
        · have EQ : c.write B X = c := if_neg (fun q => hin (by have h := CS.in_of q; rw [R4.out.n] at h; exact h))
          have E0 : Hid (c.err B = 2) := Lib.hid (CS.err_out (by rw [R4.out.n]; omega))
          have W0 := Lib.hid (ca_write w5 p c _ B X A5.out)
          rw [EQ] at W0
          clear EQ
          go_upto_region 34 with (go_at_call 17; refine W0.out.mono ?_; rintro e w6 ⟨rfl, hc6, hk6⟩; rw [E0.out])
          have R5 : Hid (RU w p a g N (k + 1) c M w6) := Lib.hid ⟨hc6.mono AL.out, RL.out.row.keep (hk6.block g (AL.out g (.inr rfl))), RL.out.low.trans (hk6.below fun i hi => AL.out i (.inl hi)), RL.out.at_, RL.out.fine, RL.out.disk, by have := RL.out.acts; omega, RL.out.len⟩
          clear hc6 hk6 W0 E0 A5 RL E5 VL5 R4 AV CE VL FL hin
          clear AL AA FX
          by_cases h9 : k % 9 = 0
          rotate_left
          · have e9 : ((k : Int).tmod 9 == 0) = false := by rw [Int.tmod_eq_emod_of_nonneg (by omega)]; simp; omega
            have e8 : ((k : Int) % 9 == 0) = false := by simp; omega
            go_wp2_with fail
            exact ⟨⟨k + 1, c, M, by omega, by go_num, R5⟩, by simp [intOf]; omega⟩
          have e9 : ((k : Int).tmod 9 == 0) = true := by rw [Int.tmod_eq_emod_of_nonneg (by omega)]; simp; omega
          have e8 : ((k : Int) % 9 == 0) = true := by simp; omega
          have hrn : (r : Int) < c.n := by rw [R5.out.n]; exact r4
          have EV : Hid (c.readV (r : Int) = M.getD r .zero) := Lib.hid (by have := R5.out.fine.readV (b := (r : Int)) r3 hrn; rw [Int.toNat_natCast] at this; exact this)
          have EE : Hid (c.readE (r : Int) = 0) := Lib.hid (R5.out.fine.readE r3 hrn)
          have MB : Hid (M[r]? = some (M.getD r .zero)) := Lib.hid (by rw [List.getD_eq_getElem?_getD, List.getElem?_eq_getElem (by rw [R5.out.len]; exact r0)]; rfl)
          clear hrn
          obtain ⟨Y, hY⟩ : ∃ Y, M.getD r .zero = Y := ⟨_, rfl⟩
          rw [hY] at EV MB
          clear hY
          go_upto_region 36 with (first
            | (go_at_call 10; refine (ca_read _ p c _ (r : Int) R5.out.ca).mono ?_; rintro e w8 ⟨rfl, hc8, hk8⟩; rw [EE.out, EV.out])
            | (refine store_row rfl (.tmp 13) (.tmp 129) rfl w8.heap.size Y .zero 41 rfl rfl (heap_alloc_new _ _) ?_; rw [World.setRow_alloc_new]))
          have R8 : Hid (RU w p a g N (k + 1) (c.read (r : Int)) M w8) := Lib.hid (R5.out.keep0 hc8 hk8 (R5.out.fine.read _) (read_a c _).1 (by rw [(read_a c _).2.1]; exact Nat.le_refl _))
          have R9 := Lib.hid (R8.out.below (below_newI w8 (.cells (arr Y) 41)))
          have V9 := Lib.hid (At.row (heap_alloc_new w8 (.cells (arr Y) 41)))
          have M9 := Lib.hid (R9.out.row.at MB.out)
          clear hc8 hk8 R5 R8 EE EV MB
          generalize w8.alloc (.cells (arr Y) 41) = w9 at *
          generalize w8.heap.size = g9 at *
          rw [Nat.zero_add] at M9
          have heq := fun W => equalIn_blk Y Y W
          have hdy : decide (Y = Y) = true := decide_eq_true rfl
          have hgd := blk_guard
          refine wp_region_class (More w9) (by kernel_rfl) (by kernel_rfl) (More.drew _) ?_
          repeat (first | go_big_quiet_skip | (go_big_quiet_want; first
            | (refine quiet_load _ rfl _ _ rfl Y (by intro w' hw'; first | exact V9.out.below hw' | exact M9.out.below hw') ?_; simp only [Act.put, List.setIfInBounds_toArray, List.set_cons_zero, List.set_cons_succ]; go_big_quiet_on)
            | (go_big_quiet_op; first | go_big_quiet_on | (apply Exists.intro; refine ⟨fun _ _ => ?_, ?_⟩; (with_reducible exact rfl); go_big_quiet_on))))
          refine wpQuiet_nil ?_
          intro w10 hw10
          have R10 := Lib.hid (R9.out.below hw10)
          clear hw10 R9 V9 M9
          go_wp2
          exact ⟨⟨k + 1, c.read (r : Int), M, by omega, by go_num, R10⟩, by simp [intOf]; omega⟩
      · go_upto_region 34 with (go_at_call 10; refine (ca_read w4 p c _ B R4.out.ca).mono ?_; rintro e w5 ⟨rfl, hc5, hk5⟩)
        have R5 : Hid (RU w p a g N (k + 1) (c.read B) M w5) := Lib.hid (R4.out.keep hc5 hk5 (R4.out.fine.read _) (read_a c _).1 (by rw [(read_a c _).2.1]; omega))
        clear hc5 hk5 c0 c1 c2 CE VL AV R4
        generalize c.read B = c5 at R5
        clear AL AA FX
        by_cases h9 : k % 9 = 0
        rotate_left
        · have e9 : ((k : Int).tmod 9 == 0) = false := by rw [Int.tmod_eq_emod_of_nonneg (by omega)]; simp; omega
          have e8 : ((k : Int) % 9 == 0) = false := by simp; omega
          go_wp2_with fail
          exact ⟨⟨k + 1, c5, M, by omega, by go_num, R5⟩, by simp [intOf]; omega⟩
        have e9 : ((k : Int).tmod 9 == 0) = true := by rw [Int.tmod_eq_emod_of_nonneg (by omega)]; simp; omega
        have e8 : ((k : Int) % 9 == 0) = true := by simp; omega
        have hrn : (r : Int) < c5.n := by rw [R5.out.n]; exact r4
        have EV : Hid (c5.readV (r : Int) = M.getD r .zero) := Lib.hid (by have := R5.out.fine.readV (b := (r : Int)) r3 hrn; rw [Int.toNat_natCast] at this; exact this)
        have EE : Hid (c5.readE (r : Int) = 0) := Lib.hid (R5.out.fine.readE r3 hrn)
        have MB : Hid (M[r]? = some (M.getD r .zero)) := Lib.hid (by rw [List.getD_eq_getElem?_getD, List.getElem?_eq_getElem (by rw [R5.out.len]; exact r0)]; rfl)
        clear hrn
        obtain ⟨Y, hY⟩ : ∃ Y, M.getD r .zero = Y := ⟨_, rfl⟩
        rw [hY] at EV MB
        clear hY
        go_upto_region 36 with (first
          | (go_at_call 10; refine (ca_read _ p c5 _ (r : Int) R5.out.ca).mono ?_; rintro e w8 ⟨rfl, hc8, hk8⟩; rw [EE.out, EV.out])
          | (refine store_row rfl (.tmp 13) (.tmp 129) rfl w8.heap.size Y .zero 41 rfl rfl (heap_alloc_new _ _) ?_; rw [World.setRow_alloc_new]))
        have R8 : Hid (RU w p a g N (k + 1) (c5.read (r : Int)) M w8) := Lib.hid (R5.out.keep0 hc8 hk8 (R5.out.fine.read _) (read_a c5 _).1 (by rw [(read_a c5 _).2.1]; exact Nat.le_refl _))
        have R9 := Lib.hid (R8.out.below (below_newI w8 (.cells (arr Y) 41)))
        have V9 := Lib.hid (At.row (heap_alloc_new w8 (.cells (arr Y) 41)))
        have M9 := Lib.hid (R9.out.row.at MB.out)
        clear hc8 hk8 R5 R8 EE EV MB
        generalize w8.alloc (.cells (arr Y) 41) = w9 at *
        generalize w8.heap.size = g9 at *
        rw [Nat.zero_add] at M9
        have heq := fun W => equalIn_blk Y Y W
        have hdy : decide (Y = Y) = true := decide_eq_true rfl
        have hgd := blk_guard
        refine wp_region_class (More w9) (by kernel_rfl) (by kernel_rfl) (More.drew _) ?_
        repeat (first | go_big_quiet_skip | (go_big_quiet_want; first
          | (refine quiet_load _ rfl _ _ rfl Y (by intro w' hw'; first | exact V9.out.below hw' | exact M9.out.below hw') ?_; simp only [Act.put, List.setIfInBounds_toArray, List.set_cons_zero, List.set_cons_succ]; go_big_quiet_on)
          | (go_big_quiet_op; first | go_big_quiet_on | (apply Exists.intro; refine ⟨fun _ _ => ?_, ?_⟩; (with_reducible exact rfl); go_big_quiet_on))))
        refine wpQuiet_nil ?_
        intro w10 hw10
        have R10 := Lib.hid (R9.out.below hw10)
        clear hw10 R9 V9 M9
        go_wp2
        exact ⟨⟨k + 1, c5.read (r : Int), M, by omega, by go_num, R10⟩, by simp [intOf]; omega⟩
      · go_upto_region 34 with (go_at_call 18; refine (ca_back w4 p c _ B R4.out.ca (by have := R4.out.acts; omega)).mono ?_; rintro e w5 ⟨rfl, hc5, hk5⟩)
        have R5 : Hid (RU w p a g N (k + 1) (c.back B) M w5) := Lib.hid (R4.out.keep hc5 hk5 (R4.out.fine.back _) (back_a c _).1 (Nat.le_trans (CS.back_acts c _) (by omega)))
        clear hc5 hk5 c0 c1 c2 CE VL AV R4
        generalize c.back B = c5 at R5
        clear AL AA FX
        by_cases h9 : k % 9 = 0
        rotate_left
        · have e9 : ((k : Int).tmod 9 == 0) = false := by rw [Int.tmod_eq_emod_of_nonneg (by omega)]; simp; omega
          have e8 : ((k : Int) % 9 == 0) = false := by simp; omega
          go_wp2_with fail
          exact ⟨⟨k + 1, c5, M, by omega, by go_num, R5⟩, by simp [intOf]; omega⟩
        have e9 : ((k : Int).tmod 9 == 0) = true := by rw [Int.tmod_eq_emod_of_nonneg (by omega)]; simp; omega
        have e8 : ((k : Int) % 9 == 0) = true := by simp; omega
        have hrn : (r : Int) < c5.n := by rw [R5.out.n]; exact r4
        have EV : Hid (c5.readV (r : Int) = M.getD r .zero) := Lib.hid (by have := R5.out.fine.readV (b := (r : Int)) r3 hrn; rw [Int.toNat_natCast] at this; exact this)
        have EE : Hid (c5.readE (r : Int) = 0) := Lib.hid (R5.out.fine.readE r3 hrn)
        have MB : Hid (M[r]? = some (M.getD r .zero)) := Lib.hid (by rw [List.getD_eq_getElem?_getD, List.getElem?_eq_getElem (by rw [R5.out.len]; exact r0)]; rfl)
        clear hrn
        obtain ⟨Y, hY⟩ : ∃ Y, M.getD r .zero = Y := ⟨_, rfl⟩
        rw [hY] at EV MB
        clear hY
        go_upto_region 36 with (first
          | (go_at_call 10; refine (ca_read _ p c5 _ (r : Int) R5.out.ca).mono ?_; rintro e w8 ⟨rfl, hc8, hk8⟩; rw [EE.out, EV.out])
          | (refine store_row rfl (.tmp 13) (.tmp 129) rfl w8.heap.size Y .zero 41 rfl rfl (heap_alloc_new _ _) ?_; rw [World.setRow_alloc_new]))
        have R8 : Hid (RU w p a g N (k + 1) (c5.read (r : Int)) M w8) := Lib.hid (R5.out.keep0 hc8 hk8 (R5.out.fine.read _) (read_a c5 _).1 (by rw [(read_a c5 _).2.1]; exact Nat.le_refl _))
        have R9 := Lib.hid (R8.out.below (below_newI w8 (.cells (arr Y) 41)))
        have V9 := Lib.hid (At.row (heap_alloc_new w8 (.cells (arr Y) 41)))
        have M9 := Lib.hid (R9.out.row.at MB.out)
        clear hc8 hk8 R5 R8 EE EV MB
        generalize w8.alloc (.cells (arr Y) 41) = w9 at *
        generalize w8.heap.size = g9 at *
        rw [Nat.zero_add] at M9
        have heq := fun W => equalIn_blk Y Y W
        have hdy : decide (Y = Y) = true := decide_eq_true rfl
        have hgd := blk_guard
        refine wp_region_class (More w9) (by kernel_rfl) (by kernel_rfl) (More.drew _) ?_
        repeat (first | go_big_quiet_skip | (go_big_quiet_want; first
          | (refine quiet_load _ rfl _ _ rfl Y (by intro w' hw'; first | exact V9.out.below hw' | exact M9.out.below hw') ?_; simp only [Act.put, List.setIfInBounds_toArray, List.set_cons_zero, List.set_cons_succ]; go_big_quiet_on)
          | (go_big_quiet_op; first | go_big_quiet_on | (apply Exists.intro; refine ⟨fun _ _ => ?_, ?_⟩; (with_reducible exact rfl); go_big_quiet_on))))
        refine wpQuiet_nil ?_
        intro w10 hw10
        have R10 := Lib.hid (R9.out.below hw10)
        clear hw10 R9 V9 M9
        go_wp2
        exact ⟨⟨k + 1, c5.read (r : Int), M, by omega, by go_num, R10⟩, by simp [intOf]; omega⟩
      · go_upto_region 34 with (go_at_call 11; refine (ca_pin w4 p c _ B true R4.out.ca).mono ?_; rintro e w5 ⟨rfl, hc5, hk5⟩)
        have R5 : Hid (RU w p a g N (k + 1) (c.setPin B true) M w5) := Lib.hid (R4.out.keep hc5 hk5 (R4.out.fine.pin _ _) (setPin_a c _ _).1 (by rw [(setPin_a c _ _).2]; omega))
        clear hc5 hk5 c0 c1 c2 CE VL AV R4
        generalize c.setPin B true = c5 at R5
        clear AL AA FX
        by_cases h9 : k % 9 = 0
        rotate_left
        · have e9 : ((k : Int).tmod 9 == 0) = false := by rw [Int.tmod_eq_emod_of_nonneg (by omega)]; simp; omega
          have e8 : ((k : Int) % 9 == 0) = false := by simp; omega
          go_wp2_with fail
          exact ⟨⟨k + 1, c5, M, by omega, by go_num, R5⟩, by simp [intOf]; omega⟩
        have e9 : ((k : Int).tmod 9 == 0) = true := by rw [Int.tmod_eq_emod_of_nonneg (by omega)]; simp; omega
        have e8 : ((k : Int) % 9 == 0) = true := by simp; omega
        have hrn : (r : Int) < c5.n := by rw [R5.out.n]; exact r4
        have EV : Hid (c5.readV (r : Int) = M.getD r .zero) := Lib.hid (by have := R5.out.fine.readV (b := (r : Int)) r3 hrn; rw [Int.toNat_natCast] at this; exact this)
        have EE : Hid (c5.readE (r : Int) = 0) := Lib.hid (R5.out.fine.readE r3 hrn)
        have MB : Hid (M[r]? = some (M.getD r .zero)) := Lib.hid (by rw [List.getD_eq_getElem?_getD, List.getElem?_eq_getElem (by rw [R5.out.len]; exact r0)]; rfl)
        clear hrn
        obtain ⟨Y, hY⟩ : ∃ Y, M.getD r .zero = Y := ⟨_, rfl⟩
        rw [hY] at EV MB
        clear hY
        go_upto_region 36 with (first
          | (go_at_call 10; refine (ca_read _ p c5 _ (r : Int) R5.out.ca).mono ?_; rintro e w8 ⟨rfl, hc8, hk8⟩; rw [EE.out, EV.out])
          | (refine store_row rfl (.tmp 13) (.tmp 129) rfl w8.heap.size Y .zero 41 rfl rfl (heap_alloc_new _ _) ?_; rw [World.setRow_alloc_new]))
        have R8 : Hid (RU w p a g N (k + 1) (c5.read (r : Int)) M w8) := Lib.hid (R5.out.keep0 hc8 hk8 (R5.out.fine.read _) (read_a c5 _).1 (by rw [(read_a c5 _).2.1]; exact Nat.le_refl _))
        have R9 := Lib.hid (R8.out.below (below_newI w8 (.cells (arr Y) 41)))
        have V9 := Lib.hid (At.row (heap_alloc_new w8 (.cells (arr Y) 41)))
        have M9 := Lib.hid (R9.out.row.at MB.out)
        clear hc8 hk8 R5 R8 EE EV MB
        generalize w8.alloc (.cells (arr Y) 41) = w9 at *
        generalize w8.heap.size = g9 at *
        rw [Nat.zero_add] at M9
        have heq := fun W => equalIn_blk Y Y W
        have hdy : decide (Y = Y) = true := decide_eq_true rfl
        have hgd := blk_guard
        refine wp_region_class (More w9) (by kernel_rfl) (by kernel_rfl) (More.drew _) ?_
        repeat (first | go_big_quiet_skip | (go_big_quiet_want; first
          | (refine quiet_load _ rfl _ _ rfl Y (by intro w' hw'; first | exact V9.out.below hw' | exact M9.out.below hw') ?_; simp only [Act.put, List.setIfInBounds_toArray, List.set_cons_zero, List.set_cons_succ]; go_big_quiet_on)
          | (go_big_quiet_op; first | go_big_quiet_on | (apply Exists.intro; refine ⟨fun _ _ => ?_, ?_⟩; (with_reducible exact rfl); go_big_quiet_on))))
        refine wpQuiet_nil ?_
        intro w10 hw10
        have R10 := Lib.hid (R9.out.below hw10)
        clear hw10 R9 V9 M9
        go_wp2
        exact ⟨⟨k + 1, c5.read (r : Int), M, by omega, by go_num, R10⟩, by simp [intOf]; omega⟩
      · go_upto_region 34 with (go_at_call 11; refine (ca_pin w4 p c _ B false R4.out.ca).mono ?_; rintro e w5 ⟨rfl, hc5, hk5⟩)
        have R5 : Hid (RU w p a g N (k + 1) (c.setPin B false) M w5) := Lib.hid (R4.out.keep hc5 hk5 (R4.out.fine.pin _ _) (setPin_a c _ _).1 (by rw [(setPin_a c _ _).2]; omega))
        clear hc5 hk5 c0 c1 c2 CE VL AV R4
        generalize c.setPin B false = c5 at R5
        clear AL AA FX
        by_cases h9 : k % 9 = 0
        rotate_left
        · have e9 : ((k : Int).tmod 9 == 0) = false := by rw [Int.tmod_eq_emod_of_nonneg (by omega)]; simp; omega
          have e8 : ((k : Int) % 9 == 0) = false := by simp; omega
          go_wp2_with fail
          exact ⟨⟨k + 1, c5, M, by omega, by go_num, R5⟩, by simp [intOf]; omega⟩
        have e9 : ((k : Int).tmod 9 == 0) = true := by rw [Int.tmod_eq_emod_of_nonneg (by omega)]; simp; omega
        have e8 : ((k : Int) % 9 == 0) = true := by simp; omega
        have hrn : (r : Int) < c5.n := by rw [R5.out.n]; exact r4
        have EV : Hid (c5.readV (r : Int) = M.getD r .zero) := Lib.hid (by have := R5.out.fine.readV (b := (r : Int)) r3 hrn; rw [Int.toNat_natCast] at this; exact this)
        have EE : Hid (c5.readE (r : Int) = 0) := Lib.hid (R5.out.fine.readE r3 hrn)
        have MB : Hid (M[r]? = some (M.getD r .zero)) := Lib.hid (by rw [List.getD_eq_getElem?_getD, List.getElem?_eq_getElem (by rw [R5.out.len]; exact r0)]; rfl)
        clear hrn
        obtain ⟨Y, hY⟩ : ∃ Y, M.getD r .zero = Y := ⟨_, rfl⟩
        rw [hY] at EV MB
        clear hY
        go_upto_region 36 with (first
          | (go_at_call 10; refine (ca_read _ p c5 _ (r : Int) R5.out.ca).mono ?_; rintro e w8 ⟨rfl, hc8, hk8⟩; rw [EE.out, EV.out])
          | (refine store_row rfl (.tmp 13) (.tmp 129) rfl w8.heap.size Y .zero 41 rfl rfl (heap_alloc_new _ _) ?_; rw [World.setRow_alloc_new]))
        have R8 : Hid (RU w p a g N (k + 1) (c5.read (r : Int)) M w8) := Lib.hid (R5.out.keep0 hc8 hk8 (R5.out.fine.read _) (read_a c5 _).1 (by rw [(read_a c5 _).2.1]; exact Nat.le_refl _))
        have R9 := Lib.hid (R8.out.below (below_newI w8 (.cells (arr Y) 41)))
        have V9 := Lib.hid (At.row (heap_alloc_new w8 (.cells (arr Y) 41)))
        have M9 := Lib.hid (R9.out.row.at MB.out)
        clear hc8 hk8 R5 R8 EE EV MB
        generalize w8.alloc (.cells (arr Y) 41) = w9 at *
        generalize w8.heap.size = g9 at *
        rw [Nat.zero_add] at M9
        have heq := fun W => equalIn_blk Y Y W
        have hdy : decide (Y = Y) = true := decide_eq_true rfl
        have hgd := blk_guard
        refine wp_region_class (More w9) (by kernel_rfl) (by kernel_rfl) (More.drew _) ?_
        repeat (first | go_big_quiet_skip | (go_big_quiet_want; first
          | (refine quiet_load _ rfl _ _ rfl Y (by intro w' hw'; first | exact V9.out.below hw' | exact M9.out.below hw') ?_; simp only [Act.put, List.setIfInBounds_toArray, List.set_cons_zero, List.set_cons_succ]; go_big_quiet_on)
          | (go_big_quiet_op; first | go_big_quiet_on | (apply Exists.intro; refine ⟨fun _ _ => ?_, ?_⟩; (with_reducible exact rfl); go_big_quiet_on))))
        refine wpQuiet_nil ?_
        intro w10 hw10
        have R10 := Lib.hid (R9.out.below hw10)
        clear hw10 R9 V9 M9
        go_wp2
        exact ⟨⟨k + 1, c5.read (r : Int), M, by omega, by go_num, R10⟩, by simp [intOf]; omega⟩
      · go_upto_region 34 with (go_at_call 12; refine (ca_wb w4 p c _ B R4.out.ca (by have := R4.out.acts; omega)).mono ?_; rintro e w5 ⟨rfl, hc5, hk5⟩)
        have R5 : Hid (RU w p a g N (k + 1) (c.wb B) M w5) := Lib.hid (R4.out.keep hc5 hk5 (R4.out.fine.wb _) (wb_a c B).1 (Nat.le_trans (wb_a c B).2.2.1 (by omega)))
        clear hc5 hk5 c0 c1 c2 CE VL AV R4
        generalize c.wb B = c5 at R5
        clear AL AA FX
        by_cases h9 : k % 9 = 0
        rotate_left
        · have e9 : ((k : Int).tmod 9 == 0) = false := by rw [Int.tmod_eq_emod_of_nonneg (by omega)]; simp; omega
          have e8 : ((k : Int) % 9 == 0) = false := by simp; omega
          go_wp2_with fail
          exact ⟨⟨k + 1, c5, M, by omega, by go_num, R5⟩, by simp [intOf]; omega⟩
        have e9 : ((k : Int).tmod 9 == 0) = true := by rw [Int.tmod_eq_emod_of_nonneg (by omega)]; simp; omega
        have e8 : ((k : Int) % 9 == 0) = true := by simp; omega
        have hrn : (r : Int) < c5.n := by rw [R5.out.n]; exact r4
        have EV : Hid (c5.readV (r : Int) = M.getD r .zero) := Lib.hid (by have := R5.out.fine.readV (b := (r : Int)) r3 hrn; rw [Int.toNat_natCast] at this; exact this)
        have EE : Hid (c5.readE (r : Int) = 0) := Lib.hid (R5.out.fine.readE r3 hrn)
        have MB : Hid (M[r]? = some (M.getD r .zero)) := Lib.hid (by rw [List.getD_eq_getElem?_getD, List.getElem?_eq_getElem (by rw [R5.out.len]; exact r0)]; rfl)
        clear hrn
        obtain ⟨Y, hY⟩ : ∃ Y, M.getD r .zero = Y := ⟨_, rfl⟩
        rw [hY] at EV MB
        clear hY
        go_upto_region 36 with (first
          | (go_at_call 10; refine (ca_read _ p c5 _ (r : Int) R5.out.ca).mono ?_; rintro e w8 ⟨rfl, hc8, hk8⟩; rw [EE.out, EV.out])
          | (refine store_row rfl (.tmp 13) (.tmp 129) rfl w8.heap.size Y .zero 41 rfl rfl (heap_alloc_new _ _) ?_; rw [World.setRow_alloc_new]))
        have R8 : Hid (RU w p a g N (k + 1) (c5.read (r : Int)) M w8) := Lib.hid (R5.out.keep0 hc8 hk8 (R5.out.fine.read _) (read_a c5 _).1 (by rw [(read_a c5 _).2.1]; exact Nat.le_refl _))
        have R9 := Lib.hid (R8.out.below (below_newI w8 (.cells (arr Y) 41)))
        have V9 := Lib.hid (At.row (heap_alloc_new w8 (.cells (arr Y) 41)))
        have M9 := Lib.hid (R9.out.row.at MB.out)
        clear hc8 hk8 R5 R8 EE EV MB
        generalize w8.alloc (.cells (arr Y) 41) = w9 at *
        generalize w8.heap.size = g9 at *
        rw [Nat.zero_add] at M9
        have heq := fun W => equalIn_blk Y Y W
        have hdy : decide (Y = Y) = true := decide_eq_true rfl
        have hgd := blk_guard
        refine wp_region_class (More w9) (by kernel_rfl) (by kernel_rfl) (More.drew _) ?_
        repeat (first | go_big_quiet_skip | (go_big_quiet_want; first
          | (refine quiet_load _ rfl _ _ rfl Y (by intro w' hw'; first | exact V9.out.below hw' | exact M9.out.below hw') ?_; simp only [Act.put, List.setIfInBounds_toArray, List.set_cons_zero, List.set_cons_succ]; go_big_quiet_on)
          | (go_big_quiet_op; first | go_big_quiet_on | (apply Exists.intro; refine ⟨fun _ _ => ?_, ?_⟩; (with_reducible exact rfl); go_big_quiet_on))))
        refine wpQuiet_nil ?_
        intro w10 hw10
        have R10 := Lib.hid (R9.out.below hw10)
        clear hw10 R9 V9 M9
        go_wp2
        exact ⟨⟨k + 1, c5.read (r : Int), M, by omega, by go_num, R10⟩, by simp [intOf]; omega⟩
      · go_upto_region 34 with (go_at_call 13; refine (ca_ev w4 p c _ B R4.out.ca).mono ?_; rintro e w5 ⟨rfl, hc5, hk5⟩)
        have R5 : Hid (RU w p a g N (k + 1) (c.ev B) M w5) := Lib.hid (R4.out.keep hc5 hk5 (R4.out.fine.ev _) (ev_a c B).1 (by rw [(ev_a c B).2.2]; omega))
        clear hc5 hk5 c0 c1 c2 CE VL AV R4
        generalize c.ev B = c5 at R5
        clear AL AA FX
        by_cases h9 : k % 9 = 0
        rotate_left
        · have e9 : ((k : Int).tmod 9 == 0) = false := by rw [Int.tmod_eq_emod_of_nonneg (by omega)]; simp; omega
          have e8 : ((k : Int) % 9 == 0) = false := by simp; omega
          go_wp2_with fail
          exact ⟨⟨k + 1, c5, M, by omega, by go_num, R5⟩, by simp [intOf]; omega⟩
        have e9 : ((k : Int).tmod 9 == 0) = true := by rw [Int.tmod_eq_emod_of_nonneg (by omega)]; simp; omega
        have e8 : ((k : Int) % 9 == 0) = true := by simp; omega
        have hrn : (r : Int) < c5.n := by rw [R5.out.n]; exact r4
        have EV : Hid (c5.readV (r : Int) = M.getD r .zero) := Lib.hid (by have := R5.out.fine.readV (b := (r : Int)) r3 hrn; rw [Int.toNat_natCast] at this; exact this)
        have EE : Hid (c5.readE (r : Int) = 0) := Lib.hid (R5.out.fine.readE r3 hrn)
        have MB : Hid (M[r]? = some (M.getD r .zero)) := Lib.hid (by rw [List.getD_eq_getElem?_getD, List.getElem?_eq_getElem (by rw [R5.out.len]; exact r0)]; rfl)
        clear hrn
        obtain ⟨Y, hY⟩ : ∃ Y, M.getD r .zero = Y := ⟨_, rfl⟩
        rw [hY] at EV MB
        clear hY
        go_upto_region 36 with (first
          | (go_at_call 10; refine (ca_read _ p c5 _ (r : Int) R5.out.ca).mono ?_; rintro e w8 ⟨rfl, hc8, hk8⟩; rw [EE.out, EV.out])
          | (refine store_row rfl (.tmp 13) (.tmp 129) rfl w8.heap.size Y .zero 41 rfl rfl (heap_alloc_new _ _) ?_; rw [World.setRow_alloc_new]))
        have R8 : Hid (RU w p a g N (k + 1) (c5.read (r : Int)) M w8) := Lib.hid (R5.out.keep0 hc8 hk8 (R5.out.fine.read _) (read_a c5 _).1 (by rw [(read_a c5 _).2.1]; exact Nat.le_refl _))
        have R9 := Lib.hid (R8.out.below (below_newI w8 (.cells (arr Y) 41)))
        have V9 := Lib.hid (At.row (heap_alloc_new w8 (.cells (arr Y) 41)))
        have M9 := Lib.hid (R9.out.row.at MB.out)
        clear hc8 hk8 R5 R8 EE EV MB
        generalize w8.alloc (.cells (arr Y) 41) = w9 at *
        generalize w8.heap.size = g9 at *
        rw [Nat.zero_add] at M9
        have heq := fun W => equalIn_blk Y Y W
        have hdy : decide (Y = Y) = true := decide_eq_true rfl
        have hgd := blk_guard
        refine wp_region_class (More w9) (by kernel_rfl) (by kernel_rfl) (More.drew _) ?_
        repeat (first | go_big_quiet_skip | (go_big_quiet_want; first
          | (refine quiet_load _ rfl _ _ rfl Y (by intro w' hw'; first | exact V9.out.below hw' | exact M9.out.below hw') ?_; simp only [Act.put, List.setIfInBounds_toArray, List.set_cons_zero, List.set_cons_succ]; go_big_quiet_on)
          | (go_big_quiet_op; first | go_big_quiet_on | (apply Exists.intro; refine ⟨fun _ _ => ?_, ?_⟩; (with_reducible exact rfl); go_big_quiet_on))))
        refine wpQuiet_nil ?_
        intro w10 hw10
        have R10 := Lib.hid (R9.out.below hw10)
        clear hw10 R9 V9 M9
        go_wp2
        exact ⟨⟨k + 1, c5.read (r : Int), M, by omega, by go_num, R10⟩, by simp [intOf]; omega⟩
      · go_upto_region 34 with (go_at_call 20; refine (ca_sync w4 p c _ R4.out.ca (by have := R4.out.acts; omega)).mono ?_; rintro e w5 ⟨rfl, hc5, hk5⟩)
        have R5 : Hid (RU w p a g N (k + 1) (c.sync.1) M w5) := Lib.hid (R4.out.keep hc5 hk5 (R4.out.fine.sync.2.1) (sync_a c) (sync_acts c (by rw [R4.out.n]; exact n64)))
        clear hc5 hk5 c0 c1 c2 CE VL AV R4
        generalize c.sync.1 = c5 at R5
        clear AL AA FX
        by_cases h9 : k % 9 = 0
        rotate_left
        · have e9 : ((k : Int).tmod 9 == 0) = false := by rw [Int.tmod_eq_emod_of_nonneg (by omega)]; simp; omega
          have e8 : ((k : Int) % 9 == 0) = false := by simp; omega
          go_wp2_with fail
          exact ⟨⟨k + 1, c5, M, by omega, by go_num, R5⟩, by simp [intOf]; omega⟩
        have e9 : ((k : Int).tmod 9 == 0) = true := by rw [Int.tmod_eq_emod_of_nonneg (by omega)]; simp; omega
        have e8 : ((k : Int) % 9 == 0) = true := by simp; omega
        have hrn : (r : Int) < c5.n := by rw [R5.out.n]; exact r4
        have EV : Hid (c5.readV (r : Int) = M.getD r .zero) := Lib.hid (by have := R5.out.fine.readV (b := (r : Int)) r3 hrn; rw [Int.toNat_natCast] at this; exact this)
        have EE : Hid (c5.readE (r : Int) = 0) := Lib.hid (R5.out.fine.readE r3 hrn)
        have MB : Hid (M[r]? = some (M.getD r .zero)) := Lib.hid (by rw [List.getD_eq_getElem?_getD, List.getElem?_eq_getElem (by rw [R5.out.len]; exact r0)]; rfl)
        clear hrn
        obtain ⟨Y, hY⟩ : ∃ Y, M.getD r .zero = Y := ⟨_, rfl⟩
        rw [hY] at EV MB
        clear hY
        go_upto_region 36 with (first
          | (go_at_call 10; refine (ca_read _ p c5 _ (r : Int) R5.out.ca).mono ?_; rintro e w8 ⟨rfl, hc8, hk8⟩; rw [EE.out, EV.out])
          | (refine store_row rfl (.tmp 13) (.tmp 129) rfl w8.heap.size Y .zero 41 rfl rfl (heap_alloc_new _ _) ?_; rw [World.setRow_alloc_new]))
        have R8 : Hid (RU w p a g N (k + 1) (c5.read (r : Int)) M w8) := Lib.hid (R5.out.keep0 hc8 hk8 (R5.out.fine.read _) (read_a c5 _).1 (by rw [(read_a c5 _).2.1]; exact Nat.le_refl _))
        have R9 := Lib.hid (R8.out.below (below_newI w8 (.cells (arr Y) 41)))
        have V9 := Lib.hid (At.row (heap_alloc_new w8 (.cells (arr Y) 41)))
        have M9 := Lib.hid (R9.out.row.at MB.out)
        clear hc8 hk8 R5 R8 EE EV MB
        generalize w8.alloc (.cells (arr Y) 41) = w9 at *
        generalize w8.heap.size = g9 at *
        rw [Nat.zero_add] at M9
        have heq := fun W => equalIn_blk Y Y W
        have hdy : decide (Y = Y) = true := decide_eq_true rfl
        have hgd := blk_guard
        refine wp_region_class (More w9) (by kernel_rfl) (by kernel_rfl) (More.drew _) ?_
        repeat (first | go_big_quiet_skip | (go_big_quiet_want; first
          | (refine quiet_load _ rfl _ _ rfl Y (by intro w' hw'; first | exact V9.out.below hw' | exact M9.out.below hw') ?_; simp only [Act.put, List.setIfInBounds_toArray, List.set_cons_zero, List.set_cons_succ]; go_big_quiet_on)
          | (go_big_quiet_op; first | go_big_quiet_on | (apply Exists.intro; refine ⟨fun _ _ => ?_, ?_⟩; (with_reducible exact rfl); go_big_quiet_on))))
        refine wpQuiet_nil ?_
        intro w10 hw10
        have R10 := Lib.hid (R9.out.below hw10)
        clear hw10 R9 V9 M9
        go_wp2
        exact ⟨⟨k + 1, c5.read (r : Int), M, by omega, by go_num, R10⟩, by simp [intOf]; omega⟩
      · go_upto_region 34 with fail
        have R5 : Hid (RU w p a g N (k + 1) c M w4) := Lib.hid R4.out.next
        clear c0 c1 c2 CE VL AV R4
        clear AL AA FX
        by_cases h9 : k % 9 = 0
        rotate_left
        · have e9 : ((k : Int).tmod 9 == 0) = false := by rw [Int.tmod_eq_emod_of_nonneg (by omega)]; simp; omega
          have e8 : ((k : Int) % 9 == 0) = false := by simp; omega
          go_wp2_with fail
          exact ⟨⟨k + 1, c, M, by omega, by go_num, R5⟩, by simp [intOf]; omega⟩
        have e9 : ((k : Int).tmod 9 == 0) = true := by rw [Int.tmod_eq_emod_of_nonneg (by omega)]; simp; omega
        have e8 : ((k : Int) % 9 == 0) = true := by simp; omega
        have hrn : (r : Int) < c.n := by rw [R5.out.n]; exact r4
        have EV : Hid (c.readV (r : Int) = M.getD r .zero) := Lib.hid (by have := R5.out.fine.readV (b := (r : Int)) r3 hrn; rw [Int.toNat_natCast] at this; exact this)
        have EE : Hid (c.readE (r : Int) = 0) := Lib.hid (R5.out.fine.readE r3 hrn)
        have MB : Hid (M[r]? = some (M.getD r .zero)) := Lib.hid (by rw [List.getD_eq_getElem?_getD, List.getElem?_eq_getElem (by rw [R5.out.len]; exact r0)]; rfl)
        clear hrn
        obtain ⟨Y, hY⟩ : ∃ Y, M.getD r .zero = Y := ⟨_, rfl⟩
        rw [hY] at EV MB
        clear hY
        go_upto_region 36 with (first
          | (go_at_call 10; refine (ca_read _ p c _ (r : Int) R5.out.ca).mono ?_; rintro e w8 ⟨rfl, hc8, hk8⟩; rw [EE.out, EV.out])
          | (refine store_row rfl (.tmp 13) (.tmp 129) rfl w8.heap.size Y .zero 41 rfl rfl (heap_alloc_new _ _) ?_; rw [World.setRow_alloc_new]))
        have R8 : Hid (RU w p a g N (k + 1) (c.read (r : Int)) M w8) := Lib.hid (R5.out.keep0 hc8 hk8 (R5.out.fine.read _) (read_a c _).1 (by rw [(read_a c _).2.1]; exact Nat.le_refl _))
        have R9 := Lib.hid (R8.out.below (below_newI w8 (.cells (arr Y) 41)))
        have V9 := Lib.hid (At.row (heap_alloc_new w8 (.cells (arr Y) 41)))
        have M9 := Lib.hid (R9.out.row.at MB.out)
        clear hc8 hk8 R5 R8 EE EV MB
        generalize w8.alloc (.cells (arr Y) 41) = w9 at *
        generalize w8.heap.size = g9 at *
        rw [Nat.zero_add] at M9
        have heq := fun W => equalIn_blk Y Y W
        have hdy : decide (Y = Y) = true := decide_eq_true rfl
        have hgd := blk_guard
        refine wp_region_class (More w9) (by kernel_rfl) (by kernel_rfl) (More.drew _) ?_
        repeat (first | go_big_quiet_skip | (go_big_quiet_want; first
          | (refine quiet_load _ rfl _ _ rfl Y (by intro w' hw'; first | exact V9.out.below hw' | exact M9.out.below hw') ?_; simp only [Act.put, List.setIfInBounds_toArray, List.set_cons_zero, List.set_cons_succ]; go_big_quiet_on)
          | (go_big_quiet_op; first | go_big_quiet_on | (apply Exists.intro; refine ⟨fun _ _ => ?_, ?_⟩; (with_reducible exact rfl); go_big_quiet_on))))
        refine wpQuiet_nil ?_
        intro w10 hw10
        have R10 := Lib.hid (R9.out.below hw10)
        clear hw10 R9 V9 M9
        go_wp2
        exact ⟨⟨k + 1, c.read (r : Int), M, by omega, by go_num, R10⟩, by simp [intOf]; omega⟩
      · go_upto_region 34 with fail
        have R5 : Hid (RU w p a g N (k + 1) c M w4) := Lib.hid R4.out.next
        clear c0 c1 c2 CE VL AV R4
        clear AL AA FX
        by_cases h9 : k % 9 = 0
        rotate_left
        · have e9 : ((k : Int).tmod 9 == 0) = false := by rw [Int.tmod_eq_emod_of_nonneg (by omega)]; simp; omega
          have e8 : ((k : Int) % 9 == 0) = false := by simp; omega
          go_wp2_with fail
          exact ⟨⟨k + 1, c, M, by omega, by go_num, R5⟩, by simp [intOf]; omega⟩
        have e9 : ((k : Int).tmod 9 == 0) = true := by rw [Int.tmod_eq_emod_of_nonneg (by omega)]; simp; omega
        have e8 : ((k : Int) % 9 == 0) = true := by simp; omega
        have hrn : (r : Int) < c.n := by rw [R5.out.n]; exact r4
        have EV : Hid (c.readV (r : Int) = M.getD r .zero) := Lib.hid (by have := R5.out.fine.readV (b := (r : Int)) r3 hrn; rw [Int.toNat_natCast] at this; exact this)
        have EE : Hid (c.readE (r : Int) = 0) := Lib.hid (R5.out.fine.readE r3 hrn)
        have MB : Hid (M[r]? = some (M.getD r .zero)) := Lib.hid (by rw [List.getD_eq_getElem?_getD, List.getElem?_eq_getElem (by rw [R5.out.len]; exact r0)]; rfl)
        clear hrn
        obtain ⟨Y, hY⟩ : ∃ Y, M.getD r .zero = Y := ⟨_, rfl⟩
        rw [hY] at EV MB
        clear hY
        go_upto_region 36 with (first
          | (go_at_call 10; refine (ca_read _ p c _ (r : Int) R5.out.ca).mono ?_; rintro e w8 ⟨rfl, hc8, hk8⟩; rw [EE.out, EV.out])
          | (refine store_row rfl (.tmp 13) (.tmp 129) rfl w8.heap.size Y .zero 41 rfl rfl (heap_alloc_new _ _) ?_; rw [World.setRow_alloc_new]))
        have R8 : Hid (RU w p a g N (k + 1) (c.read (r : Int)) M w8) := Lib.hid (R5.out.keep0 hc8 hk8 (R5.out.fine.read _) (read_a c _).1 (by rw [(read_a c _).2.1]; exact Nat.le_refl _))
        have R9 := Lib.hid (R8.out.below (below_newI w8 (.cells (arr Y) 41)))
        have V9 := Lib.hid (At.row (heap_alloc_new w8 (.cells (arr Y) 41)))
        have M9 := Lib.hid (R9.out.row.at MB.out)
        clear hc8 hk8 R5 R8 EE EV MB
        generalize w8.alloc (.cells (arr Y) 41) = w9 at *
        generalize w8.heap.size = g9 at *
        rw [Nat.zero_add] at M9
        have heq := fun W => equalIn_blk Y Y W
        have hdy : decide (Y = Y) = true := decide_eq_true rfl
        have hgd := blk_guard
        refine wp_region_class (More w9) (by kernel_rfl) (by kernel_rfl) (More.drew _) ?_
        repeat (first | go_big_quiet_skip | (go_big_quiet_want; first
          | (refine quiet_load _ rfl _ _ rfl Y (by intro w' hw'; first | exact V9.out.below hw' | exact M9.out.below hw') ?_; simp only [Act.put, List.setIfInBounds_toArray, List.set_cons_zero, List.set_cons_succ]; go_big_quiet_on)
          | (go_big_quiet_op; first | go_big_quiet_on | (apply Exists.intro; refine ⟨fun _ _ => ?_, ?_⟩; (with_reducible exact rfl); go_big_quiet_on))))
        refine wpQuiet_nil ?_
        intro w10 hw10
        have R10 := Lib.hid (R9.out.below hw10)
        clear hw10 R9 V9 M9
        go_wp2
        exact ⟨⟨k + 1, c.read (r : Int), M, by omega, by go_num, R10⟩, by simp [intOf]; omega⟩
      · go_upto_region 34 with fail
        have R5 : Hid (RU w p a g N (k + 1) c M w4) := Lib.hid R4.out.next
        clear c0 c1 c2 CE VL AV R4
        clear AL AA FX
        by_cases h9 : k % 9 = 0
        rotate_left
        · have e9 : ((k : Int).tmod 9 == 0) = false := by rw [Int.tmod_eq_emod_of_nonneg (by omega)]; simp; omega
          have e8 : ((k : Int) % 9 == 0) = false := by simp; omega
          go_wp2_with fail
          exact ⟨⟨k + 1, c, M, by omega, by go_num, R5⟩, by simp [intOf]; omega⟩
        have e9 : ((k : Int).tmod 9 == 0) = true := by rw [Int.tmod_eq_emod_of_nonneg (by omega)]; simp; omega
        have e8 : ((k : Int) % 9 == 0) = true := by simp; omega
        have hrn : (r : Int) < c.n := by rw [R5.out.n]; exact r4
        have EV : Hid (c.readV (r : Int) = M.getD r .zero) := Lib.hid (by have := R5.out.fine.readV (b := (r : Int)) r3 hrn; rw [Int.toNat_natCast] at this; exact this)
        have EE : Hid (c.readE (r : Int) = 0) := Lib.hid (R5.out.fine.readE r3 hrn)
        have MB : Hid (M[r]? = some (M.getD r .zero)) := Lib.hid (by rw [List.getD_eq_getElem?_getD, List.getElem?_eq_getElem (by rw [R5.out.len]; exact r0)]; rfl)
        clear hrn
        obtain ⟨Y, hY⟩ : ∃ Y, M.getD r .zero = Y := ⟨_, rfl⟩
        rw [hY] at EV MB
        clear hY
        go_upto_region 36 with (first
          | (go_at_call 10; refine (ca_read _ p c _ (r : Int) R5.out.ca).mono ?_; rintro e w8 ⟨rfl, hc8, hk8⟩; rw [EE.out, EV.out])
          | (refine store_row rfl (.tmp 13) (.tmp 129) rfl w8.heap.size Y .zero 41 rfl rfl (heap_alloc_new _ _) ?_; rw [World.setRow_alloc_new]))
        have R8 : Hid (RU w p a g N (k + 1) (c.read (r : Int)) M w8) := Lib.hid (R5.out.keep0 hc8 hk8 (R5.out.fine.read _) (read_a c _).1 (by rw [(read_a c _).2.1]; exact Nat.le_refl _))
        have R9 := Lib.hid (R8.out.below (below_newI w8 (.cells (arr Y) 41)))
        have V9 := Lib.hid (At.row (heap_alloc_new w8 (.cells (arr Y) 41)))
        have M9 := Lib.hid (R9.out.row.at MB.out)
        clear hc8 hk8 R5 R8 EE EV MB
        generalize w8.alloc (.cells (arr Y) 41) = w9 at *
        generalize w8.heap.size = g9 at *
        rw [Nat.zero_add] at M9
        have heq := fun W => equalIn_blk Y Y W
        have hdy : decide (Y = Y) = true := decide_eq_true rfl
        have hgd := blk_guard
        refine wp_region_class (More w9) (by kernel_rfl) (by kernel_rfl) (More.drew _) ?_
        repeat (first | go_big_quiet_skip | (go_big_quiet_want; first
          | (refine quiet_load _ rfl _ _ rfl Y (by intro w' hw'; first | exact V9.out.below hw' | exact M9.out.below hw') ?_; simp only [Act.put, List.setIfInBounds_toArray, List.set_cons_zero, List.set_cons_succ]; go_big_quiet_on)
          | (go_big_quiet_op; first | go_big_quiet_on | (apply Exists.intro; refine ⟨fun _ _ => ?_, ?_⟩; (with_reducible exact rfl); go_big_quiet_on))))
        refine wpQuiet_nil ?_
        intro w10 hw10
        have R10 := Lib.hid (R9.out.below hw10)
        clear hw10 R9 V9 M9
        go_wp2
        exact ⟨⟨k + 1, c.read (r : Int), M, by omega, by go_num, R10⟩, by simp [intOf]; omega⟩
    · obtain rfl : k = len := by omega
      clear hk hlt
      have SY := Lib.hid R.out.fine.sync
      have SA : Hid (c.sync.1.a = a) := Lib.hid ((sync_a c).trans R.out.disk)
      have SW := Lib.hid (ca_sync wr p c _ R.out.ca (by have := R.out.acts; omega))
      rw [SY.out.1] at SW
      obtain ⟨c1, hc1⟩ : ∃ c1, c.sync.1 = c1 := ⟨_, rfl⟩
      rw [hc1] at SY SA SW
      have F1 := Lib.hid SY.out.2.1
      have D1 := Lib.hid SY.out.2.2.1
      have T1 := Lib.hid SY.out.2.2.2.1
      have S1 := Lib.hid SY.out.2.2.2.2
      have ML := Lib.hid R.out.len
      clear hc1 SY
      have SF := Lib.hid (fun (W : World) (h : CA W p c1 fun i => i < w.heap.size ∨ i = g) => ca_safe W p c1 _ h)
      rw [SA.out, S1.out, ML.out] at SF
      have WT := Lib.hid (fun (W : World) (av : Av) (h : CA W p c1 av) => ca_waiting W p c1 av h)
      rw [SA.out, T1.out] at WT
      clear SA S1 T1
      have e0 : ((N : Int) == (N : Int)) = true := beq_self_eq_true _
      go_upto_region 40 with (first
        | (go_at_call 20; refine SW.out.mono ?_; rintro e w4 ⟨rfl, hc4, hk4⟩; have O4 := Lib.hid (R.out.row.keep (hk4.block g (.inr rfl))); have L4 := Lib.hid (R.out.low.trans (hk4.below fun _ hi => .inl hi)))
        | (go_at_call 24; refine (SF.out w4 hc4).mono ?_; rintro e w5 ⟨⟨g2, o2, cp2, rfl, hi5, hg5, hc5⟩, hk5⟩; have U5 : Hid (UE w p g g2 o2 N c1 M w5) := Lib.hid ⟨hc5, O4.out.keep (hk5.block g (.inr rfl)), hi5, L4.out.trans (hk5.below fun _ hi => .inl hi), F1.out, ML.out⟩))
      clear hc4 hk4 hi5 hg5 hc5 hk5 O4 L4 R SW SF
      go_wp2_with (first
        | (go_at_call 15; refine (ca_dirty _ p c1 _ U5.out.ca).mono ?_; rintro e w6 ⟨⟨v6, rfl, ho6⟩, hb6⟩; rw [D1.out] at ho6; obtain ⟨A6, q6, rfl, hq6, hd6⟩ := own_ints (n := 0) (l := []) ho6 rfl; have U6 := Lib.hid (U5.out.below hb6); clear ho6 hb6 hq6 hd6)
        | (go_at_call 25; refine (WT.out w6 _ U6.out.ca).mono ?_; rintro e w7 ⟨rfl, hc7, hk7⟩; have U7 : Hid (UE w p g g2 o2 N c1 M w7) := Lib.hid (U6.out.keep hc7 hk7 F1.out); clear hc7 hk7))
      clear U5 U6 WT D1 F1
      go_loopw [17] (fun iv wr => ∃ (i : Nat) (c : CS), i ≤ N ∧ iv = .int .i64 i ∧ Hid (UE w p g g2 o2 N c M wr)) (fun iv _ => N - (intOf iv).toNat)
      case atStart => exact ⟨0, c1, Nat.zero_le _, rfl, U7⟩
      case round =>
        clear U7
        rename_i wr1 _
        obtain ⟨i, c2, hi, rfl, U⟩ := hrel
        have j4 : (N : Int) ≤ 64 := by omega
        by_cases hlt : i < N
        · have i1 : (0 : Int) ≤ i := by omega
          have i2 : (i : Int) < N := by omega
          have hin : (i : Int) < c2.n := by rw [U.out.n]; exact i2
          have EV : Hid (c2.readV (i : Int) = M.getD i .zero) := Lib.hid (by have := U.out.fine.readV (b := (i : Int)) i1 hin; rw [Int.toNat_natCast] at this; exact this)
          have EE : Hid (c2.readE (i : Int) = 0) := Lib.hid (U.out.fine.readE i1 hin)
          have MB : Hid (M[i]? = some (M.getD i .zero)) := Lib.hid (by rw [List.getD_eq_getElem?_getD, List.getElem?_eq_getElem (by rw [ML.out]; exact hlt)]; rfl)
          clear hin
          obtain ⟨Y, hY⟩ : ∃ Y, M.getD i .zero = Y := ⟨_, rfl⟩
          rw [hY] at EV MB
          clear hY
          go_upto_region 46 with (first
            | (go_at_call 10; refine (ca_read _ p c2 _ (i : Int) U.out.ca).mono ?_; rintro e w8 ⟨rfl, hc8, hk8⟩; rw [EE.out, EV.out])
            | (refine store_row rfl (.tmp 18) (.tmp 175) rfl w8.heap.size Y .zero 41 rfl rfl (heap_alloc_new _ _) ?_; rw [World.setRow_alloc_new]))
          have U8 : Hid (UE w p g g2 o2 N (c2.read (i : Int)) M w8) := Lib.hid (U.out.keep hc8 hk8 (U.out.fine.read _))
          have U9 := Lib.hid (U8.out.below (below_newI w8 (.cells (arr Y) 41)))
          have V9 := Lib.hid (At.row (heap_alloc_new w8 (.cells (arr Y) 41)))
          have M9 := Lib.hid (U9.out.row.at MB.out)
          have S9 := Lib.hid (U9.out.srow.at MB.out)
          clear hc8 hk8 U U8 EE EV MB
          generalize w8.alloc (.cells (arr Y) 41) = w9 at *
          generalize w8.heap.size = g9 at *
          rw [Nat.zero_add] at M9
          have heq := fun W => equalIn_blk Y Y W
          have hdy : decide (Y = Y) = true := decide_eq_true rfl
          have hgd := blk_guard
          refine wp_region_class (More w9) (by kernel_rfl) (by kernel_rfl) (More.drew _) ?_
          repeat (first | go_big_quiet_skip | (go_big_quiet_want; first
            | (refine quiet_load _ rfl _ _ rfl Y (by intro w' hw'; first | exact V9.out.below hw' | exact M9.out.below hw' | exact S9.out.below hw') ?_; simp only [Act.put, List.setIfInBounds_toArray, List.set_cons_zero, List.set_cons_succ]; go_big_quiet_on)
            | (go_big_quiet_op; first | go_big_quiet_on | (apply Exists.intro; refine ⟨fun _ _ => ?_, ?_⟩; (with_reducible exact rfl); go_big_quiet_on))))
          refine wpQuiet_nil ?_
          intro w10 hw10
          have U10 := Lib.hid (U9.out.below hw10)
          clear hw10 U9 V9 M9 S9
          go_wp2
          exact ⟨⟨i + 1, c2.read (i : Int), by omega, by go_num, U10⟩, by simp [intOf]; omega⟩
        · obtain rfl : i = N := by omega
          go_wp2_with (go_at_call 21; refine (awake_any _).mono ?_; rintro e w11 ⟨rfl, hb11⟩)
          go_ret
          exact ⟨rfl, U.out.low.trans (hb11.mono U.out.low.size)⟩
end Go.Proofs.Ytkolpdllogpklaa
