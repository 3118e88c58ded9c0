import Derived.Test.YtkolpdllogpklaaCaR
namespace Go.Proofs.Ytkolpdllogpklaa
open Go.RowKit Go.Maps

/-! CacheLists. -/
theorem quiet_cell {o : Oper} {a : Act} {C : World → Prop} {K : Act → Prop} (x : Operand) (ho : o.op = .load 3 x) (p : Addr) (hx : a.eval x = .pointer (some p)) (k : Int) (hc : ∀ w, C w → w.cell? p = some (.int .i64 k))
    (hk : K (a.put o.dst (.int .i64 k))) : o.quiet Try.prog a C K := by
  refine ⟨_, fun w hw => ?_, hk⟩
  have h := hc w hw
  unfold Oper.quietAt execOp
  simp only [ho, hx]
  go_simp
  first | done | exact ⟨rfl, hw⟩ | exact hw
set_option maxRecDepth 100000 in
set_option maxHeartbeats 2000000 in
theorem rises_true (A : Option Addr) (n cp : Nat) (l : List Int) (N : Nat) (w : World) (hn : n = l.length) (hc : n ≤ 1000000) (hA : IntsAt w A l) (hr : l.Pairwise (· < ·)) (hin : ∀ b ∈ l, 0 ≤ b ∧ b < N) : Calls Try.prog 27 #[.slice A n cp, .int .i64 (N : Int)] w fun e w' => e = .returned (.bool true) ∧ Below w.heap.size w w' := by
  have HA := Lib.hid hA
  have HN := Lib.hid hn
  have HR := Lib.hid hr
  have HI := Lib.hid hin
  have j0 : (n : Int) ≤ 1000000 := by omega
  clear hA hn hr hin
  go_enter Try.func27, Try.ntmps27
  go_wp2
  go_loopw [5] (fun i wr => ∃ k : Nat, k ≤ n ∧ i = .int .i64 k ∧ Hid (Below w.heap.size w wr)) (fun i _ => n - (intOf i).toNat)
  case atStart => exact ⟨0, Nat.zero_le _, rfl, Lib.hid (Below.refl _ _)⟩
  case round =>
    obtain ⟨k, hk, rfl, BW⟩ := hrel
    by_cases hlt : k < n
    · obtain ⟨g, o, rfl, hlg, hcell⟩ := HA.out.below BW.out (by rw [← HN.out]; omega)
      obtain ⟨x, hx⟩ : ∃ x, l[k]? = some x := ⟨_, List.getElem?_eq_getElem (by rw [← HN.out]; exact hlt)⟩
      have c1 := hcell k x hx
      have HC1 : Hid (∀ W, More wr W → W.cell? ⟨g, o + k, none⟩ = some (.int .i64 x)) := Lib.hid fun W hW => (Below.cell hW (p := ⟨g, o + k, none⟩) hlg).trans c1
      have hxin := HI.out x (List.mem_of_getElem? hx)
      have t0 : decide (x < 0) = false := decide_eq_false (by omega)
      have t1 : decide ((N : Int) ≤ x) = false := decide_eq_false (by omega)
      have j1 : (0 : Int) ≤ k := by omega
      have j2 : (k : Int) < n := by omega
      by_cases hk0 : k = 0
      · subst hk0
        rw [Nat.add_zero] at HC1
        have HC2 := HC1
        clear hcell hx c1 hxin
        go_wp2
        refine wp_region_class (More wr) (by kernel_rfl) (by kernel_rfl) (More.drew _) ?_
        repeat (first | go_big_quiet_skip | (go_big_quiet_want; first
          | (refine quiet_cell _ rfl _ (by rfl) _ (by intro w' hw'; first | exact HC1.out w' hw' | exact HC2.out w' hw') ?_; simp only [Act.put, List.setIfInBounds_toArray, List.set_cons_zero, List.set_cons_succ]; go_big_quiet_on)
          | (go_big_quiet_op; first | go_big_quiet_on | (apply Exists.intro; refine ⟨fun _ _ => ?_, ?_⟩; (with_reducible exact rfl); go_big_quiet_on))))
        refine wpQuiet_nil ?_
        intro w6 hw6
        have B6 := Lib.hid (BW.out.trans (Below.mono hw6 BW.out.size))
        clear hw6
        go_wp2
        exact ⟨⟨0 + 1, by omega, by go_num, B6⟩, by simp [intOf]; omega⟩
      · obtain ⟨j, rfl⟩ : ∃ j, k = j + 1 := ⟨k - 1, by omega⟩
        obtain ⟨y, hy⟩ : ∃ y, l[j]? = some y := ⟨_, List.getElem?_eq_getElem (by rw [← HN.out]; omega)⟩
        have hlt2 : y < x := by
          obtain ⟨h1, rfl⟩ := List.getElem?_eq_some_iff.1 hx
          obtain ⟨h2, rfl⟩ := List.getElem?_eq_some_iff.1 hy
          exact List.pairwise_iff_getElem.1 HR.out _ _ h2 h1 (by omega)
        have c2 := hcell j y hy
        have HC2 : Hid (∀ W, More wr W → W.cell? ⟨g, o + j, none⟩ = some (.int .i64 y)) := Lib.hid fun W hW => (Below.cell hW (p := ⟨g, o + j, none⟩) hlg).trans c2
        have t2 : decide (x ≤ y) = false := decide_eq_false (by omega)
        have t3 : decide ((0 : Int) < ((j + 1 : Nat) : Int)) = true := decide_eq_true (by omega)
        have t4 : decide (0 < j + 1) = true := decide_eq_true (by omega)
        have t5 : decide ((0 : Int) < (j : Int) + 1) = true := decide_eq_true (by omega)
        have j3 : (0 : Int) ≤ j := by omega
        have j4 : (j : Int) < n := by omega
        have j5 : wrap64 ((j : Int) + 1 - 1) = j := by unfold wrap64; omega
        clear hcell hx c1 c2 hxin hlt2 hy
        go_wp2
        refine wp_region_class (More wr) (by kernel_rfl) (by kernel_rfl) (More.drew _) ?_
        repeat (first | go_big_quiet_skip | (go_big_quiet_want; first
          | (refine quiet_cell _ rfl _ (by rfl) _ (by intro w' hw'; first | exact HC1.out w' hw' | exact HC2.out w' hw') ?_; simp only [Act.put, List.setIfInBounds_toArray, List.set_cons_zero, List.set_cons_succ]; go_big_quiet_on)
          | (go_big_quiet_op; first | go_big_quiet_on | (apply Exists.intro; refine ⟨fun _ _ => ?_, ?_⟩; (with_reducible exact rfl); go_big_quiet_on))))
        refine wpQuiet_nil ?_
        intro w6 hw6
        have B6 := Lib.hid (BW.out.trans (Below.mono hw6 BW.out.size))
        clear hw6
        go_wp2
        exact ⟨⟨j + 1 + 1, by omega, by go_num, B6⟩, by simp [intOf]; omega⟩
    · obtain rfl : k = n := by omega
      go_wp2
      go_ret
      exact ⟨rfl, BW.out⟩
theorem mem_dirty {c : CS} {b : Int} : b ∈ c.dirty ↔ (0 ≤ b ∧ b < c.n) ∧ c.isD b = true := mem_pickL
theorem mem_clean {c : CS} {b : Int} : b ∈ c.clean ↔ (0 ≤ b ∧ b < c.n) ∧ c.isC b = true := mem_pickL
/-- What CacheLists' loop keeps. -/
structure CLs (w : World) (p a : Addr) (g N k : Nat) (c : CS) (M : List Blk) (A1 A2 : Option Addr) (wr : World) : Prop where
  rn : RN w p a g N k c M wr
  d : IntsAt wr A1 c.dirty
  c : IntsAt wr A2 c.clean
theorem CLs.below {w wr w' : World} {p a : Addr} {g N k : Nat} {c : CS} {M : List Blk} {A1 A2 : Option Addr} (h : CLs w p a g N k c M A1 A2 wr) (hb : Below wr.heap.size wr w') : CLs w p a g N k c M A1 A2 w' := ⟨h.rn.below hb, h.d.below hb, h.c.below hb⟩
set_option maxRecDepth 100000 in
set_option maxHeartbeats 8000000 in
theorem cacheLists_any (n : Int) (A : Option Addr) (len cp : Nat) (l : List DoV) (w : World) (hl : len = l.length) (hA : DosAt w A l) (hf : ∀ x ∈ l, x.Fits) :
    Calls Try.prog 5 #[.int .i64 n, .slice A len cp] w fun e w' => e = .returned (.bool true) ∧ Below w.heap.size w w' := by
  have hz := fun W => zero_blk W
  by_cases h200 : 200 < len
  · have t0 : decide ((200 : Int) < len) = true := decide_eq_true (by omega)
    have t1 : decide (200 < len) = true := decide_eq_true h200
    go_enter Try.func5, Try.ntmps5
    go_wp2
    go_ret
    exact ⟨rfl, Below.refl _ _⟩
  · have t0 : decide ((200 : Int) < len) = false := decide_eq_false (by omega)
    have t1 : decide (200 < len) = false := decide_eq_false h200
    have RA := Lib.hid (ran_any n A len cp l w hl (by omega) hA hf)
    clear hl hA hf h200
    go_enter Try.func5, Try.ntmps5
    go_wp2_with (first
      | (go_at_call 26; refine RA.out.mono ?_; rintro e w1 ⟨p, a, g, N, k, c, M, rfl, n1, n64, hk, hr⟩; have R1 := Lib.hid hr; clear hr)
      | (go_at_call 15; refine (ca_dirty _ p c _ R1.out.ca).mono ?_; rintro e w2 ⟨⟨v, rfl, ho⟩, hb2⟩; obtain ⟨A1, q1, rfl, hq1, hd⟩ := own_ints ho rfl; have R2 := Lib.hid (R1.out.below hb2); have D2 := Lib.hid hd; clear hd ho hb2 hq1)
      | (go_at_call 16; refine (ca_clean _ p c _ R2.out.ca).mono ?_; rintro e w3 ⟨⟨v, rfl, ho⟩, hb3⟩; obtain ⟨A2, q2, rfl, hq2, hd⟩ := own_ints ho rfl; have L3 : Hid (CLs w p a g N k c M A1 A2 w3) := Lib.hid ⟨R2.out.below hb3, D2.out.below hb3, hd⟩; clear hd ho hb3 hq2; have CN : Hid (c.n = N) := Lib.hid (R2.out.fine.len.trans R2.out.len); have L1 : Hid (c.dirty.length ≤ 64 ∧ c.clean.length ≤ 64) := Lib.hid ⟨Nat.le_trans (pickL_length _ _) (by rw [CN.out]; exact n64), Nat.le_trans (pickL_length _ _) (by rw [CN.out]; exact n64)⟩; have RD := Lib.hid (fun (W : World) (h : IntsAt W A1 c.dirty) => rises_true A1 c.dirty.length q1 c.dirty N W rfl (by have := L1.out.1; omega) h (pickL_rise _ _) fun b hb => by rw [← CN.out]; exact (mem_dirty.1 hb).1); have RC := Lib.hid (fun (W : World) (h : IntsAt W A2 c.clean) => rises_true A2 c.clean.length q2 c.clean N W rfl (by have := L1.out.2; omega) h (pickL_rise _ _) fun b hb => by rw [← CN.out]; exact (mem_clean.1 hb).1))
      | (go_at_call 27; first
        | (with_reducible refine (RC.out _ L4.out.c).mono ?_); (rintro e w5 ⟨rfl, hb5⟩; have L5 := Lib.hid (L4.out.below hb5); clear hb5)
        | (with_reducible refine (RD.out _ L3.out.d).mono ?_); (rintro e w4 ⟨rfl, hb4⟩; have L4 := Lib.hid (L3.out.below hb4); clear hb4)))
    clear RA R1 R2 D2 L3 L4 RD RC
    go_loopw [11] (fun iv wr => ∃ i : Nat, i ≤ N ∧ iv = .int .i64 i ∧ Hid (CLs w p a g N k c M A1 A2 wr)) (fun iv _ => N - (intOf iv).toNat)
    case atStart => exact ⟨0, Nat.zero_le _, rfl, L5⟩
    case round =>
      clear L5
      obtain ⟨i, hi, rfl, L⟩ := hrel
      have j3 : (N : Int) ≤ 64 := by omega
      by_cases hlt : i < N
      · have j1 : (0 : Int) ≤ i := by omega
        have j2 : (i : Int) < N := by omega
        have hin : (i : Int) < c.n := by rw [CN.out]; omega
        have MB : Hid (M[i]? = some (M.getD i .zero)) := Lib.hid (by rw [List.getD_eq_getElem?_getD, List.getElem?_eq_getElem (by rw [L.out.rn.len]; exact hlt)]; rfl)
        obtain ⟨Y, hY⟩ : ∃ Y, M.getD i .zero = Y := ⟨_, rfl⟩
        have HRest : Hid (c.isD (i : Int) = false → c.d.read (i : Int) = Y) := Lib.hid fun h => by have := L.out.rn.fine.rest (i : Int) (by omega) hin h; rw [Int.toNat_natCast, hY] at this; exact this
        rw [hY] at MB
        have EE : Hid (c.d.err (i : Int) = 0) := Lib.hid (L.out.rn.fine.err (by omega) hin)
        have HMD := Lib.hid (mem_dirty (c := c) (b := (i : Int)))
        have HMC := Lib.hid (mem_clean (c := c) (b := (i : Int)))
        have DR := Lib.hid (fun (W : World) (h : CLs w p a g N k c M A1 A2 W) => ca_dread W p c _ (i : Int) h.rn.ca)
        rw [EE.out, L.out.rn.disk] at DR
        obtain ⟨Z, hZ⟩ : ∃ Z, c.d.read (i : Int) = Z := ⟨_, rfl⟩
        rw [hZ] at DR HRest
        clear hY hZ EE hin
        go_upto_region 13 with (first
          | (go_at_call 28; refine (DR.out wr L.out).mono ?_; rintro e w6 ⟨rfl, hb6⟩; have L6 := Lib.hid (L.out.below hb6); clear hb6)
          | (refine store_row rfl (.tmp 12) (.tmp 53) rfl w6.heap.size Z .zero 41 rfl rfl (heap_alloc_new _ _) ?_; rw [World.setRow_alloc_new]))
        have L7 := Lib.hid (L6.out.below (below_newI w6 (.cells (arr Z) 41)))
        have V7 := Lib.hid (At.row (heap_alloc_new w6 (.cells (arr Z) 41)))
        have M7 := Lib.hid (L7.out.rn.row.at MB.out)
        rw [Nat.zero_add] at M7
        clear L6 L DR
        generalize w6.alloc (.cells (arr Z) 41) = w7 at *
        generalize w6.heap.size = g7 at *
        have hgd := blk_guard
        by_cases hD : (i : Int) ∈ c.dirty
        · have hC : (i : Int) ∉ c.clean := fun q => by
            have h1 := isC_notD (HMC.out.1 q).2
            rw [(HMD.out.1 hD).2] at h1
            cases h1
          have HD : Hid (∀ W, More w7 W → Calls Try.prog 29 #[.slice A1 c.dirty.length q1, .int .i64 (i : Int)] W fun e w' => e = .returned (.bool true) ∧ Below W.heap.size W w') := Lib.hid fun W hW => (has_any A1 _ q1 c.dirty i W rfl (by have := L1.out.1; omega) (L7.out.d.below hW)).mono fun e w' h => ⟨by rw [h.1, decide_eq_true hD], h.2 ▸ Below.refl _ _⟩
          have HE : Hid (∀ W, More w7 W → Calls Try.prog 29 #[.slice A2 c.clean.length q2, .int .i64 (i : Int)] W fun e w' => e = .returned (.bool false) ∧ Below W.heap.size W w') := Lib.hid fun W hW => (has_any A2 _ q2 c.clean i W rfl (by have := L1.out.2; omega) (L7.out.c.below hW)).mono fun e w' h => ⟨by rw [h.1, decide_eq_false hC], h.2 ▸ Below.refl _ _⟩
          clear hD hC
          refine wp_region_class (More w7) (by kernel_rfl) (by kernel_rfl) (More.drew _) ?_
          repeat (first | go_big_quiet_skip | (go_big_quiet_want; first
            | (refine quiet_load _ rfl _ _ rfl _ (by intro w' hw'; first | exact V7.out.below hw' | exact M7.out.below hw') ?_; simp only [Act.put, List.setIfInBounds_toArray, List.set_cons_zero, List.set_cons_succ]; go_big_quiet_on)
            | (go_big_quiet_op; first | go_big_quiet_on | (apply Exists.intro; refine ⟨fun _ _ => ?_, ?_⟩; (with_reducible exact rfl); go_big_quiet_on) | go_big_quiet_call ((intro hC; first | (with_reducible refine (HD.out _ hC).mono ?_); exact fun e w' h => ⟨h.1, hC.on h.2⟩ | (with_reducible refine (HE.out _ hC).mono ?_); exact fun e w' h => ⟨h.1, hC.on h.2⟩)))))
          refine wpQuiet_nil ?_
          intro w8 hw8
          have L8 := Lib.hid (L7.out.below hw8)
          clear hw8
          go_wp2
          exact ⟨⟨i + 1, by omega, by go_num, L8⟩, by simp [intOf]; omega⟩
        · have hZY : Z = Y := HRest.out (by
            cases hq : c.isD (i : Int)
            · rfl
            · exact absurd (HMD.out.2 ⟨⟨j1, by rw [CN.out]; exact j2⟩, hq⟩) hD)
          subst hZY
          have heq := fun W => equalIn_blk Z Z W
          have hdy : decide (Z = Z) = true := decide_eq_true rfl
          have HD : Hid (∀ W, More w7 W → Calls Try.prog 29 #[.slice A1 c.dirty.length q1, .int .i64 (i : Int)] W fun e w' => e = .returned (.bool false) ∧ Below W.heap.size W w') := Lib.hid fun W hW => (has_any A1 _ q1 c.dirty i W rfl (by have := L1.out.1; omega) (L7.out.d.below hW)).mono fun e w' h => ⟨by rw [h.1, decide_eq_false hD], h.2 ▸ Below.refl _ _⟩
          have HE := HD
          clear hD
          refine wp_region_class (More w7) (by kernel_rfl) (by kernel_rfl) (More.drew _) ?_
          repeat (first | go_big_quiet_skip | (go_big_quiet_want; first
            | (refine quiet_load _ rfl _ _ rfl _ (by intro w' hw'; first | exact V7.out.below hw' | exact M7.out.below hw') ?_; simp only [Act.put, List.setIfInBounds_toArray, List.set_cons_zero, List.set_cons_succ]; go_big_quiet_on)
            | (go_big_quiet_op; first | go_big_quiet_on | (apply Exists.intro; refine ⟨fun _ _ => ?_, ?_⟩; (with_reducible exact rfl); go_big_quiet_on) | go_big_quiet_call ((intro hC; first | (with_reducible refine (HD.out _ hC).mono ?_); exact fun e w' h => ⟨h.1, hC.on h.2⟩ | (with_reducible refine (HE.out _ hC).mono ?_); exact fun e w' h => ⟨h.1, hC.on h.2⟩)))))
          refine wpQuiet_nil ?_
          intro w8 hw8
          have L8 := Lib.hid (L7.out.below hw8)
          clear hw8
          go_wp2
          exact ⟨⟨i + 1, by omega, by go_num, L8⟩, by simp [intOf]; omega⟩
      · obtain rfl : i = N := by omega
        go_wp2_with fail
        go_ret
        exact ⟨rfl, L.out.rn.low⟩
end Go.Proofs.Ytkolpdllogpklaa
