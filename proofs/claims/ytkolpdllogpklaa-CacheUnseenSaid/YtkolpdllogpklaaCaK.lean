import Derived.Test.YtkolpdllogpklaaCaL1
import Derived.Test.YtkolpdllogpklaaSteps
namespace Go.Proofs.Ytkolpdllogpklaa
open Go.RowKit Go.Maps

/-! awake. -/
theorem aw_dirty (X Y : Blk) : pickL 4 (fun b => match setM (setM (fun _ => (none : Option Ent)) 1 (some (X, true))) 3 (some (Y, true)) b with | some e => e.2 | none => false) = [1, 3] := by
  have h : pickL 4 (fun b => match setM (setM (fun _ => (none : Option Ent)) 1 (some (X, true))) 3 (some (Y, true)) b with | some e => e.2 | none => false) = pickL 4 (fun b => decide (b = 1 ∨ b = 3)) := pickL_congr fun b _ _ => by
    by_cases e3 : b = 3
    · subst e3; rw [setM_same]; rfl
    · rw [setM_other e3]
      by_cases e1 : b = 1
      · subst e1; rw [setM_same]; rfl
      · rw [setM_other e1]; simp [e1, e3]
  rw [h]; decide
theorem aw_dirty2 (X Y : Blk) : pickL 4 (fun b => match setM (setM (setM (fun _ => (none : Option Ent)) 1 (some (X, true))) 3 (some (Y, true))) 3 (some (Y, false)) b with | some e => e.2 | none => false) = [1] := by
  have h : pickL 4 (fun b => match setM (setM (setM (fun _ => (none : Option Ent)) 1 (some (X, true))) 3 (some (Y, true))) 3 (some (Y, false)) b with | some e => e.2 | none => false) = pickL 4 (fun b => decide (b = 1)) := pickL_congr fun b _ _ => by
    by_cases e3 : b = 3
    · subst e3; rw [setM_same]; rfl
    · rw [setM_other e3, setM_other e3]
      by_cases e1 : b = 1
      · subst e1; rw [setM_same]; rfl
      · rw [setM_other e1]; simp [e1]
  rw [h]; decide
noncomputable def aw2c (a : Addr) : CS := ((CS.fresh a (.new 4)).write 1 (fillB 1)).write 3 (fillB 2)
theorem new4_n (a : Addr) : (CS.fresh a (.new 4)).n = 4 := List.length_replicate
theorem aw2c_eq (a : Addr) : aw2c a = ⟨a, .new 4, setM (setM (fun _ => none) 1 (some (fillB 1, true))) 3 (some (fillB 2, true)), fun _ => false⟩ := by
  have e1 : (CS.fresh a (.new 4)).write 1 (fillB 1) = ⟨a, .new 4, setM (fun _ => none) 1 (some (fillB 1, true)), fun _ => false⟩ := by
    unfold CS.write
    rw [if_pos (cerr_in (by omega) (by rw [new4_n]; omega))]
    rfl
  unfold aw2c
  rw [e1]
  unfold CS.write
  rw [if_pos (cerr_in (by omega) (by show (3 : Int) < ((List.length (DS.new 4).safe : Nat) : Int); rw [show List.length (DS.new 4).safe = 4 from List.length_replicate]; omega))]
theorem aw_all (a : Addr) : ∃ c3 : CS, (aw2c a).wb 5 = c3 ∧ wbV (aw2c a) 5 = .tuple #[.int .i64 3, .bool true, .int .i64 0] ∧ c3.d.read 3 = fillB 2 ∧ c3.d.err 3 = 0 ∧ c3.a = a ∧ (c3.setPin 3 true).dirty = [1] ∧ (c3.setPin 3 true).dropE 3 = 110 ∧ (aw2c a).d.acts = 0 := by
  have hD : (aw2c a).dirty = [1, 3] := by
    rw [aw2c_eq]
    show pickL (List.length (DS.new 4).safe) _ = _
    rw [show List.length (DS.new 4).safe = 4 from List.length_replicate]
    exact aw_dirty _ _
  have hp : pickAt [1, 3] 5 = 3 := by decide
  have hn : (aw2c a).n = 4 := by rw [aw2c_eq]; exact List.length_replicate
  have hl : (DS.new 4).left = none := rfl
  have hs : List.length (DS.new 4).safe = 4 := List.length_replicate
  have hde : (aw2c a).d.err 3 = 0 := by rw [aw2c_eq]; exact live_err hl (by omega) (by rw [hs]; omega)
  have hce : (aw2c a).err 3 = 0 := cerr_in (by omega) (by rw [hn]; omega)
  have hm : (aw2c a).m 3 = some (fillB 2, true) := by rw [aw2c_eq]; exact setM_same (setM (fun _ => none) 1 (some (fillB 1, true))) 3 (some (fillB 2, true))
  have hb : (aw2c a).back 3 = { aw2c a with d := (aw2c a).d.write 3 (fillB 2), m := setM (aw2c a).m 3 (some (fillB 2, false)) } := back_has hce hm hde
  have hb2 : (aw2c a).back 3 = ⟨a, (DS.new 4).write 3 (fillB 2), setM (setM (setM (fun _ => none) 1 (some (fillB 1, true))) 3 (some (fillB 2, true))) 3 (some (fillB 2, false)), fun _ => false⟩ := by rw [hb, aw2c_eq]
  have hwl : List.length ((DS.new 4).write 3 (fillB 2)).safe = 4 := (write_len _ _ _).trans hs
  have hde' : (DS.new 4).err 3 = 0 := live_err hl (by omega) (by rw [hs]; omega)
  have hsp : ((aw2c a).back 3).setPin 3 true = ⟨a, (DS.new 4).write 3 (fillB 2), setM (setM (setM (fun _ => none) 1 (some (fillB 1, true))) 3 (some (fillB 2, true))) 3 (some (fillB 2, false)), setM (fun _ => false) 3 true⟩ := by
    rw [hb2]
    unfold CS.setPin
    rw [if_pos (cerr_in (by omega) (by show (3 : Int) < ((List.length ((DS.new 4).write 3 (fillB 2)).safe : Nat) : Int); rw [hwl]; omega))]
  refine ⟨(aw2c a).back 3, by unfold CS.wb; rw [hD, if_neg (by simp), hp], ?_, ?_, ?_, ?_, ?_, ?_, ?_⟩
  · unfold wbV
    rw [hD, if_neg (by simp), hp]
    rw [show (aw2c a).backE 3 = 0 by rw [backE_has hce hm]; exact hde]
  · rw [hb2]
    show ((DS.new 4).write 3 (fillB 2)).read 3 = _
    rw [write_read hde' _ hl ⟨by omega, by rw [hs]; omega⟩ (by omega) (by rw [hs]; omega), if_pos rfl]
  · rw [hb2]
    exact live_err (write_live hl _ _) (by omega) (by show (3 : Int) < ((List.length ((DS.new 4).write 3 (fillB 2)).safe : Nat) : Int); rw [hwl]; omega)
  · rw [hb2]
  · rw [hsp]
    show pickL (List.length ((DS.new 4).write 3 (fillB 2)).safe) _ = _
    rw [hwl]
    exact aw_dirty2 _ _
  · rw [hsp]
    unfold CS.dropE
    rw [if_pos (cerr_in (by omega) (by show (3 : Int) < ((List.length ((DS.new 4).write 3 (fillB 2)).safe : Nat) : Int); rw [hwl]; omega))]
    exact if_pos (setM_same (fun _ => false) 3 true)
  · rw [aw2c_eq]; rfl
theorem ints_lit (w : World) (l : List Int) (hl : l.length ≤ 1000) : IntsAt (w.alloc (.cells (iC l).toArray 3)) (some ⟨w.heap.size, 0, none⟩) l := by
  obtain ⟨A, c, e, _, h⟩ := own_ints (own_lit w (Nat.le_refl _) l hl) rfl
  cases e
  exact h
set_option maxRecDepth 100000 in
set_option maxHeartbeats 16000000 in
theorem awake_any (w : World) : Calls Try.prog 21 #[] w fun e w' => e = .returned (.bool true) ∧ Below w.heap.size w w' := by
  have hz := fun W => zero_blk W
  go_enter Try.func21, Try.ntmps21
  go_upto_region 5 with (first
    | (go_at_call 22; refine (dk_new_yes 4 w (by omega) (by omega)).mono ?_; rintro e w1 ⟨⟨a, rfl, hd⟩, hb⟩; rw [show (4 : Int).toNat = 4 from rfl] at hd)
    | (go_at_call 9; refine (cNew w1 a _ _ hd).mono ?_; rintro e w2 ⟨⟨p, rfl, hc⟩, hb2⟩; have C2 := Lib.hid hc; have L2 := Lib.hid (hb.trans (hb2.mono hb.size)); clear hb hd hc hb2))
  obtain ⟨c3, q1, q2, q3, q4, q5, q6, q7, q8⟩ := aw_all a
  have W5 := Lib.hid q1
  have WV := Lib.hid q2
  have DE := Lib.hid q7
  have DD := Lib.hid q6
  have AC : Hid ((aw2c a).d.acts < 1000000) := Lib.hid (by rw [q8]; decide)
  have DR := Lib.hid (fun (W : World) (av : Av) (h : CA W p c3 av) => ca_dread W p c3 av 3 h)
  rw [q3, q4, q5] at DR
  clear q1 q2 q3 q4 q5 q6 q7 q8
  go_upto_region 6 with (first
    | (go_at_call 23; refine (fill_int 1 _ 1 rfl (by decide)).mono ?_; rintro e w3 ⟨rfl, hb3⟩; have C3 := Lib.hid (C2.out.below hb3); have L3 := Lib.hid (L2.out.trans (hb3.mono L2.out.size)); clear hb3)
    | (go_at_call 17; refine (ca_write _ p _ _ 1 (fillB 1) C3.out).mono ?_; rintro e w4 ⟨rfl, hc4, hk4⟩; have C4 := Lib.hid hc4; have L4 := Lib.hid (L3.out.trans (hk4.below fun _ hi => hi)); clear hc4 hk4))
  go_upto_region 7 with (first
    | (go_at_call 23; refine (fill_int 2 _ 2 rfl (by decide)).mono ?_; rintro e w5 ⟨rfl, hb5⟩; have C5 := Lib.hid (C4.out.below hb5); have L5 := Lib.hid (L4.out.trans (hb5.mono L4.out.size)); clear hb5)
    | (go_at_call 17; refine (ca_write _ p _ _ 3 (fillB 2) C5.out).mono ?_; rintro e w6 ⟨rfl, hc6, hk6⟩; have C6 : Hid (CA w6 p (aw2c a) (· < w.heap.size)) := Lib.hid hc6; have L6 := Lib.hid (L5.out.trans (hk6.below fun _ hi => hi)); clear hc6 hk6))
  clear C2 C3 C4 C5 L2 L3 L4 L5
  go_upto_region 9 with (first
    | (go_at_call 12; refine (ca_wb w6 p _ _ 5 C6.out AC.out).mono ?_; rintro e w7 ⟨rfl, hc7, hk7⟩; rw [WV.out]; rw [W5.out] at hc7; have C7 := Lib.hid hc7; have L7 := Lib.hid (L6.out.trans (hk7.below fun _ hi => hi)); clear hc7 hk7)
    | (go_at_call 28; refine (DR.out _ _ C7.out).mono ?_; rintro e w8 ⟨rfl, hb8⟩; have C8 := Lib.hid (C7.out.below hb8); have L8 := Lib.hid (L7.out.trans (hb8.mono L7.out.size)); clear hb8)
    | (refine store_row rfl (.tmp 8) (.tmp 40) rfl w8.heap.size (fillB 2) .zero 41 rfl rfl (heap_alloc_new _ _) ?_; rw [World.setRow_alloc_new]))
  have hB9 := below_newI w8 (.cells (arr (fillB 2)) 41)
  obtain ⟨av, hav⟩ : ∃ av : Av, av = fun i => i < w.heap.size ∨ (w8.heap.size ≤ i ∧ i < (w8.alloc (.cells (arr (fillB 2)) 41)).heap.size) := ⟨_, rfl⟩
  have C9 : Hid (CA (w8.alloc (.cells (arr (fillB 2)) 41)) p c3 av) := Lib.hid (by rw [hav]; exact C8.out.new' hB9)
  have AG : Hid (av w8.heap.size) := Lib.hid (by rw [hav]; exact .inr ⟨Nat.le_refl _, by simp⟩)
  have AL : Hid (∀ i, i < w.heap.size → av i) := Lib.hid (by rw [hav]; exact fun i hi => .inl hi)
  have L9 := Lib.hid (L8.out.trans (hB9.mono L8.out.size))
  have V9 := Lib.hid (At.row (heap_alloc_new w8 (.cells (arr (fillB 2)) 41)))
  clear hB9 hav C6 C7 C8 L6 L7 L8 WV W5 DR AC
  generalize w8.alloc (.cells (arr (fillB 2)) 41) = w9 at *
  generalize w8.heap.size = g9 at *
  go_upto_region 10 with (go_at_call 11; refine (ca_pin _ p _ _ 3 true C9.out).mono ?_; rintro e w10 ⟨rfl, hc10, hk10⟩; have C10 := Lib.hid hc10; have L10 := Lib.hid (L9.out.trans (hk10.below AL.out)); have V10 := Lib.hid (V9.out.keep (hk10.block _ AG.out)); clear hc10 hk10)
  obtain ⟨c4, hc4⟩ : ∃ c4, c3.setPin 3 true = c4 := ⟨_, rfl⟩
  rw [hc4] at C10 DE DD
  clear C9 L9 V9 hc4
  have heq := fun W => equalIn_blk (fillB 2) (fillB 2) W
  have hdy : decide (fillB 2 = fillB 2) = true := decide_eq_true rfl
  have hgd := blk_guard
  refine wp_region_any (by kernel_rfl) ?_
  refine any_quiets (k := 0) (n := 15) (g := 11) (C := More w10) (by kernel_rfl) (by kernel_rfl) rfl (More.drew _) ?_
  simp only [List.take_succ_cons, List.take_zero, List.drop_zero, List.size_toArray, List.length_cons, List.length_nil, Nat.reduceAdd, Nat.zero_add]
  repeat (first | go_big_quiet_skip | (go_big_quiet_want; first
    | (refine quiet_load _ rfl _ _ rfl (fillB 2) (by intro w' hw'; exact V10.out.below hw') ?_; simp only [Act.put, List.setIfInBounds_toArray, List.set_cons_zero, List.set_cons_succ]; go_big_quiet_on)
    | (go_big_quiet_op; first | go_big_quiet_on | (apply Exists.intro; refine ⟨fun _ _ => ?_, ?_⟩; (with_reducible exact rfl); go_big_quiet_on) | go_big_quiet_call ((intro hC; refine (fill_int 2 _ 2 rfl (by decide)).mono ?_; exact fun e w' h => ⟨h.1, hC.on h.2⟩)))))
  refine wpQuiet_nil ?_
  intro w6 hw6
  have C11 := Lib.hid (C10.out.below hw6)
  have L11 := Lib.hid (L10.out.trans (Below.mono hw6 L10.out.size))
  clear hw6 V10 C10 L10 heq hdy hgd
  refine any_take (i := 15) (d := 59) (v := ?_) rfl rfl (by kernel_rfl) (by kernel_rfl) (by kernel_rfl) (fun _ _ _ h => h) (Or.inl ⟨by rfl, ?hy⟩) ?_
  case hy => (intro W; go_simp; try (with_reducible rfl))
  go_frame
  refine any_two (i := 16) (j := 17) (by kernel_rfl) rfl rfl ?_ ?_
  · intro K hK
    go_wp2_with (go_at_call 15; refine (ca_dirty _ p _ _ C11.out).mono ?_; rintro e w11 ⟨⟨v11, rfl, ho11⟩, hb11⟩; rw [DD.out] at ho11; obtain ⟨A, q, rfl, hq11, hd11⟩ := own_ints (n := 1) (l := [1]) ho11 rfl; have DA11 := Lib.hid hd11; have C12 := Lib.hid (C11.out.below hb11); have L12 := Lib.hid (L11.out.trans (hb11.mono L11.out.size)); clear ho11 hb11 hq11 hd11)
    refine hK _ _ ?_
    clear hK K
    refine any_force (i := 17) (by kernel_rfl) rfl ?_
    intro K hK
    go_wp2
    have hB := below_newI w11 (.cells #[.int .i64 1] 3)
    have DA := Lib.hid (DA11.out.below hB)
    have DB : Hid (IntsAt (w11.alloc (.cells #[.int .i64 1] 3)) (some ⟨w11.heap.size, 0, none⟩) [1]) := Lib.hid (ints_lit w11 [1] (by decide))
    have CX := Lib.hid (C12.out.below hB)
    have LX := Lib.hid (L12.out.trans (hB.mono L12.out.size))
    clear hB DA11 C12 L12
    generalize w11.alloc (.cells #[.int .i64 1] 3) = w12 at *
    refine hK _ _ ?_
    clear hK K
    refine any_force (i := 18) (by kernel_rfl) rfl ?_
    intro K hK
    go_wp2_with (go_at_call 31; refine (same_true11 _ _ 1 _ _ [1] _ rfl (by decide) DA.out DB.out).mono ?_; rintro e w13 ⟨rfl, hb13⟩; have C13 := Lib.hid (CX.out.below hb13); have L13 := Lib.hid (LX.out.trans (hb13.mono LX.out.size)); clear hb13)
    refine hK _ _ ?_
    clear hK K
    refine any_take (i := 19) (d := 63) (v := ?_) rfl rfl (by kernel_rfl) (by kernel_rfl) (by kernel_rfl) (fun _ _ _ h => h) (Or.inl ⟨by rfl, ?hy⟩) ?_
    case hy => (intro W; go_simp; try (with_reducible rfl))
    go_frame
    refine any_take (i := 20) (d := 64) (v := ?_) rfl rfl (by kernel_rfl) (by kernel_rfl) (by kernel_rfl) (fun _ _ _ h => h) (Or.inl ⟨by rfl, ?hy⟩) ?_
    case hy => (intro W; go_simp; try (with_reducible rfl))
    go_frame
    refine any_take (i := 21) (d := 65) (v := ?_) rfl rfl (by kernel_rfl) (by kernel_rfl) (by kernel_rfl) (fun _ _ _ h => h) (Or.inl ⟨by rfl, ?hy⟩) ?_
    case hy => (intro W; go_simp; try (with_reducible rfl))
    go_frame
    refine any_force (i := 22) (by kernel_rfl) rfl ?_
    intro K hK
    go_wp2_with (go_at_call 19; refine (ca_drop _ p _ _ 3 C13.out).mono ?_; rintro e w14 ⟨rfl, hc14, hk14⟩; rw [DE.out]; have L14 := Lib.hid (L13.out.trans (hk14.below AL.out)); clear hc14 hk14)
    refine hK _ _ ?_
    clear hK K
    refine any_take (i := 23) (d := 67) (v := ?_) rfl rfl (by kernel_rfl) (by kernel_rfl) (by kernel_rfl) (fun _ _ _ h => h) (Or.inl ⟨by rfl, ?hy⟩) ?_
    case hy => (intro W; go_simp; try (with_reducible rfl))
    go_frame
    refine any_take (i := 24) (d := 68) (v := ?_) rfl rfl (by kernel_rfl) (by kernel_rfl) (by kernel_rfl) (fun _ _ _ h => h) (Or.inl ⟨by rfl, ?hy⟩) ?_
    case hy => (intro W; go_simp; try (with_reducible rfl))
    go_frame
    refine any_take (i := 25) (d := 0) (v := ?_) rfl rfl (by kernel_rfl) (by kernel_rfl) (by kernel_rfl) (fun _ _ _ h => h) (Or.inl ⟨by rfl, ?hy⟩) ?_
    case hy => (intro W; go_simp; try (with_reducible rfl))
    go_frame
    refine any_end (by kernel_rfl) ?_
    go_wp2
    go_ret
    exact ⟨rfl, L14.out⟩
  · intro K hK
    go_wp2
    have hB := below_newI w6 (.cells #[.int .i64 1] 3)
    have DB1 : Hid (IntsAt (w6.alloc (.cells #[.int .i64 1] 3)) (some ⟨w6.heap.size, 0, none⟩) [1]) := Lib.hid (ints_lit w6 [1] (by decide))
    have C12 := Lib.hid (C11.out.below hB)
    have L12 := Lib.hid (L11.out.trans (hB.mono L11.out.size))
    clear hB
    generalize w6.alloc (.cells #[.int .i64 1] 3) = w12 at *
    refine hK _ _ ?_
    clear hK K
    refine any_force (i := 16) (by kernel_rfl) rfl ?_
    intro K hK
    go_wp2_with (go_at_call 15; refine (ca_dirty _ p _ _ C12.out).mono ?_; rintro e w11 ⟨⟨v11, rfl, ho11⟩, hb11⟩; rw [DD.out] at ho11; obtain ⟨A, q, rfl, hq11, hd11⟩ := own_ints (n := 1) (l := [1]) ho11 rfl; have DA := Lib.hid hd11; have DB := Lib.hid (DB1.out.below hb11); have CX := Lib.hid (C12.out.below hb11); have LX := Lib.hid (L12.out.trans (hb11.mono L12.out.size)); clear ho11 hb11 hq11 hd11)
    refine hK _ _ ?_
    clear hK K
    refine any_force (i := 18) (by kernel_rfl) rfl ?_
    intro K hK
    go_wp2_with (go_at_call 31; refine (same_true11 _ _ 1 _ _ [1] _ rfl (by decide) DA.out DB.out).mono ?_; rintro e w13 ⟨rfl, hb13⟩; have C13 := Lib.hid (CX.out.below hb13); have L13 := Lib.hid (LX.out.trans (hb13.mono LX.out.size)); clear hb13)
    refine hK _ _ ?_
    clear hK K
    refine any_take (i := 19) (d := 63) (v := ?_) rfl rfl (by kernel_rfl) (by kernel_rfl) (by kernel_rfl) (fun _ _ _ h => h) (Or.inl ⟨by rfl, ?hy⟩) ?_
    case hy => (intro W; go_simp; try (with_reducible rfl))
    go_frame
    refine any_take (i := 20) (d := 64) (v := ?_) rfl rfl (by kernel_rfl) (by kernel_rfl) (by kernel_rfl) (fun _ _ _ h => h) (Or.inl ⟨by rfl, ?hy⟩) ?_
    case hy => (intro W; go_simp; try (with_reducible rfl))
    go_frame
    refine any_take (i := 21) (d := 65) (v := ?_) rfl rfl (by kernel_rfl) (by kernel_rfl) (by kernel_rfl) (fun _ _ _ h => h) (Or.inl ⟨by rfl, ?hy⟩) ?_
    case hy => (intro W; go_simp; try (with_reducible rfl))
    go_frame
    refine any_force (i := 22) (by kernel_rfl) rfl ?_
    intro K hK
    go_wp2_with (go_at_call 19; refine (ca_drop _ p _ _ 3 C13.out).mono ?_; rintro e w14 ⟨rfl, hc14, hk14⟩; rw [DE.out]; have L14 := Lib.hid (L13.out.trans (hk14.below AL.out)); clear hc14 hk14)
    refine hK _ _ ?_
    clear hK K
    refine any_take (i := 23) (d := 67) (v := ?_) rfl rfl (by kernel_rfl) (by kernel_rfl) (by kernel_rfl) (fun _ _ _ h => h) (Or.inl ⟨by rfl, ?hy⟩) ?_
    case hy => (intro W; go_simp; try (with_reducible rfl))
    go_frame
    refine any_take (i := 24) (d := 68) (v := ?_) rfl rfl (by kernel_rfl) (by kernel_rfl) (by kernel_rfl) (fun _ _ _ h => h) (Or.inl ⟨by rfl, ?hy⟩) ?_
    case hy => (intro W; go_simp; try (with_reducible rfl))
    go_frame
    refine any_take (i := 25) (d := 0) (v := ?_) rfl rfl (by kernel_rfl) (by kernel_rfl) (by kernel_rfl) (fun _ _ _ h => h) (Or.inl ⟨by rfl, ?hy⟩) ?_
    case hy => (intro W; go_simp; try (with_reducible rfl))
    go_frame
    refine any_end (by kernel_rfl) ?_
    go_wp2
    go_ret
    exact ⟨rfl, L14.out⟩
end Go.Proofs.Ytkolpdllogpklaa
