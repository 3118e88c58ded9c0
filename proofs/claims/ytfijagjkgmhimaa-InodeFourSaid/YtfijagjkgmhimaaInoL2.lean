import Derived.Test.YtfijagjkgmhimaaInoA
import Derived.Test.YtfijagjkgmhimaaInoLow
import Derived.Test.YtfijagjkgmhimaaBlkHide
namespace Go.Proofs.Ytfijagjkgmhimaa
open Go.RowKit
attribute [local go_sem ↓] exec_load exec_store

/-! The law InodeUnlike. -/
theorem blk_put_inj {X : Blk} {x y : InoV} (hx : x.Fits) (hy : y.Fits) (h1 : (putI X 64 x).2 = 0) (h2 : (putI X 64 y).2 = 0) : decide ((putI X 64 x).1 = (putI X 64 y).1) = decide (x = y) := by
  rw [Bool.eq_iff_iff, decide_eq_true_iff, decide_eq_true_iff]
  exact put_inj (.inr (.inl rfl)) hx hy (putI_ok h1).2 (putI_ok h2).2
/-- What InodeUnlike keeps in memory. -/
structure UL (w0 : World) (X : Blk) (x y : InoV) (b7 b8 : Nat) (Y Z : Blk) (w : World) : Prop where
  x : IVar w (w0.heap.size + 1) x
  y : IVar w (w0.heap.size + 1 + 1) y
  c : BVar w b7 Y
  d : BVar w b8 Z
  ne : b7 ≠ b8
  at_ : w0.heap.size + 1 + 1 < b7 ∧ w0.heap.size + 1 + 1 < b8
  low : Below w0.heap.size w0 w
section
variable {w0 w w' : World} {X Y Z V : Blk} {x y : InoV} {b7 b8 : Nat}
theorem UL.drewN (h : UL w0 X x y b7 b8 Y Z w) (n : Nat) : UL w0 X x y b7 b8 Y Z (w.drewN n) := ⟨h.x, h.y, h.c, h.d, h.ne, h.at_, low_drewN h.low n⟩
theorem UL.below (h : UL w0 X x y b7 b8 Y Z w) (hb : Below w.heap.size w w') : UL w0 X x y b7 b8 Y Z w' := ⟨h.x.below hb, h.y.below hb, h.c.below hb, h.d.below hb, h.ne, h.at_, low_go h.low hb⟩
theorem UL.set7 (h : UL w0 X x y b7 b8 Y Z w) (ho : Only b7 w w') (hv : BVar w' b7 V) : UL w0 X x y b7 b8 V Z w' :=
  ⟨ho.ino (by have := h.at_; omega) h.x, ho.ino (by have := h.at_; omega) h.y, hv, ho.blk h.ne.symm h.d, h.ne, h.at_, low_only h.low ho (by have := h.at_; omega)⟩
theorem UL.set8 (h : UL w0 X x y b7 b8 Y Z w) (ho : Only b8 w w') (hv : BVar w' b8 V) : UL w0 X x y b7 b8 Y V w' :=
  ⟨ho.ino (by have := h.at_; omega) h.x, ho.ino (by have := h.at_; omega) h.y, ho.blk h.ne h.c, hv, h.ne, h.at_, low_only h.low ho (by have := h.at_; omega)⟩
end
def ulV (x y : InoV) (e f : Int) : Nat → Value → Prop
  | 0, v => v = .agg (ics x)
  | 1, v => v = .int .i64 e
  | 2, v => v = .agg (ics y)
  | 3, v => v = .int .i64 f
  | _, _ => True
def ulD : Nat → Tmp
  | 0 => 15
  | 1 => 16
  | 2 => 17
  | _ => 18
structure ULS (w0 : World) (X : Blk) (x y : InoV) (b7 b8 : Nat) (Y Z : Blk) (seen : Array Bool) (w : World) : Prop where
  ul : UL w0 X x y b7 b8 (if seen.getD 1 false = true then Y else X) (if seen.getD 3 false = true then Z else X) w
theorem ULS.other {w0 w : World} {X Y Z : Blk} {x y : InoV} {b7 b8 i : Nat} {seen : Array Bool} (h : ULS w0 X x y b7 b8 Y Z seen w) (hi : i ≠ 1) (hj : i ≠ 3) : ULS w0 X x y b7 b8 Y Z (seen.setIfInBounds i true) w :=
  ⟨by rw [getD_set_other hi, getD_set_other hj]; exact h.ul⟩
set_option maxRecDepth 100000 in
set_option maxHeartbeats 4000000 in
theorem inodeUnlike_any (hS : ISays) (X : Blk) (x y : InoV) (w : World) (hx : x.Fits) (hy : y.Fits) :
    Calls Try.prog 7 #[.agg (arr X), .agg (ics x), .agg (ics y)] w fun e w' => e = .returned (.bool true) ∧ Below w.heap.size w w' := by
  have hz := fun W => zero_blk W
  have HS := Lib.hid hS
  have FX := Lib.hid hx
  have FY := Lib.hid hy
  have CA := Lib.hid fun W => iAwake_any hS W
  obtain ⟨w1, e1⟩ : ∃ w1, ((w.alloc (.cells (arr X) 23)).alloc (.cells (ics x) 27)).alloc (.cells (ics y) 27) = w1 := ⟨_, rfl⟩
  have q0 : BVar (w.alloc (.cells (arr X) 23)) w.heap.size X := heap_alloc_new w _
  have q1 : IVar ((w.alloc (.cells (arr X) 23)).alloc (.cells (ics x) 27)) (w.heap.size + 1) x := heap_alloc2_new w _ _
  have q2 : IVar w1 (w.heap.size + 1 + 1) y := by
    rw [← e1]
    have := heap_alloc2_new (w.alloc (.cells (arr X) 23)) (.cells (ics x) 27) (.cells (ics y) 27)
    rwa [World.size_alloc] at this
  have V1 : Hid (BVar w1 w.heap.size X) := Lib.hid (by rw [← e1]; exact (q0.below (below_new _ _)).below (below_new _ _))
  have I1 : Hid (IVar w1 (w.heap.size + 1) x) := Lib.hid (by rw [← e1]; exact q1.below (below_new _ _))
  have J1 := Lib.hid q2
  have B1 : Hid (Below w.heap.size w w1) := Lib.hid (by rw [← e1]; exact low_go (low_go (below_new w _) (below_new _ _)) (below_new _ _))
  clear q0 q1 q2 hS hx hy
  go_enter Try.func7, Try.ntmps7
  go_upto_region 1 with fail
  clear e1
  go_upto_region 3 with (go_at_call 16; with_reducible refine (CA.out _).mono ?_; rintro e w2 ⟨rfl, hb⟩)
  have V2 := Lib.hid (V1.out.below hb)
  have I2 := Lib.hid (I1.out.below hb)
  have J2 := Lib.hid (J1.out.below hb)
  have B2 := Lib.hid (low_go B1.out hb)
  clear hb V1 I1 J1 CA B1
  have L2 := Lib.hid J2.out.lt
  go_cut [7, 8] from 13 to 14 (fun s7 s8 wx => ∃ b7 b8, s7 = .pointer (some ⟨b7, 0, none⟩) ∧ s8 = .pointer (some ⟨b8, 0, none⟩) ∧ UL w X x y b7 b8 X X wx)
  case first =>
    have ld0 := doLoad_run (w := w2.drew) (b := w.heap.size) (off := 0) (X := X) (At.row V2.out)
    have ld1 := fun A : Array Value => doLoad_run (w := (w2.alloc (.cells A 23)).drew) (b := w.heap.size) (off := 0) (X := X) (At.row ((V2.out.below (below_new w2 (.cells A 23))).drewN 1))
    have ld2 := fun A B : Array Value => doLoad_run (w := ((w2.alloc (.cells A 23)).alloc (.cells B 23)).drew) (b := w.heap.size) (off := 0) (X := X) (At.row (((V2.out.below (below_new w2 (.cells A 23))).below (below_new _ (.cells B 23))).drewN 1))
    have s1 := st_new w2 X .zero
    have s2 := fun V => st_new2 w2 X .zero V
    have s3 := fun Y => st_old2 w2 X Y .zero
    go_region
    all_goals
      have B3 := Lib.hid (low_go (low_go B2.out (below_new w2 (.cells (arr X) 23))) (below_new _ (.cells (arr X) 23)))
      have I3 := Lib.hid ((I2.out.below (below_new w2 (.cells (arr X) 23))).below (below_new _ (.cells (arr X) 23)))
      have J3 := Lib.hid ((J2.out.below (below_new w2 (.cells (arr X) 23))).below (below_new _ (.cells (arr X) 23)))
      have C3 : Hid (BVar ((w2.alloc (.cells (arr X) 23)).alloc (.cells (arr X) 23)) w2.heap.size X) := Lib.hid (BVar.below (heap_alloc_new w2 _) (below_new _ _))
      have D3 : Hid (BVar ((w2.alloc (.cells (arr X) 23)).alloc (.cells (arr X) 23)) (w2.heap.size + 1) X) := Lib.hid (heap_alloc2_new w2 _ _)
      go_wp2
      go_meet
    · exact ⟨_, _, rfl, rfl, ⟨I3.out, J3.out, C3.out, D3.out, by omega, ⟨L2.out, by have := L2.out; omega⟩, by first | exact B3.out | exact low_drewN B3.out 1⟩⟩
    · exact ⟨_, _, rfl, rfl, ⟨I3.out, J3.out, D3.out, C3.out, by omega, ⟨by have := L2.out; omega, L2.out⟩, by first | exact B3.out | exact low_drewN B3.out 1⟩⟩
  case rest =>
    obtain ⟨b7, b8, rfl, rfl, hul⟩ := hcut
    have U := Lib.hid hul
    clear hul V2 I2 J2 L2 B2
    obtain ⟨⟨Y, e⟩, x1⟩ : ∃ p, putI X 64 x = p := ⟨_, rfl⟩
    obtain ⟨⟨Z, f⟩, x2⟩ : ∃ p, putI X 64 y = p := ⟨_, rfl⟩
    have EQ : Hid (e = 0 → f = 0 → decide (Y = Z) = decide (x = y)) := Lib.hid fun h1 h2 => by
      have := blk_put_inj (X := X) FX.out FY.out (by rw [x1]; exact h1) (by rw [x2]; exact h2)
      rwa [x1, x2] at this
    have CX : Hid (∀ W, BVar W b7 X → Calls Try.prog 10 #[.pointer (some ⟨b7, 0, none⟩), .int .i64 64, .agg (ics x)] W fun e' w' => e' = .returned (.int .i64 e) ∧ BVar w' b7 Y ∧ Only b7 W w') := Lib.hid fun W h => by have := HS.out.put b7 X 64 x W h (by decide) (by decide) FX.out; rwa [x1] at this
    have CY : Hid (∀ W, BVar W b8 X → Calls Try.prog 10 #[.pointer (some ⟨b8, 0, none⟩), .int .i64 64, .agg (ics y)] W fun e' w' => e' = .returned (.int .i64 f) ∧ BVar w' b8 Z ∧ Only b8 W w') := Lib.hid fun W h => by have := HS.out.put b8 X 64 y W h (by decide) (by decide) FY.out; rwa [x2] at this
    clear x1 x2 HS FX FY
    go_upto_region 4 with fail
    refine wp_region_inv (n := 4) ulD (ulV x y e f) (ULS w X x y b7 b8 Y Z) (by kernel_rfl) (by kernel_rfl) (by kernel_rfl) (by kernel_rfl) (by kernel_rfl) ⟨U.out.drewN 1⟩ ?_ ?_
    · intro i o a w5 seen hi ho hsz hk hs hun hdep
      have p4 : a.eval (.tmp 4) = .pointer (some ⟨w.heap.size + 1, 0, none⟩) := (hk.eval (by decide)).trans rfl
      have p5 : a.eval (.tmp 5) = .pointer (some ⟨w.heap.size + 1 + 1, 0, none⟩) := (hk.eval (by decide)).trans rfl
      have p7 : a.eval (.tmp 7) = .pointer (some ⟨b7, 0, none⟩) := (hk.eval (by decide)).trans rfl
      have p8 : a.eval (.tmp 8) = .pointer (some ⟨b8, 0, none⟩) := (hk.eval (by decide)).trans rfl
      have hsz : seen.size = 6 := hsz
      match i, ho with
      | 0, ho =>
        cases ho
        exact op_ino (.tmp 4) rfl (w.heap.size + 1) 0 p4 x hs.ul.x.at ⟨_, rfl, rfl, hs.other (by decide) (by decide)⟩
      | 1, ho =>
        cases ho
        have e1 : a.eval (.tmp 15) = .agg (ics x) := (hdep ⟨0, .data⟩ (by simp) rfl).2
        have hu := hs.ul
        rw [if_neg (by rw [getD_both hun]; decide)] at hu
        exact op_call3 rfl p7 rfl e1 put_enters (CX.out w5 hu.c) (fun w' hw => ⟨_, rfl, rfl, ⟨by rw [if_pos (getD_set_self (by omega)), getD_set_other (by decide)]; exact hu.set7 hw.2 hw.1⟩⟩)
      | 2, ho =>
        cases ho
        exact op_ino (.tmp 5) rfl (w.heap.size + 1 + 1) 0 p5 y hs.ul.y.at ⟨_, rfl, rfl, hs.other (by decide) (by decide)⟩
      | 3, ho =>
        cases ho
        have e1 : a.eval (.tmp 17) = .agg (ics y) := (hdep ⟨2, .data⟩ (by simp) rfl).2
        have hu := hs.ul
        rw [if_neg (c := seen.getD 3 false = true) (by rw [getD_both hun]; decide)] at hu
        exact op_call3 rfl p8 rfl e1 put_enters (CY.out w5 hu.d) (fun w' hw => ⟨_, rfl, rfl, ⟨by rw [if_pos (c := (seen.setIfInBounds 3 true).getD 3 false = true) (getD_set_self (by omega)), getD_set_other (by decide)]; exact hu.set8 hw.2 hw.1⟩⟩)
    · intro a w5 hk hs hv
      obtain ⟨xx, hx, ea⟩ := hk.lit2 34 rfl
      have h1 : a.eval (.tmp 16) = .int .i64 e := hv 1 (by decide)
      have h3 : a.eval (.tmp 18) = .int .i64 f := hv 3 (by decide)
      rw [hx] at h1 h3
      replace ea : a = { tmps := #[.agg (arr X), .agg (ics x), .agg (ics y), .pointer (some ⟨w.heap.size, 0, none⟩), .pointer (some ⟨w.heap.size + 1, 0, none⟩), .pointer (some ⟨w.heap.size + 1 + 1, 0, none⟩), .bool false, .pointer (some ⟨b7, 0, none⟩), .pointer (some ⟨b8, 0, none⟩), undef, undef, .bool true, .bool false, u13, u14, xx 15, xx 16, xx 17, xx 18, undef, undef, undef, undef, undef, undef, undef, undef, undef, undef, undef, undef, undef, undef, undef], defers := [] } := ea
      rw [h1, h3] at ea
      subst ea
      have U5 : Hid (UL w X x y b7 b8 Y Z w5) := Lib.hid hs.ul
      clear hk hs hv hx h1 h3 U CX CY
      simp only [List.drop_succ_cons, List.drop_zero]
      go_upto_region 5 with fail
      by_cases k1 : e = 0
      rotate_left
      · have t1 : (e != 0) = true := by simpa using k1
        clear EQ k1
        refine wp_region_class (More w5) (by kernel_rfl) (by kernel_rfl) (More.drew _) ?_
        repeat (first | go_big_quiet_skip | (go_big_quiet_want; first | (refine quiet_load (.tmp 7) rfl b7 0 (by rfl) Y (by intro w' hw'; exact (U5.out.c.below hw').at) ?_; simp only [Act.put, List.setIfInBounds_toArray, List.set_cons_zero, List.set_cons_succ]; go_big_quiet_on) | (refine quiet_load (.tmp 8) rfl b8 0 (by rfl) Z (by intro w' hw'; exact (U5.out.d.below hw').at) ?_; simp only [Act.put, List.setIfInBounds_toArray, List.set_cons_zero, List.set_cons_succ]; go_big_quiet_on) | (refine quiet_loadI (.tmp 4) rfl (w.heap.size + 1) 0 (by rfl) x (by intro w' hw'; exact (U5.out.x.below hw').at) ?_; simp only [Act.put, List.setIfInBounds_toArray, List.set_cons_zero, List.set_cons_succ]; go_big_quiet_on) | (refine quiet_loadI (.tmp 5) rfl (w.heap.size + 1 + 1) 0 (by rfl) y (by intro w' hw'; exact (U5.out.y.below hw').at) ?_; simp only [Act.put, List.setIfInBounds_toArray, List.set_cons_zero, List.set_cons_succ]; go_big_quiet_on) | (go_big_quiet_op; first | go_big_quiet_on | (apply Exists.intro; refine ⟨fun _ _ => ?_, ?_⟩; (with_reducible exact rfl); go_big_quiet_on))))
        refine wpQuiet_nil ?_
        intro w6 hw6
        go_wp2
        go_ret
        exact ⟨rfl, low_go U5.out.low hw6⟩
      have t1 : (e != 0) = false := by simpa using k1
      by_cases k2 : f = 0
      rotate_left
      · have t2 : (f != 0) = true := by simpa using k2
        clear EQ k1 k2
        refine wp_region_class (More w5) (by kernel_rfl) (by kernel_rfl) (More.drew _) ?_
        repeat (first | go_big_quiet_skip | (go_big_quiet_want; first | (refine quiet_load (.tmp 7) rfl b7 0 (by rfl) Y (by intro w' hw'; exact (U5.out.c.below hw').at) ?_; simp only [Act.put, List.setIfInBounds_toArray, List.set_cons_zero, List.set_cons_succ]; go_big_quiet_on) | (refine quiet_load (.tmp 8) rfl b8 0 (by rfl) Z (by intro w' hw'; exact (U5.out.d.below hw').at) ?_; simp only [Act.put, List.setIfInBounds_toArray, List.set_cons_zero, List.set_cons_succ]; go_big_quiet_on) | (refine quiet_loadI (.tmp 4) rfl (w.heap.size + 1) 0 (by rfl) x (by intro w' hw'; exact (U5.out.x.below hw').at) ?_; simp only [Act.put, List.setIfInBounds_toArray, List.set_cons_zero, List.set_cons_succ]; go_big_quiet_on) | (refine quiet_loadI (.tmp 5) rfl (w.heap.size + 1 + 1) 0 (by rfl) y (by intro w' hw'; exact (U5.out.y.below hw').at) ?_; simp only [Act.put, List.setIfInBounds_toArray, List.set_cons_zero, List.set_cons_succ]; go_big_quiet_on) | (go_big_quiet_op; first | go_big_quiet_on | (apply Exists.intro; refine ⟨fun _ _ => ?_, ?_⟩; (with_reducible exact rfl); go_big_quiet_on))))
        refine wpQuiet_nil ?_
        intro w6 hw6
        go_wp2
        go_ret
        exact ⟨rfl, low_go U5.out.low hw6⟩
      · have t2 : (f != 0) = false := by simpa using k2
        have he1 := fun W => equalIn_blk Y Z W
        have he2 := fun W => equalIn_ino x y W
        rw [EQ.out k1 k2] at he1
        have hg1 := blk_guard
        have hg2 := ino_guard
        clear EQ k1 k2
        obtain ⟨bv, hbv⟩ : ∃ bv, decide (x = y) = bv := ⟨_, rfl⟩
        rw [hbv] at he1 he2
        refine wp_region_class (More w5) (by kernel_rfl) (by kernel_rfl) (More.drew _) ?_
        repeat (first | go_big_quiet_skip | (go_big_quiet_want; first | (refine quiet_load (.tmp 7) rfl b7 0 (by rfl) Y (by intro w' hw'; exact (U5.out.c.below hw').at) ?_; simp only [Act.put, List.setIfInBounds_toArray, List.set_cons_zero, List.set_cons_succ]; go_big_quiet_on) | (refine quiet_load (.tmp 8) rfl b8 0 (by rfl) Z (by intro w' hw'; exact (U5.out.d.below hw').at) ?_; simp only [Act.put, List.setIfInBounds_toArray, List.set_cons_zero, List.set_cons_succ]; go_big_quiet_on) | (refine quiet_loadI (.tmp 4) rfl (w.heap.size + 1) 0 (by rfl) x (by intro w' hw'; exact (U5.out.x.below hw').at) ?_; simp only [Act.put, List.setIfInBounds_toArray, List.set_cons_zero, List.set_cons_succ]; go_big_quiet_on) | (refine quiet_loadI (.tmp 5) rfl (w.heap.size + 1 + 1) 0 (by rfl) y (by intro w' hw'; exact (U5.out.y.below hw').at) ?_; simp only [Act.put, List.setIfInBounds_toArray, List.set_cons_zero, List.set_cons_succ]; go_big_quiet_on) | (go_big_quiet_op; first | go_big_quiet_on | (apply Exists.intro; refine ⟨fun _ _ => ?_, ?_⟩; (with_reducible exact rfl); go_big_quiet_on))))
        refine wpQuiet_nil ?_
        intro w6 hw6
        go_wp2
        go_ret
        exact ⟨by simp, low_go U5.out.low hw6⟩
end Go.Proofs.Ytfijagjkgmhimaa
