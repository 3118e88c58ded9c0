import Derived.Test.YtfijagjkgmhimaaInoL2
namespace Go.Proofs.Ytfijagjkgmhimaa
open Go.RowKit
attribute [local go_sem ↓] exec_load exec_store

/-! The law InodeApart. -/
/-- Two calls, one behind the other, that write one block, in a region that draws its order. -/
structure Two (i1 i2 : Nat) (R : Blk → World → Prop) (X Y Z : Blk) (seen : Array Bool) (w : World) : Prop where
  is : R (if seen.getD i2 false = true then Z else if seen.getD i1 false = true then Y else X) w
  ord : seen.getD i2 false = true → seen.getD i1 false = true
section
variable {i1 i2 i : Nat} {R : Blk → World → Prop} {X Y Z : Blk} {seen : Array Bool} {w w' : World}
theorem Two.other (h : Two i1 i2 R X Y Z seen w) (h1 : i ≠ i1) (h2 : i ≠ i2) : Two i1 i2 R X Y Z (seen.setIfInBounds i true) w := by
  obtain ⟨a, b⟩ := h
  exact ⟨by rw [getD_set_other h1, getD_set_other h2]; exact a, by rw [getD_set_other h1, getD_set_other h2]; exact b⟩
theorem Two.none2 (h : Two i1 i2 R X Y Z seen w) (hun : seen.getD i1 true = false) : ¬ seen.getD i2 false = true := fun q => by
  have := h.ord q
  rw [getD_both hun] at this
  exact absurd this (by decide)
theorem Two.fst (h : Two i1 i2 R X Y Z seen w) (hun : seen.getD i1 true = false) : R X w := by
  have a := h.is
  rw [if_neg (h.none2 hun), if_neg (by rw [getD_both hun]; decide)] at a
  exact a
theorem Two.fst' (h : Two i1 i2 R X Y Z seen w) (hun : seen.getD i1 true = false) (hi : i1 < seen.size) (hne : i1 ≠ i2) (hr : R Y w') : Two i1 i2 R X Y Z (seen.setIfInBounds i1 true) w' :=
  ⟨by rw [getD_set_other hne, if_neg (h.none2 hun), if_pos (getD_set_self hi)]; exact hr, fun _ => getD_set_self hi⟩
theorem Two.snd (h : Two i1 i2 R X Y Z seen w) (h1 : seen.getD i1 false = true) (hun : seen.getD i2 true = false) : R Y w := by
  have a := h.is
  rw [if_neg (by rw [getD_both hun]; decide), if_pos h1] at a
  exact a
theorem Two.snd' (h1 : seen.getD i1 false = true) (hi : i2 < seen.size) (hne : i2 ≠ i1) (hr : R Z w') : Two i1 i2 R X Y Z (seen.setIfInBounds i2 true) w' :=
  ⟨by rw [if_pos (getD_set_self hi)]; exact hr, fun _ => by rw [getD_set_other hne]; exact h1⟩
end
def apV (p q e f : Value) (x y : InoV) : Nat → Value → Prop
  | 0, v => v = p
  | 1, v => v = .agg (ics x)
  | 2, v => v = e
  | 3, v => v = q
  | 4, v => v = .agg (ics y)
  | 5, v => v = f
  | _, _ => True
def apD6 : Nat → Tmp
  | 0 => 28
  | 1 => 29
  | 2 => 30
  | 3 => 31
  | 4 => 32
  | _ => 33
def apD7 : Nat → Tmp
  | 0 => 34
  | 1 => 35
  | 2 => 36
  | 3 => 37
  | 4 => 38
  | _ => 39
theorem op_move {o : Oper} {a : Act} {w : World} {K : Act → World → Prop} {Q : Exit → Act → World → Prop} (x : Operand) (ho : o.op = .move x) {v : Value} (hx : a.eval x = v) (hk : K (a.put o.dst v) w) : o.wp Try.prog a w K Q := by
  refine wp_value (v := v) (w' := w) ?_ hk
  unfold execOp
  simp only [ho]
  generalize a.eval = ev at hx ⊢
  simp [hx]
set_option maxRecDepth 100000 in
set_option maxHeartbeats 8000000 in
theorem inodeApart_any (hS : ISays) (X : Blk) (at_ t_ : Int) (x y : InoV) (w : World) (a0 : -9223372036854775808 ≤ at_) (a1 : at_ ≤ 9223372036854775807) (t0 : -9223372036854775808 ≤ t_) (t1 : t_ ≤ 9223372036854775807) (hx : x.Fits) (hy : y.Fits) :
    Calls Try.prog 6 #[.agg (arr X), .int .i64 at_, .int .i64 t_, .agg (ics x), .agg (ics y)] w fun e w' => e = .returned (.bool true) ∧ Below w.heap.size w w' := by
  have hz := fun W => zero_blk W
  have hzi := fun W => zero_ino W
  have HS := Lib.hid hS
  have FX := Lib.hid hx
  have FY := Lib.hid hy
  have CA := Lib.hid fun W => iAwake_any hS W
  obtain ⟨w1, e1⟩ : ∃ w1, ((w.alloc (.cells (arr X) 23)).alloc (.cells (ics x) 27)).alloc (.cells (ics y) 27) = w1 := ⟨_, rfl⟩
  have q0 : BVar (w.alloc (.cells (arr X) 23)) w.heap.size X := heap_alloc_new w _
  have q1 : IVar ((w.alloc (.cells (arr X) 23)).alloc (.cells (ics x) 27)) (w.heap.size + 1) x := heap_alloc2_new w _ _
  have q2 : IVar w1 (w.heap.size + 1 + 1) y := by
    rw [← e1]
    have := heap_alloc2_new (w.alloc (.cells (arr X) 23)) (.cells (ics x) 27) (.cells (ics y) 27)
    rwa [World.size_alloc] at this
  have V1 : Hid (BVar w1 w.heap.size X) := Lib.hid (by rw [← e1]; exact (q0.below (below_new _ _)).below (below_new _ _))
  have I1 : Hid (IVar w1 (w.heap.size + 1) x) := Lib.hid (by rw [← e1]; exact q1.below (below_new _ _))
  have J1 := Lib.hid q2
  have B1 : Hid (Below w.heap.size w w1) := Lib.hid (by rw [← e1]; exact low_go (low_go (below_new w _) (below_new _ _)) (below_new _ _))
  clear q0 q1 q2 hS hx hy
  by_cases hq : at_ = t_
  · have d1 : (at_ == t_) = true := by simpa using hq
    clear hq
    go_enter Try.func6, Try.ntmps6
    go_upto_region 1 with fail
    clear e1
    go_wp2_with (go_at_call 16; with_reducible refine (CA.out _).mono ?_; rintro e w2 ⟨rfl, hb⟩)
    go_ret
    exact ⟨rfl, low_go B1.out hb⟩
  have d1 : (at_ == t_) = false := by simpa using hq
  obtain ⟨⟨Y, e⟩, x1⟩ : ∃ p, putI X at_ x = p := ⟨_, rfl⟩
  obtain ⟨⟨Z, f⟩, x2⟩ : ∃ p, putI Y t_ y = p := ⟨_, rfl⟩
  have x3 : putI X t_ y = ((putI X t_ y).1, f) := by
    have := put_err (X := X) (Y := Y) (a := t_) (x := y)
    rw [x2] at this
    exact Prod.ext rfl this
  obtain ⟨V, hV⟩ : ∃ V, (putI X t_ y).1 = V := ⟨_, rfl⟩
  rw [hV] at x3
  have x4 : putI V at_ x = (Z, e) := by
    have h1 := put_swap (X := X) (a := at_) (b := t_) (x := x) (y := y) hq
    have h2 := put_err (X := V) (Y := X) (a := at_) (x := x)
    rw [x1, x2, x3] at h1
    rw [x1] at h2
    exact Prod.ext h1.symm h2
  have GA : Hid (e = 0 → getI Z at_ = (x, 0)) := Lib.hid fun h => by
    have h1 := get_other (X := Y) (a := t_) (b := at_) (x := y) (Ne.symm hq)
    have h0 : (putI X at_ x).2 = 0 := by rw [x1]; exact h
    have h2 := get_put (X := X) (putI_ok h0).1 FX.out (putI_ok h0).2
    rw [x2] at h1
    rw [x1] at h2
    exact h1.trans h2
  have GT : Hid (f = 0 → getI Z t_ = (y, 0)) := Lib.hid fun h => by
    have h1 := get_other (X := V) (a := at_) (b := t_) (x := x) hq
    have h0 : (putI X t_ y).2 = 0 := by rw [x3]; exact h
    have h2 := get_put (X := X) (putI_ok h0).1 FY.out (putI_ok h0).2
    rw [x4] at h1
    rw [x3] at h2
    exact h1.trans h2
  have C1 : Hid (∀ b W, BVar W b X → Calls Try.prog 10 #[.pointer (some ⟨b, 0, none⟩), .int .i64 at_, .agg (ics x)] W fun e' w' => e' = .returned (.int .i64 e) ∧ BVar w' b Y ∧ Only b W w') := Lib.hid fun b W h => by have := HS.out.put b X at_ x W h a0 a1 FX.out; rwa [x1] at this
  have C2 : Hid (∀ b W, BVar W b Y → Calls Try.prog 10 #[.pointer (some ⟨b, 0, none⟩), .int .i64 t_, .agg (ics y)] W fun e' w' => e' = .returned (.int .i64 f) ∧ BVar w' b Z ∧ Only b W w') := Lib.hid fun b W h => by have := HS.out.put b Y t_ y W h t0 t1 FY.out; rwa [x2] at this
  have C3 : Hid (∀ b W, BVar W b X → Calls Try.prog 10 #[.pointer (some ⟨b, 0, none⟩), .int .i64 t_, .agg (ics y)] W fun e' w' => e' = .returned (.int .i64 f) ∧ BVar w' b V ∧ Only b W w') := Lib.hid fun b W h => by have := HS.out.put b X t_ y W h t0 t1 FY.out; rwa [x3] at this
  have C4 : Hid (∀ b W, BVar W b V → Calls Try.prog 10 #[.pointer (some ⟨b, 0, none⟩), .int .i64 at_, .agg (ics x)] W fun e' w' => e' = .returned (.int .i64 e) ∧ BVar w' b Z ∧ Only b W w') := Lib.hid fun b W h => by have := HS.out.put b V at_ x W h a0 a1 FX.out; rwa [x4] at this
  obtain ⟨⟨u, ie⟩, x5⟩ : ∃ p, getI Z at_ = p := ⟨_, rfl⟩
  obtain ⟨⟨v, je⟩, x6⟩ : ∃ p, getI Z t_ = p := ⟨_, rfl⟩
  have CGA : Hid (∀ W, Calls Try.prog 14 #[.agg (arr Z), .int .i64 at_] W fun e w' => e = .returned (.tuple #[.agg (ics u), .int .i64 ie]) ∧ Below W.heap.size W w') := Lib.hid fun W => by have := HS.out.get Z at_ W a0 a1; rwa [x5] at this
  have CGT : Hid (∀ W, Calls Try.prog 14 #[.agg (arr Z), .int .i64 t_] W fun e w' => e = .returned (.tuple #[.agg (ics v), .int .i64 je]) ∧ Below W.heap.size W w') := Lib.hid fun W => by have := HS.out.get Z t_ W t0 t1; rwa [x6] at this
  rw [x5] at GA
  rw [x6] at GT
  clear x1 x2 x3 x4 x5 x6 hV HS FX FY hq
  go_enter Try.func6, Try.ntmps6
  go_upto_region 1 with fail
  clear e1
  go_upto_region 5 with (go_at_call 16; with_reducible refine (CA.out _).mono ?_; rintro e w2 ⟨rfl, hb⟩)
  have V2 := Lib.hid (V1.out.below hb)
  have I2 := Lib.hid (I1.out.below hb)
  have J2 := Lib.hid (J1.out.below hb)
  have B2 := Lib.hid (low_go B1.out hb)
  clear hb V1 I1 J1 CA B1
  have L2 := Lib.hid J2.out.lt
  go_cut [11, 12] from 26 to 27 (fun s7 s8 wx => ∃ b7 b8, s7 = .pointer (some ⟨b7, 0, none⟩) ∧ s8 = .pointer (some ⟨b8, 0, none⟩) ∧ UL w X x y b7 b8 X X wx)
  case first =>
    have ld0 := doLoad_run (w := w2.drew) (b := w.heap.size) (off := 0) (X := X) (At.row V2.out)
    have ld1 := fun A : Array Value => doLoad_run (w := (w2.alloc (.cells A 23)).drew) (b := w.heap.size) (off := 0) (X := X) (At.row ((V2.out.below (below_new w2 (.cells A 23))).drewN 1))
    have ld2 := fun A B : Array Value => doLoad_run (w := ((w2.alloc (.cells A 23)).alloc (.cells B 23)).drew) (b := w.heap.size) (off := 0) (X := X) (At.row (((V2.out.below (below_new w2 (.cells A 23))).below (below_new _ (.cells B 23))).drewN 1))
    have s1 := st_new w2 X .zero
    have s2 := fun V => st_new2 w2 X .zero V
    have s3 := fun Y => st_old2 w2 X Y .zero
    go_region
    all_goals
      have B3 := Lib.hid (low_go (low_go B2.out (below_new w2 (.cells (arr X) 23))) (below_new _ (.cells (arr X) 23)))
      have I3 := Lib.hid ((I2.out.below (below_new w2 (.cells (arr X) 23))).below (below_new _ (.cells (arr X) 23)))
      have J3 := Lib.hid ((J2.out.below (below_new w2 (.cells (arr X) 23))).below (below_new _ (.cells (arr X) 23)))
      have C3 : Hid (BVar ((w2.alloc (.cells (arr X) 23)).alloc (.cells (arr X) 23)) w2.heap.size X) := Lib.hid (BVar.below (heap_alloc_new w2 _) (below_new _ _))
      have D3 : Hid (BVar ((w2.alloc (.cells (arr X) 23)).alloc (.cells (arr X) 23)) (w2.heap.size + 1) X) := Lib.hid (heap_alloc2_new w2 _ _)
      go_wp2
      go_meet
    · exact ⟨_, _, rfl, rfl, ⟨I3.out, J3.out, C3.out, D3.out, by omega, ⟨L2.out, by have := L2.out; omega⟩, by first | exact B3.out | exact low_drewN B3.out 1⟩⟩
    · exact ⟨_, _, rfl, rfl, ⟨I3.out, J3.out, D3.out, C3.out, by omega, ⟨by have := L2.out; omega, L2.out⟩, by first | exact B3.out | exact low_drewN B3.out 1⟩⟩
  case rest =>
    obtain ⟨b7, b8, rfl, rfl, hul⟩ := hcut
    have U := Lib.hid hul
    clear hul V2 I2 J2 L2 B2
    go_upto_region 6 with fail
    refine wp_region_inv (n := 6) apD6 (apV (.int .i64 at_) (.int .i64 t_) (.int .i64 e) (.int .i64 f) x y) (Two 2 5 (fun B => UL w X x y b7 b8 B X) X Y Z) (by kernel_rfl) (by kernel_rfl) (by kernel_rfl) (by kernel_rfl) (by kernel_rfl) ⟨U.out.drewN 1, fun h => by simp at h⟩ ?_ ?_
    · intro i o a w5 seen hi ho hsz hk hs hun hdep
      have p1 : a.eval (.tmp 1) = .int .i64 at_ := (hk.eval (by decide)).trans rfl
      have p2 : a.eval (.tmp 2) = .int .i64 t_ := (hk.eval (by decide)).trans rfl
      have p8 : a.eval (.tmp 8) = .pointer (some ⟨w.heap.size + 1, 0, none⟩) := (hk.eval (by decide)).trans rfl
      have p9 : a.eval (.tmp 9) = .pointer (some ⟨w.heap.size + 1 + 1, 0, none⟩) := (hk.eval (by decide)).trans rfl
      have p11 : a.eval (.tmp 11) = .pointer (some ⟨b7, 0, none⟩) := (hk.eval (by decide)).trans rfl
      have hsz : seen.size = 8 := hsz
      match i, ho with
      | 0, ho =>
        cases ho
        exact op_move (.tmp 1) rfl p1 ⟨_, rfl, rfl, hs.other (by decide) (by decide)⟩
      | 1, ho =>
        cases ho
        exact op_ino (.tmp 8) rfl (w.heap.size + 1) 0 p8 x hs.is.x.at ⟨_, rfl, rfl, hs.other (by decide) (by decide)⟩
      | 2, ho =>
        cases ho
        have h0 : a.eval (.tmp 28) = .int .i64 at_ := (hdep ⟨0, .data⟩ (by simp) rfl).2
        have h1 : a.eval (.tmp 29) = .agg (ics x) := (hdep ⟨1, .data⟩ (by simp) rfl).2
        have hu := hs.fst hun
        exact op_call3 rfl p11 h0 h1 put_enters (C1.out b7 w5 hu.c) (fun w' hw => ⟨_, rfl, rfl, hs.fst' hun (by omega) (by decide) (hu.set7 hw.2 hw.1)⟩)
      | 3, ho =>
        cases ho
        exact op_move (.tmp 2) rfl p2 ⟨_, rfl, rfl, hs.other (by decide) (by decide)⟩
      | 4, ho =>
        cases ho
        exact op_ino (.tmp 9) rfl (w.heap.size + 1 + 1) 0 p9 y hs.is.y.at ⟨_, rfl, rfl, hs.other (by decide) (by decide)⟩
      | 5, ho =>
        cases ho
        have h0 : a.eval (.tmp 31) = .int .i64 t_ := (hdep ⟨3, .data⟩ (by simp) rfl).2
        have h1 : a.eval (.tmp 32) = .agg (ics y) := (hdep ⟨4, .data⟩ (by simp) rfl).2
        have h2 : seen.getD 2 false = true := (hdep ⟨2, .chain⟩ (by simp) rfl).1
        have hu := hs.snd h2 hun
        exact op_call3 rfl p11 h0 h1 put_enters (C2.out b7 w5 hu.c) (fun w' hw => ⟨_, rfl, rfl, Two.snd' h2 (by omega) (by decide) (hu.set7 hw.2 hw.1)⟩)
    · intro a w5 hk hs hv
      obtain ⟨xx, hx, ea⟩ := hk.lit2 87 rfl
      have h2 : a.eval (.tmp 30) = .int .i64 e := hv 2 (by decide)
      have h5 : a.eval (.tmp 33) = .int .i64 f := hv 5 (by decide)
      rw [hx] at h2 h5
      replace ea : a = { tmps := #[.agg (arr X), .int .i64 at_, .int .i64 t_, .agg (ics x), .agg (ics y), .pointer (some ⟨w.heap.size, 0, none⟩), undef, undef, .pointer (some ⟨w.heap.size + 1, 0, none⟩), .pointer (some ⟨w.heap.size + 1 + 1, 0, none⟩), .bool false, .pointer (some ⟨b7, 0, none⟩), .pointer (some ⟨b8, 0, none⟩), undef, undef, undef, undef, undef, undef, undef, undef, .bool true, .bool false, .int .i64 at_, .int .i64 t_, .bool false, u26, u27, xx 28, xx 29, xx 30, xx 31, xx 32, xx 33, undef, undef, undef, undef, undef, undef, undef, undef, undef, undef, undef, undef, undef, undef, undef, undef, undef, undef, undef, undef, undef, undef, undef, undef, undef, undef, undef, undef, undef, undef, undef, undef, undef, undef, undef, undef, undef, undef, undef, undef, undef, undef, undef, undef, undef, undef, undef, undef, undef, undef, undef, undef, undef], defers := [] } := ea
      rw [h2, h5] at ea
      subst ea
      have U5 : Hid (UL w X x y b7 b8 Z X w5) := Lib.hid hs.is
      clear hk hs hv hx h2 h5 U C1 C2
      simp only [List.drop_succ_cons, List.drop_zero]
      go_upto_region 7 with fail
      refine wp_region_inv (n := 6) apD7 (apV (.int .i64 t_) (.int .i64 at_) (.int .i64 f) (.int .i64 e) y x) (Two 2 5 (fun B => UL w X x y b7 b8 Z B) X V Z) (by kernel_rfl) (by kernel_rfl) (by kernel_rfl) (by kernel_rfl) (by kernel_rfl) ⟨U5.out.drewN 1, fun h => by simp at h⟩ ?_ ?_
      · intro i o a w6 seen hi ho hsz hk hs hun hdep
        have p1 : a.eval (.tmp 1) = .int .i64 at_ := (hk.eval (by decide)).trans rfl
        have p2 : a.eval (.tmp 2) = .int .i64 t_ := (hk.eval (by decide)).trans rfl
        have p8 : a.eval (.tmp 8) = .pointer (some ⟨w.heap.size + 1, 0, none⟩) := (hk.eval (by decide)).trans rfl
        have p9 : a.eval (.tmp 9) = .pointer (some ⟨w.heap.size + 1 + 1, 0, none⟩) := (hk.eval (by decide)).trans rfl
        have p12 : a.eval (.tmp 12) = .pointer (some ⟨b8, 0, none⟩) := (hk.eval (by decide)).trans rfl
        have hsz : seen.size = 8 := hsz
        match i, ho with
        | 0, ho =>
          cases ho
          exact op_move (.tmp 2) rfl p2 ⟨_, rfl, rfl, hs.other (by decide) (by decide)⟩
        | 1, ho =>
          cases ho
          exact op_ino (.tmp 9) rfl (w.heap.size + 1 + 1) 0 p9 y hs.is.y.at ⟨_, rfl, rfl, hs.other (by decide) (by decide)⟩
        | 2, ho =>
          cases ho
          have h0 : a.eval (.tmp 34) = .int .i64 t_ := (hdep ⟨0, .data⟩ (by simp) rfl).2
          have h1 : a.eval (.tmp 35) = .agg (ics y) := (hdep ⟨1, .data⟩ (by simp) rfl).2
          have hu := hs.fst hun
          exact op_call3 rfl p12 h0 h1 put_enters (C3.out b8 w6 hu.d) (fun w' hw => ⟨_, rfl, rfl, hs.fst' hun (by omega) (by decide) (hu.set8 hw.2 hw.1)⟩)
        | 3, ho =>
          cases ho
          exact op_move (.tmp 1) rfl p1 ⟨_, rfl, rfl, hs.other (by decide) (by decide)⟩
        | 4, ho =>
          cases ho
          exact op_ino (.tmp 8) rfl (w.heap.size + 1) 0 p8 x hs.is.x.at ⟨_, rfl, rfl, hs.other (by decide) (by decide)⟩
        | 5, ho =>
          cases ho
          have h0 : a.eval (.tmp 37) = .int .i64 at_ := (hdep ⟨3, .data⟩ (by simp) rfl).2
          have h1 : a.eval (.tmp 38) = .agg (ics x) := (hdep ⟨4, .data⟩ (by simp) rfl).2
          have h2 : seen.getD 2 false = true := (hdep ⟨2, .chain⟩ (by simp) rfl).1
          have hu := hs.snd h2 hun
          exact op_call3 rfl p12 h0 h1 put_enters (C4.out b8 w6 hu.d) (fun w' hw => ⟨_, rfl, rfl, Two.snd' h2 (by omega) (by decide) (hu.set8 hw.2 hw.1)⟩)
      · intro a w6 hk hs hv
        obtain ⟨yy, hx, ea⟩ := hk.lit2 87 rfl
        have h2 : a.eval (.tmp 36) = .int .i64 f := hv 2 (by decide)
        have h5 : a.eval (.tmp 39) = .int .i64 e := hv 5 (by decide)
        rw [hx] at h2 h5
        replace ea : a = { tmps := #[.agg (arr X), .int .i64 at_, .int .i64 t_, .agg (ics x), .agg (ics y), .pointer (some ⟨w.heap.size, 0, none⟩), undef, undef, .pointer (some ⟨w.heap.size + 1, 0, none⟩), .pointer (some ⟨w.heap.size + 1 + 1, 0, none⟩), .bool false, .pointer (some ⟨b7, 0, none⟩), .pointer (some ⟨b8, 0, none⟩), .int .i64 e, .int .i64 f, undef, undef, undef, undef, undef, undef, .bool true, .bool false, .int .i64 at_, .int .i64 t_, .bool false, u26, u27, xx 28, xx 29, .int .i64 e, xx 31, xx 32, .int .i64 f, yy 34, yy 35, yy 36, yy 37, yy 38, yy 39, undef, undef, undef, undef, undef, undef, undef, undef, undef, undef, undef, undef, undef, undef, undef, undef, undef, undef, undef, undef, undef, undef, undef, undef, undef, undef, undef, undef, undef, undef, undef, undef, undef, undef, undef, undef, undef, undef, undef, undef, undef, undef, undef, undef, undef, undef, undef], defers := [] } := ea
        rw [h2, h5] at ea
        subst ea
        have U6 : Hid (UL w X x y b7 b8 Z Z w6) := Lib.hid hs.is
        clear hk hs hv hx h2 h5 U5 C3 C4
        simp only [List.drop_succ_cons, List.drop_zero]
        have hg1 := blk_guard
        have hg2 := ino_guard
        have heB := fun W => equalIn_blk Z Z W
        simp only [decide_true] at heB
        go_upto_region 8 with fail
        go_upto_region 10 with (first
          | (refine load_blk_w (by with_unfolding_all rfl) (.tmp 11) rfl b7 0 rfl Z U6.out.c.at ?_)
          | (refine load_blk_w (by with_unfolding_all rfl) (.tmp 12) rfl b8 0 rfl Z U6.out.d.at ?_))
        clear heB
        go_upto_region 11 with (first
          | (refine load_blk rfl (.tmp 11) rfl b7 0 rfl Z U6.out.c.at ?_)
          | (go_at_call 14; with_reducible refine (CGA.out _).mono ?_; rintro e' w7 ⟨rfl, hb⟩)
          | (refine store_newI rfl (.tmp 17) (.tmp 57) rfl u rfl rfl ?_))
        have bn := below_new w7 (.cells (ics u) 27)
        have U7 := Lib.hid ((U6.out.below hb).below bn)
        have K7 := Lib.hid (show IVar (w7.alloc (.cells (ics u) 27)) w7.heap.size u from heap_alloc_new w7 _)
        clear hb bn U6 CGA
        generalize w7.alloc (.cells (ics u) 27) = w8 at U7 K7 ⊢
        generalize w7.heap.size = bu at K7 ⊢
        go_cut [69] from 59 to 69 (fun s69 wx => s69 = .bool false ∧ UL w X x y b7 b8 Z Z wx)
        case first =>
          by_cases k : e = 0
          · have ka := GA.out k
            obtain rfl : u = x := congrArg Prod.fst ka
            obtain rfl : ie = 0 := congrArg Prod.snd ka
            subst k
            have he := fun W => equalIn_ino u u W
            simp only [decide_true] at he
            clear ka GA GT
            go_wp2_with (first
              | (refine load_ino_w (by with_unfolding_all rfl) (.tmp 17) rfl bu 0 rfl u K7.out.at ?_)
              | (refine load_ino_w (by with_unfolding_all rfl) (.tmp 8) rfl (w.heap.size + 1) 0 rfl u U7.out.x.at ?_))
            go_meet
            exact ⟨rfl, U7.out⟩
          · have k1 : (e == 0) = false := by simpa using k
            clear k GA GT
            go_wp2
            go_meet
            exact ⟨rfl, U7.out⟩
        case rest =>
          obtain ⟨rfl, hu⟩ := hcut
          have U8 := Lib.hid hu
          clear hu U7 K7 GA
          go_upto_region 13 with fail
          go_upto_region 14 with (first
            | (refine load_blk rfl (.tmp 11) rfl b7 0 rfl Z U8.out.c.at ?_)
            | (go_at_call 14; with_reducible refine (CGT.out _).mono ?_; rintro e' w9 ⟨rfl, hb⟩)
            | (refine store_newI rfl (.tmp 19) (.tmp 74) rfl v rfl rfl ?_))
          have bn := below_new w9 (.cells (ics v) 27)
          have U9 := Lib.hid ((U8.out.below hb).below bn)
          have K9 := Lib.hid (show IVar (w9.alloc (.cells (ics v) 27)) w9.heap.size v from heap_alloc_new w9 _)
          clear hb bn U8 CGT
          generalize w9.alloc (.cells (ics v) 27) = wA at U9 K9 ⊢
          generalize w9.heap.size = bv at K9 ⊢
          by_cases k : f = 0
          · have ka := GT.out k
            obtain rfl : v = y := congrArg Prod.fst ka
            obtain rfl : je = 0 := congrArg Prod.snd ka
            subst k
            have he := fun W => equalIn_ino v v W
            simp only [decide_true] at he
            clear ka GT
            go_wp2_with (first
              | (refine load_ino_w (by with_unfolding_all rfl) (.tmp 19) rfl bv 0 rfl v K9.out.at ?_)
              | (refine load_ino_w (by with_unfolding_all rfl) (.tmp 9) rfl (w.heap.size + 1 + 1) 0 rfl v U9.out.y.at ?_))
            go_ret
            exact ⟨rfl, U9.out.low⟩
          · have k1 : (f != 0) = true := by simpa using k
            clear k GT
            go_wp2
            go_ret
            exact ⟨rfl, U9.out.low⟩
end Go.Proofs.Ytfijagjkgmhimaa
