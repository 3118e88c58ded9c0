import Derived.Test.YtfijagjkgmhimaaInoL4
namespace Go.Proofs.Ytfijagjkgmhimaa
open Go.RowKit

/-! The law InodeBack. -/
/-- What InodeBack keeps in memory: the block, the inode, the block that is written. -/
structure BK (w0 : World) (X : Blk) (x : InoV) (b7 : Nat) (Y : Blk) (w : World) : Prop where
  blk : BVar w w0.heap.size X
  x : IVar w (w0.heap.size + 1) x
  c : BVar w b7 Y
  at_ : w0.heap.size + 1 < b7
  low : Below w0.heap.size w0 w
section
variable {w0 w w' : World} {X Y V : Blk} {x : InoV} {b7 : Nat}
theorem BK.below (h : BK w0 X x b7 Y w) (hb : Below w.heap.size w w') : BK w0 X x b7 Y w' := ⟨h.blk.below hb, h.x.below hb, h.c.below hb, h.at_, low_go h.low hb⟩
theorem BK.drewN (h : BK w0 X x b7 Y w) (n : Nat) : BK w0 X x b7 Y (w.drewN n) := ⟨h.blk, h.x, h.c, h.at_, low_drewN h.low n⟩
theorem BK.set7 (h : BK w0 X x b7 Y w) (ho : Only b7 w w') (hv : BVar w' b7 V) : BK w0 X x b7 V w' :=
  ⟨ho.blk (by have := h.at_; omega) h.blk, ho.ino (by have := h.at_; omega) h.x, hv, h.at_, low_only h.low ho (by have := h.at_; omega)⟩
theorem BK.other {b : Nat} (h : BK w0 X x b7 Y w) (ho : Only b w w') (hb : b7 < b) : BK w0 X x b7 Y w' :=
  ⟨ho.blk (by have := h.at_; omega) h.blk, ho.ino (by have := h.at_; omega) h.x, ho.blk (by omega) h.c, h.at_, low_only h.low ho (by have := h.at_; omega)⟩
end
theorem quiet_u8 {o : Oper} {a : Act} {C : World → Prop} {K : Act → Prop} (x : Operand) (ho : o.op = .load 5 x) (p : Addr) (hx : a.eval x = .pointer (some p)) (k : Int) (hc : ∀ w, C w → w.cell? p = some (.int .u8 k))
    (hk : K (a.put o.dst (.int .u8 k))) : o.quiet Try.prog a C K := by
  refine ⟨_, fun w hw => ?_, hk⟩
  have h := hc w hw
  unfold Oper.quietAt execOp
  simp only [ho, hx]
  go_simp
  first | done | exact ⟨rfl, hw⟩ | exact hw
set_option maxRecDepth 100000 in
set_option maxHeartbeats 8000000 in
theorem inodeBack_any (hS : ISays) (X : Blk) (at_ : Int) (x : InoV) (w : World) (a0 : -9223372036854775808 ≤ at_) (a1 : at_ ≤ 9223372036854775807) (hx : x.Fits) :
    Calls Try.prog 5 #[.agg (arr X), .int .i64 at_, .agg (ics x)] w fun e w' => e = .returned (.bool true) ∧ Below w.heap.size w w' := by
  have hz := fun W => zero_blk W
  have hzi := fun W => zero_ino W
  have HS := Lib.hid hS
  have FX := Lib.hid hx
  have CA := Lib.hid fun W => iAwake_any hS W
  have b1 := below_new w (.cells (arr X) 23)
  have b2 := below_new (w.alloc (.cells (arr X) 23)) (.cells (ics x) 27)
  have q1 : BVar (w.alloc (.cells (arr X) 23)) w.heap.size X := heap_alloc_new w _
  have q2 : IVar ((w.alloc (.cells (arr X) 23)).alloc (.cells (ics x) 27)) (w.heap.size + 1) x := heap_alloc2_new w _ _
  have V1 := Lib.hid (q1.below b2)
  have I1 := Lib.hid q2
  have B1 := Lib.hid (low_go b1 b2)
  clear b1 b2 q1 q2 hS hx
  obtain ⟨⟨old, e⟩, x1⟩ : ∃ p, getI X at_ = p := ⟨_, rfl⟩
  have FO : Hid old.Fits := Lib.hid (by have := getI_fits X at_; rwa [x1] at this)
  have OLD : Hid (e = 0 → putI X at_ old = (X, 0) ∧ mayB old = true) := Lib.hid fun h => by
    have h1 : (getI X at_).2 = 0 := by rw [x1]; exact h
    have h2 := put_get h1
    have h3 := (getI_ok h1).2.1
    rw [x1] at h2 h3
    exact ⟨h2, (mayB_iff _).2 h3⟩
  obtain ⟨⟨Y, f⟩, x2⟩ : ∃ p, putI X at_ x = p := ⟨_, rfl⟩
  have KEPT : Hid (f ≠ 0 → Y = X) := Lib.hid fun h => by
    have := putI_kept (X := X) (at_ := at_) (x := x) (by rw [x2]; exact h)
    rwa [x2] at this
  have BACK : Hid (f = 0 → getI Y at_ = (x, 0) ∧ PlaceI at_ ∧ ∀ i : Nat, (i : Int) < at_ ∨ at_ + 64 ≤ i → Y.f i = X.f i) := Lib.hid fun h => by
    have h0 : (putI X at_ x).2 = 0 := by rw [x2]; exact h
    have h1 := get_put (X := X) (putI_ok h0).1 FX.out (putI_ok h0).2
    rw [x2] at h1
    refine ⟨h1, (putI_ok h0).1, fun i hi => ?_⟩
    have := put_off (X := X) (at_ := at_) (x := x) hi
    rwa [x2] at this
  have C1 : Hid (∀ W, Calls Try.prog 14 #[.agg (arr X), .int .i64 at_] W fun e' w' => e' = .returned (.tuple #[.agg (ics old), .int .i64 e]) ∧ Below W.heap.size W w') := Lib.hid fun W => by have := HS.out.get X at_ W a0 a1; rwa [x1] at this
  have C2 : Hid (∀ b W, BVar W b X → Calls Try.prog 10 #[.pointer (some ⟨b, 0, none⟩), .int .i64 at_, .agg (ics x)] W fun e' w' => e' = .returned (.int .i64 f) ∧ BVar w' b Y ∧ Only b W w') := Lib.hid fun b W h => by have := HS.out.put b X at_ x W h a0 a1 FX.out; rwa [x2] at this
  clear x1 x2
  go_enter Try.func5, Try.ntmps5
  go_upto_region 1 with fail
  generalize (w.alloc (.cells (arr X) 23)).alloc (.cells (ics x) 27) = w1 at V1 I1 B1 ⊢
  go_upto_region 4 with (first
    | (go_at_call 16; with_reducible refine (CA.out _).mono ?_; rintro e' w2 ⟨rfl, hb⟩; have V2 := Lib.hid (V1.out.below hb))
    | (refine load_blk rfl (.tmp 3) rfl w.heap.size 0 rfl X V2.out.at ?_)
    | (refine store_newB rfl (.tmp 7) (.tmp 16) rfl X rfl rfl ?_))
  have I2 := Lib.hid (I1.out.below hb)
  have bn := below_new w2 (.cells (arr X) 23)
  have P : Hid (BK w X x w2.heap.size X (w2.alloc (.cells (arr X) 23))) := Lib.hid ⟨V2.out.below bn, I2.out.below bn, heap_alloc_new w2 _, I2.out.lt, low_go (low_go B1.out hb) bn⟩
  clear hb bn V1 I1 V2 I2 CA B1
  generalize w2.alloc (.cells (arr X) 23) = w3 at P ⊢
  generalize w2.heap.size = b7 at P ⊢
  go_upto_region 5 with (first
    | (refine load_blk rfl (.tmp 3) rfl w.heap.size 0 rfl X P.out.blk.at ?_)
    | (go_at_call 14; with_reducible refine (C1.out _).mono ?_; rintro e' w4 ⟨rfl, hb⟩)
    | (refine store_newI rfl (.tmp 8) (.tmp 21) rfl old rfl rfl ?_))
  have bn := below_new w4 (.cells (ics old) 27)
  have P4 := Lib.hid ((P.out.below hb).below bn)
  have O4 := Lib.hid (show IVar (w4.alloc (.cells (ics old) 27)) w4.heap.size old from heap_alloc_new w4 _)
  have Z4 : Hid (b7 < w4.heap.size) := Lib.hid (Nat.lt_of_lt_of_le P.out.c.lt hb.size)
  clear hb bn P C1
  generalize w4.alloc (.cells (ics old) 27) = w5 at P4 O4 ⊢
  generalize w4.heap.size = b8 at O4 Z4 ⊢
  have hg1 := blk_guard
  have hg2 := ino_guard
  by_cases k : e = 0
  rotate_left
  focus
    have k1 : (e == 0) = false := by simpa using k
    have P8 := Lib.hid P4.out
    clear k P4 O4 Z4 OLD FO
    go_upto_region 9 with fail
    obtain ⟨w5', hw5⟩ : ∃ wz, wz = w5 := ⟨_, rfl⟩
    subst hw5
  rotate_left
  focus
    obtain ⟨o1, o2⟩ := OLD.out k
    subst k
    have CP : Hid (∀ b W, BVar W b X → Calls Try.prog 10 #[.pointer (some ⟨b, 0, none⟩), .int .i64 at_, .agg (ics old)] W fun e' w' => e' = .returned (.int .i64 0) ∧ BVar w' b X ∧ Only b W w') := Lib.hid fun b W h => by have := HS.out.put b X at_ old W h a0 a1 FO.out; rwa [o1] at this
    have CM : Hid (∀ W, Calls Try.prog 12 #[.agg (ics old)] W fun e' w' => e' = .returned (.bool true) ∧ Below W.heap.size W w') := Lib.hid fun W => by have := HS.out.may old W FO.out; rwa [o2] at this
    have heB := fun W => equalIn_blk X X W
    simp only [decide_true] at heB
    clear o1 o2 OLD FO
    go_upto_region 7 with (first
      | (refine load_blk rfl (.tmp 3) rfl w.heap.size 0 rfl X P4.out.blk.at ?_)
      | (refine store_newB rfl (.tmp 10) (.tmp 25) rfl X rfl rfl ?_))
    have bn := below_new w5 (.cells (arr X) 23)
    have P5 := Lib.hid (P4.out.below bn)
    have O5 := Lib.hid (O4.out.below bn)
    have D5 := Lib.hid (show BVar (w5.alloc (.cells (arr X) 23)) w5.heap.size X from heap_alloc_new w5 _)
    have Z5 : Hid (b7 < w5.heap.size ∧ b8 < w5.heap.size) := Lib.hid ⟨P4.out.c.lt, O4.out.lt⟩
    clear bn P4 O4 Z4
    generalize w5.alloc (.cells (arr X) 23) = w6 at P5 O5 D5 ⊢
    generalize w5.heap.size = b10 at D5 Z5 ⊢
    go_upto_region 9 with (first
      | (refine load_ino rfl (.tmp 8) rfl b8 0 rfl old O5.out.at ?_)
      | (go_at_call 10; with_reducible refine (CP.out _ _ D5.out).mono ?_; rintro e' w7 ⟨rfl, hv, ho⟩; have P7 := Lib.hid (P5.out.other ho Z5.out.1); have O7 := Lib.hid (ho.ino (by have := Z5.out; omega) O5.out); have D7 := Lib.hid hv; clear hv ho P5 O5 D5)
      | (refine load_blk_w (by with_unfolding_all rfl) (.tmp 10) rfl b10 0 rfl X D7.out.at ?_)
      | (refine load_blk_w (by with_unfolding_all rfl) (.tmp 3) rfl w.heap.size 0 rfl X P7.out.blk.at ?_)
      | (refine load_ino_w (by with_unfolding_all rfl) (.tmp 8) rfl b8 0 rfl old O7.out.at ?_)
      | (go_at_call 12; with_reducible refine (CM.out _).mono ?_; rintro e' w8 ⟨rfl, hb⟩))
    have P8 := Lib.hid (P7.out.below hb)
    clear hb P7 O7 D7 CP CM heB Z5
    obtain ⟨w5', hw5⟩ : ∃ wz, wz = w8 := ⟨_, rfl⟩
    subst hw5
  all_goals
    by_cases k : f = 0
    rotate_left
    · obtain rfl : Y = X := KEPT.out k
      have k1 : (f != 0) = true := by simpa using k
      have heB := fun W => equalIn_blk Y Y W
      simp only [decide_true] at heB
      clear k KEPT BACK
      go_wp2_with (first
        | (refine load_ino rfl (.tmp 5) rfl (w.heap.size + 1) 0 rfl x P8.out.x.at ?_)
        | (go_at_call 10; with_reducible refine (C2.out _ _ P8.out.c).mono ?_; rintro e' w9 ⟨rfl, hv, ho⟩; have P9 := Lib.hid (P8.out.set7 ho hv); clear hv ho)
        | (refine load_blk rfl (.tmp 7) rfl b7 0 rfl Y P9.out.c.at ?_)
        | (refine load_blk rfl (.tmp 3) rfl w.heap.size 0 rfl Y P9.out.blk.at ?_))
      go_ret
      exact ⟨rfl, P9.out.low⟩
    obtain ⟨g1, g2, g3⟩ := BACK.out k
    subst k
    obtain ⟨a, rfl, ha⟩ := g2.nat
    have C3 : Hid (∀ W, Calls Try.prog 14 #[.agg (arr Y), .int .i64 (a : Int)] W fun e' w' => e' = .returned (.tuple #[.agg (ics x), .int .i64 0]) ∧ Below W.heap.size W w') := Lib.hid fun W => by have := HS.out.get Y a W a0 a1; rwa [g1] at this
    have OFF : Hid (∀ i : Nat, i < a ∨ a + 64 ≤ i → Y.f i = X.f i) := Lib.hid fun i hi => g3 i (by omega)
    have ha2 : a + 64 ≤ 256 := by omega
    have he := fun W => equalIn_ino x x W
    simp only [decide_true] at he
    clear g1 g2 g3 KEPT BACK ha
    go_upto_region 11 with (first
      | (refine load_ino rfl (.tmp 5) rfl (w.heap.size + 1) 0 rfl x P8.out.x.at ?_)
      | (go_at_call 10; with_reducible refine (C2.out _ _ P8.out.c).mono ?_; rintro e' w9 ⟨rfl, hv, ho⟩; have P9 := Lib.hid (P8.out.set7 ho hv); clear hv ho))
    clear P8 C2
    go_upto_region 12 with (first
      | (refine load_blk rfl (.tmp 7) rfl b7 0 rfl Y P9.out.c.at ?_)
      | (go_at_call 14; with_reducible refine (C3.out _).mono ?_; rintro e' wa ⟨rfl, hb⟩)
      | (refine store_newI rfl (.tmp 11) (.tmp 51) rfl x rfl rfl ?_))
    have bn := below_new wa (.cells (ics x) 27)
    have PA := Lib.hid ((P9.out.below hb).below bn)
    have YA := Lib.hid (show IVar (wa.alloc (.cells (ics x) 27)) wa.heap.size x from heap_alloc_new wa _)
    clear hb bn P9 C3
    generalize wa.alloc (.cells (ics x) 27) = wb at PA YA ⊢
    generalize wa.heap.size = b11 at YA ⊢
    go_upto_region 14 with (first
      | (refine load_ino_w (by with_unfolding_all rfl) (.tmp 11) rfl b11 0 rfl x YA.out.at ?_)
      | (refine load_ino_w (by with_unfolding_all rfl) (.tmp 5) rfl (w.heap.size + 1) 0 rfl x PA.out.x.at ?_))
    clear YA he
    have w64 : IntKind.i64.wrap ((a : Int) + 64) = (a : Int) + 64 := by rw [IntKind.wrap_i64]; omega
    go_wp2_with fail
    go_loopw [13] (fun i wr => ∃ j : Nat, j ≤ 256 ∧ i = .int .i64 j ∧ BK w X x b7 Y wr) (fun i _ => 256 - (intOf i).toNat)
    case atStart => exact ⟨0, Nat.zero_le _, rfl, PA.out⟩
    case round =>
      obtain ⟨j, hj, rfl, hbk⟩ := hrel
      have PB := Lib.hid hbk
      clear hbk PA
      by_cases hlt : j < 256
      · have cy := (PB.out.drewN 1).c.at.cell (i := j) hlt
        have cx := (PB.out.drewN 1).blk.at.cell (i := j) hlt
        rw [Nat.zero_add] at cy cx
        rw [show wr.drewN 1 = wr.drew from rfl] at cy cx
        have jl : (j : Int) < 256 := by omega
        go_upto_region 17 with fail
        by_cases n1 : j < a
        · have OJ := OFF.out j (.inl n1)
          have u1 : decide ((j : Int) < (a : Int)) = true := by simp; omega
          have v1 : decide (j < a) = true := by simp; omega
          rw [OJ] at cy
          clear OJ n1
          refine wp_region_class (fun W' => W' = wr.drew) (by kernel_rfl) (by kernel_rfl) rfl ?_
          repeat (first | go_big_quiet_skip | (go_big_quiet_want; first | (refine quiet_u8 (.tmp 75) rfl ⟨b7, j, none⟩ rfl _ (by intro w' hw'; rw [hw']; exact cy) ?_; simp only [Act.put, List.setIfInBounds_toArray, List.set_cons_zero, List.set_cons_succ]; go_big_quiet_on) | (refine quiet_u8 (.tmp 78) rfl ⟨w.heap.size, j, none⟩ rfl _ (by intro w' hw'; rw [hw']; exact cx) ?_; simp only [Act.put, List.setIfInBounds_toArray, List.set_cons_zero, List.set_cons_succ]; go_big_quiet_on) | (go_big_quiet_op; first | go_big_quiet_on | (apply Exists.intro; refine ⟨fun _ _ => ?_, ?_⟩; (with_reducible exact rfl); go_big_quiet_on))))
          refine wpQuiet_nil ?_
          rintro wz rfl
          go_wp2
          go_roundw
          case rel => exact ⟨j + 1, by omega, by congr 1, PB.out.drewN 1⟩
          case measure => simp [intOf]; omega
        have u1 : decide ((j : Int) < (a : Int)) = false := by simp; omega
        have v1 : decide (j < a) = false := by simp; omega
        by_cases n2 : a + 64 ≤ j
        · have OJ := OFF.out j (.inr n2)
          have u2 : decide ((a : Int) + 64 ≤ (j : Int)) = true := by simp; omega
          have v2 : decide (a + 64 ≤ j) = true := by simp; omega
          rw [OJ] at cy
          clear OJ n1 n2
          refine wp_region_class (fun W' => W' = wr.drew) (by kernel_rfl) (by kernel_rfl) rfl ?_
          repeat (first | go_big_quiet_skip | (go_big_quiet_want; first | (refine quiet_u8 (.tmp 75) rfl ⟨b7, j, none⟩ rfl _ (by intro w' hw'; rw [hw']; exact cy) ?_; simp only [Act.put, List.setIfInBounds_toArray, List.set_cons_zero, List.set_cons_succ]; go_big_quiet_on) | (refine quiet_u8 (.tmp 78) rfl ⟨w.heap.size, j, none⟩ rfl _ (by intro w' hw'; rw [hw']; exact cx) ?_; simp only [Act.put, List.setIfInBounds_toArray, List.set_cons_zero, List.set_cons_succ]; go_big_quiet_on) | (go_big_quiet_op; first | go_big_quiet_on | (apply Exists.intro; refine ⟨fun _ _ => ?_, ?_⟩; (with_reducible exact rfl); go_big_quiet_on))))
          refine wpQuiet_nil ?_
          rintro wz rfl
          go_wp2
          go_roundw
          case rel => exact ⟨j + 1, by omega, by congr 1, PB.out.drewN 1⟩
          case measure => simp [intOf]; omega
        · have u2 : decide ((a : Int) + 64 ≤ (j : Int)) = false := by simp; omega
          have v2 : decide (a + 64 ≤ j) = false := by simp; omega
          clear n1 n2
          refine wp_region_class (fun W' => W' = wr.drew) (by kernel_rfl) (by kernel_rfl) rfl ?_
          repeat (first | go_big_quiet_skip | (go_big_quiet_want; first | (refine quiet_u8 (.tmp 75) rfl ⟨b7, j, none⟩ rfl _ (by intro w' hw'; rw [hw']; exact cy) ?_; simp only [Act.put, List.setIfInBounds_toArray, List.set_cons_zero, List.set_cons_succ]; go_big_quiet_on) | (refine quiet_u8 (.tmp 78) rfl ⟨w.heap.size, j, none⟩ rfl _ (by intro w' hw'; rw [hw']; exact cx) ?_; simp only [Act.put, List.setIfInBounds_toArray, List.set_cons_zero, List.set_cons_succ]; go_big_quiet_on) | (go_big_quiet_op; first | go_big_quiet_on | (apply Exists.intro; refine ⟨fun _ _ => ?_, ?_⟩; (with_reducible exact rfl); go_big_quiet_on))))
          refine wpQuiet_nil ?_
          rintro wz rfl
          go_wp2
          go_roundw
          case rel => exact ⟨j + 1, by omega, by congr 1, PB.out.drewN 1⟩
          case measure => simp [intOf]; omega
      · obtain rfl : j = 256 := by omega
        go_wp2
        go_ret
        exact ⟨rfl, PB.out.low⟩
end Go.Proofs.Ytfijagjkgmhimaa
