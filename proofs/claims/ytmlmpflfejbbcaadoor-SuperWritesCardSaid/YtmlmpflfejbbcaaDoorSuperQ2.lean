import Derived.Test.YtmlmpflfejbbcaaDoorSuperQ1
namespace Go.Proofs.YtmlmpflfejbbcaaDoor
open Go.RowKit CrcM

theorem Only.blk {g b : Nat} {w w' : World} {X : Blk} (h : Only g w w') (hne : b ≠ g) (hs : BVar w b X) : BVar w' b X := (h.block b hs.lt (fun e => hne (Option.some.inj e))).trans hs
theorem Only.geo {g b : Nat} {w w' : World} {X : GeoV} (h : Only g w w') (hne : b ≠ g) (hs : GVar w b X) : GVar w' b X := (h.block b hs.lt (fun e => hne (Option.some.inj e))).trans hs
set_option maxRecDepth 100000 in
set_option maxHeartbeats 2000000 in
theorem rsealed_any (X : Blk) (w : World) : Calls Tryd.prog 27 #[.agg (arr X)] w fun e w' => e = .returned (.agg (arr (sealB X))) ∧ Below w.heap.size w w' := by
  have hz := fun W => zero_blk W
  have b1 := below_new w (.cells (arr X) 29)
  have b2 := below_new (w.alloc (.cells (arr X) 29)) (.cells (arr .zero) 29)
  have q1 : BVar (w.alloc (.cells (arr X) 29)) w.heap.size X := heap_alloc_new w _
  have q2 : BVar ((w.alloc (.cells (arr X) 29)).alloc (.cells (arr .zero) 29)) (w.heap.size + 1) .zero := heap_alloc2_new w _ _
  have V1 := Lib.hid (q1.below b2)
  have N1 := Lib.hid q2
  have B1 := Lib.hid (b1.trans (b2.mono (by simp)))
  clear b1 b2 q1 q2
  go_enter Tryd.func27, Tryd.ntmps27
  go_wp2_with fail
  generalize (w.alloc (.cells (arr X) 29)).alloc (.cells (arr .zero) 29) = w1 at V1 N1 B1 ⊢
  go_region_with (first
    | (go_at_call 36; refine (rSum_any (some ⟨w.heap.size, 0, none⟩) 252 256 X.f _ (by omega) ((V1.out.drewN 1).row0 (by omega))).mono ?_; rintro e w2 ⟨rfl, rfl⟩; rw [show sum X.f 252 = sumB X from rfl])
    | (go_at_call 25; refine (rput32_b w.heap.size 252 (sumB X) X _ (V1.out.drewN 1) (by omega) (sumB_lt X)).mono ?_; rintro e w3 ⟨rfl, hv3, ho3⟩; have V3 : Hid (BVar w3 w.heap.size (sealB X)) := Lib.hid hv3; have O3 := Lib.hid ((Only.drewN w.heap.size w1 1).trans ho3); clear hv3 ho3))
  have N3 := Lib.hid (O3.out.blk (by omega) N1.out)
  have B3 := Lib.hid (B1.out.trans (O3.out.below (B := w.heap.size) (Nat.le_refl _) B1.out.size))
  go_wp2_with (first
    | (refine load_blk rfl (.tmp 1) rfl w.heap.size 0 rfl (sealB X) V3.out.at ?_)
    | (refine store_row rfl (.tmp 2) (.tmp 7) rfl (w.heap.size + 1) (sealB X) .zero 29 rfl rfl N3.out ?_))
  exact bodyPost_ret (v := .agg (arr (sealB X))) (results_blk Tryd.results27 _ _ (w.heap.size + 1) (sealB X) _ rfl (setRow_heap _ _ _ _ _ _ N3.out)) rfl ⟨rfl, below_setRow B3.out (by omega) _⟩
/-- While a superblock is written: the numbers' block is b, the superblock stands at a. -/
structure WS (w0 : World) (b : Nat) (s : SuperV) (X : Blk) (w : World) : Prop where
  low : Below w0.heap.size w0 w
  sup : SVar w w0.heap.size s
  ans : BVar w (w0.heap.size + 1) .zero
  blk : BVar w b X
theorem WS.only {w0 w w' : World} {b : Nat} {s : SuperV} {X Y : Blk} (h : WS w0 b s X w) (ho : Only b w w') (hv : BVar w' b Y) (hb : w0.heap.size + 2 ≤ b) : WS w0 b s Y w' :=
  ⟨h.low.trans (ho.below (by omega) h.low.size), ho.super (by omega) h.sup, ho.blk (by omega) h.ans, hv⟩
theorem WS.drewN {w0 w : World} {b : Nat} {s : SuperV} {X : Blk} (h : WS w0 b s X w) (n : Nat) : WS w0 b s X (w.drewN n) := ⟨⟨h.low.os, h.low.tape, h.low.output, h.low.size, h.low.block⟩, h.sup, h.ans, h.blk⟩
set_option maxRecDepth 100000 in
set_option maxHeartbeats 4000000 in
theorem rWrite (s : SuperV) (w : World) (hs : s.Fits) :
    Calls Tryd.prog 12 #[.agg (scs s)] w fun e w' => e = .returned (.tuple #[.agg (arr (writeS s).1), .int .i64 (writeS s).2]) ∧ Below w.heap.size w w' := by
  have hz := fun W => zero_blk W
  have b1 := below_new w (.cells (scs s) 26)
  have b2 := below_new (w.alloc (.cells (scs s) 26)) (.cells (arr .zero) 29)
  have q1 : SVar (w.alloc (.cells (scs s) 26)) w.heap.size s := heap_alloc_new w _
  have q2 : BVar ((w.alloc (.cells (scs s) 26)).alloc (.cells (arr .zero) 29)) (w.heap.size + 1) .zero := heap_alloc2_new w _ _
  have V1 := Lib.hid (q1.below b2)
  have N1 := Lib.hid q2
  have B1 := Lib.hid (b1.trans (b2.mono (by simp)))
  have HS := Lib.hid hs
  clear b1 b2 q1 q2 hs
  go_enter Tryd.func12, Tryd.ntmps12
  go_wp2_with (first | (refine load_geo rfl (.tmp 5) rfl w.heap.size 0 rfl s.g V1.out.geo ?_))
  generalize (w.alloc (.cells (scs s) 26)).alloc (.cells (arr .zero) 29) = w1 at V1 N1 B1 ⊢
  refine (rMay s.g w1).mono ?_
  rintro e w2 ⟨rfl, hb⟩
  have V2 := Lib.hid (V1.out.below hb)
  have N2 := Lib.hid (N1.out.below hb)
  have B2 := Lib.hid (B1.out.trans (hb.mono B1.out.size))
  clear hb V1 N1 B1
  have c0 := V2.out.c0; have c1 := V2.out.c1; have c2 := V2.out.c2; have c3 := V2.out.c3; have c4 := V2.out.c4
  by_cases hm : May s.g
  · rw [may_true hm]
    have M := Lib.hid hm
    have ho4 := HS.out.o
    have hb : 0 ≤ s.g.gr * s.g.ino ∧ s.g.gr * s.g.ino ≤ 256 := by
      obtain ⟨h1, h2, h3, h4, h5, h6, h7, h8, h9, h10, h11⟩ := hm
      exact ⟨Int.mul_nonneg (by omega) (by omega), by have := Int.mul_le_mul h2 h6 (by omega) (by omega); omega⟩
    have wm : IntKind.i64.wrap (s.g.gr * s.g.ino) = s.g.gr * s.g.ino := by rw [IntKind.wrap_i64]; omega
    have wm1 : -9223372036854775808 ≤ s.g.gr * s.g.ino := by omega
    have wm2 : s.g.gr * s.g.ino ≤ 9223372036854775807 := by omega
    have wo : IntKind.i64.wrap ((s.o : Nat) : Int) = s.o := by rw [IntKind.wrap_i64]; omega
    clear hm
    by_cases ho : ((s.o : Nat) : Int) ≤ s.g.gr * s.g.ino
    · have t1 : decide (s.g.gr * s.g.ino < ((s.o : Nat) : Int)) = false := decide_eq_false (by omega)
      have EW := Lib.hid (writeS_may ⟨M.out, ho⟩)
      have SM := Lib.hid (M.out.small HS.out.o)
      clear ho hb ho4
      go_upto_region 6 with fail
      have W0 : Hid (WS w w2.heap.size s .zero (w2.alloc (.cells (arr .zero) 29))) := Lib.hid (by
        have bn := below_new w2 (.cells (arr .zero) 29)
        exact ⟨B2.out.trans (bn.mono B2.out.size), V2.out.below bn, N2.out.below bn, heap_alloc_new w2 _⟩)
      have hb2 : w.heap.size + 2 ≤ w2.heap.size := N2.out.lt
      have n0 := Lib.hid (show s.g.gr = ((s.g.gr.toNat : Nat) : Int) by have := SM.out.gr0; omega)
      have n1 := Lib.hid (show s.g.sz = ((s.g.sz.toNat : Nat) : Int) by have := SM.out.sz0; omega)
      have n2 := Lib.hid (show s.g.ino = ((s.g.ino.toNat : Nat) : Int) by have := SM.out.ino0; omega)
      have n3 := Lib.hid (show s.g.jr = ((s.g.jr.toNat : Nat) : Int) by have := SM.out.jr0; omega)
      have r0 : s.g.gr.toNat < 65536 := by have := SM.out.gr; omega
      have r1 : s.g.sz.toNat < 65536 := by have := SM.out.sz; omega
      have r2 : s.g.ino.toNat < 65536 := by have := SM.out.ino; omega
      have r3 : s.g.jr.toNat < 65536 := by have := SM.out.jr; omega
      have hE0 : superB s = sealB (putB32 (putB16 (putB16 (putB16 (putB16 (putB16 (putB16 (putB32 .zero 0 827216465) 4 1) 6 256) 8 s.g.gr.toNat) 10 s.g.sz.toNat) 12 s.g.ino.toNat) 14 s.g.jr.toNat) 16 s.o) := by unfold superB superB0; rfl
      have E0 := Lib.hid hE0
      clear hE0
      generalize s.g.gr.toNat = x0 at n0 r0 E0
      generalize s.g.sz.toNat = x1 at n1 r1 E0
      generalize s.g.ino.toNat = x2 at n2 r2 E0
      generalize s.g.jr.toNat = x3 at n3 r3 E0
      have U0 := Lib.hid (show ((x0 : Nat) : Int) % 4294967296 = x0 by omega)
      have U1 := Lib.hid (show ((x1 : Nat) : Int) % 4294967296 = x1 by omega)
      have U2 := Lib.hid (show ((x2 : Nat) : Int) % 4294967296 = x2 by omega)
      have U3 := Lib.hid (show ((x3 : Nat) : Int) % 4294967296 = x3 by omega)
      have Y0 := Lib.hid (show IntKind.u32.wrap ((x0 : Nat) : Int) = x0 by rw [IntKind.wrap_u32]; omega)
      have R0 := Lib.hid (show x0 ≤ 65535 by omega)
      have Y1 := Lib.hid (show IntKind.u32.wrap ((x1 : Nat) : Int) = x1 by rw [IntKind.wrap_u32]; omega)
      have R1 := Lib.hid (show x1 ≤ 65535 by omega)
      have Y2 := Lib.hid (show IntKind.u32.wrap ((x2 : Nat) : Int) = x2 by rw [IntKind.wrap_u32]; omega)
      have R2 := Lib.hid (show x2 ≤ 65535 by omega)
      have Y3 := Lib.hid (show IntKind.u32.wrap ((x3 : Nat) : Int) = x3 by rw [IntKind.wrap_u32]; omega)
      have R3 := Lib.hid (show x3 ≤ 65535 by omega)
      clear V2 N2 B2 c0 c1 c2 c3 c4 wm wm1 wm2 wo t1 r0 r1 r2 r3
      generalize w2.alloc (.cells (arr .zero) 29) = w3 at W0 ⊢
      generalize w2.heap.size = b at W0 hb2 ⊢
      go_wp2_with fail
      refine (rput32_b b 0 827216465 _ w3 W0.out.blk (by omega) (by omega)).mono ?_
      rintro e v1 ⟨rfl, hv, ho⟩
      have W1 := Lib.hid (W0.out.only ho hv hb2)
      clear hv ho W0
      go_wp2_with fail
      refine (rput16_b b 4 1 _ v1 W1.out.blk (by omega) (by omega)).mono ?_
      rintro e v2 ⟨rfl, hv, ho⟩
      have W2 := Lib.hid (W1.out.only ho hv hb2)
      clear hv ho W1
      go_wp2_with fail
      refine (rput16_b b 6 256 _ v2 W2.out.blk (by omega) (by omega)).mono ?_
      rintro e v3 ⟨rfl, hv, ho⟩
      have W3 := Lib.hid (W2.out.only ho hv hb2)
      clear hv ho W2
      have d0 := W3.out.sup.c0
      rw [n0.out] at d0
      have u0 := U0.out
      have y0 := Y0.out
      go_wp2_with fail
      go_region_with (first
        | (go_at_call 26; refine (rput16_b b 8 x0 _ _ (W3.out.drewN 1).blk (by omega) R0.out).mono ?_; rintro e v4 ⟨rfl, hv, ho⟩; have W4 := Lib.hid ((W3.out.drewN 1).only ho hv hb2); clear hv ho W3))
      have d1 := W4.out.sup.c1
      rw [n1.out] at d1
      have u1 := U1.out
      have y1 := Y1.out
      go_wp2_with fail
      go_region_with (first
        | (go_at_call 26; refine (rput16_b b 10 x1 _ _ (W4.out.drewN 1).blk (by omega) R1.out).mono ?_; rintro e v5 ⟨rfl, hv, ho⟩; have W5 := Lib.hid ((W4.out.drewN 1).only ho hv hb2); clear hv ho W4))
      have d2 := W5.out.sup.c2
      rw [n2.out] at d2
      have u2 := U2.out
      have y2 := Y2.out
      go_wp2_with fail
      go_region_with (first
        | (go_at_call 26; refine (rput16_b b 12 x2 _ _ (W5.out.drewN 1).blk (by omega) R2.out).mono ?_; rintro e v6 ⟨rfl, hv, ho⟩; have W6 := Lib.hid ((W5.out.drewN 1).only ho hv hb2); clear hv ho W5))
      have d3 := W6.out.sup.c3
      rw [n3.out] at d3
      have u3 := U3.out
      have y3 := Y3.out
      go_wp2_with fail
      go_region_with (first
        | (go_at_call 26; refine (rput16_b b 14 x3 _ _ (W6.out.drewN 1).blk (by omega) R3.out).mono ?_; rintro e v7 ⟨rfl, hv, ho⟩; have W7 := Lib.hid ((W6.out.drewN 1).only ho hv hb2); clear hv ho W6))
      have d4 := W7.out.sup.c4
      go_wp2_with fail
      go_region_with (first
        | (go_at_call 25; refine (rput32_b b 16 s.o _ _ (W7.out.drewN 1).blk (by omega) SM.out.o).mono ?_; rintro e v8 ⟨rfl, hv, ho⟩; have W8 := Lib.hid ((W7.out.drewN 1).only ho hv hb2); clear hv ho W7))
      go_wp2_with (first | (refine load_blk rfl (.tmp 4) rfl b 0 rfl _ W8.out.blk.at ?_))
      refine (rsealed_any _ v8).mono ?_
      rintro e v9 ⟨rfl, hb⟩
      rw [← E0.out]
      have N9 := Lib.hid (W8.out.ans.below hb)
      have B9 := Lib.hid (W8.out.low.trans (hb.mono W8.out.low.size))
      clear hb
      go_wp2_with (first
        | (refine store_row rfl (.tmp 2) (.tmp 57) rfl (w.heap.size + 1) (superB s) .zero 29 rfl rfl N9.out ?_))
      exact bodyPost_ret (results_blk_err Tryd.results12 _ _ (w.heap.size + 1) (superB s) _ _ rfl rfl (setRow_heap _ _ _ _ _ _ N9.out)) rfl ⟨by rw [EW.out], below_setRow B9.out (by omega) _⟩
    · have t1 : decide (s.g.gr * s.g.ino < ((s.o : Nat) : Int)) = true := decide_eq_true (by omega)
      have EW := Lib.hid (writeS_arg M.out ho)
      clear ho hb ho4
      go_wp2_with (first
        | (refine build_zeroB rfl rfl ?_)
        | (refine store_row rfl (.tmp 2) (.tmp 21) rfl (w.heap.size + 1) .zero .zero 29 rfl rfl N2.out ?_))
      exact bodyPost_ret (results_blk_err Tryd.results12 _ _ (w.heap.size + 1) .zero _ _ rfl rfl (setRow_heap _ _ _ _ _ _ N2.out)) rfl ⟨by rw [EW.out], below_setRow B2.out (by omega) _⟩
  · rw [may_false hm]
    have EW := Lib.hid (writeS_geo hm)
    clear hm
    go_wp2_with (first
      | (refine build_zeroB rfl rfl ?_)
      | (refine store_row rfl (.tmp 2) (.tmp 9) rfl (w.heap.size + 1) .zero .zero 29 rfl rfl N2.out ?_))
    exact bodyPost_ret (results_blk_err Tryd.results12 _ _ (w.heap.size + 1) .zero _ _ rfl rfl (setRow_heap _ _ _ _ _ _ N2.out)) rfl ⟨by rw [EW.out], below_setRow B2.out (by omega) _⟩
end Go.Proofs.YtmlmpflfejbbcaaDoor
