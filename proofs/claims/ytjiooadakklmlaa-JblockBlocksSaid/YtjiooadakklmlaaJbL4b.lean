import Derived.Test.YtjiooadakklmlaaJbL4
namespace Go.Proofs.Ytjiooadakklmlaa
open Go.RowKit

/-! JblockBlocks: a block of one kind, or of none. -/
set_option maxRecDepth 100000 in
set_option maxHeartbeats 16000000 in
theorem jBlocks1 (hS : JSays) (X Z : Blk) (sq : Nat) (w : World) (HK : ∀ W, Calls Try.prog 25 #[.agg (arr X)] W fun e w' => e = .returned (.tuple #[.int .u8 1, .int .u32 (sq : Int)]) ∧ Below W.heap.size W w') (H4 : HeadRW X 0 90 Z 2) (H1 : DescRW X sq 0 X 0) (H3 : RevRW X 0 90 Z 2) (H2 : ComRW X 0 90 Z 2) : Calls Try.prog 6 #[.agg (arr X)] w fun e w' => e = .returned (.bool true) ∧ Below w.heap.size w w' := by
  have hz := fun W => zero_head W
  have hzb := fun W => zero_blk W
  have hg := blk_guard
  have heX := fun W => equalIn_blk X X W
  simp only [decide_true] at heX
  have V := Lib.hid (show BVar (w.alloc (.cells (arr X) 28)) w.heap.size X from heap_alloc_new w _)
  have B := Lib.hid (below_new w (.cells (arr X) 28))
  have CA := Lib.hid fun W => jAwake hS W
  have CK := Lib.hid HK
  obtain ⟨st, h4a, h4b⟩ := H4
  obtain ⟨n1, T1, t1, h1a, h1b⟩ := H1
  obtain ⟨n3, T3, t3, h3a, h3b⟩ := H3
  obtain ⟨ct, sm, h2a, h2b⟩ := H2
  obtain ⟨hd, hhd⟩ : ∃ hd : HeadV, (⟨0, st⟩ : HeadV) = hd := ⟨_, rfl⟩
  have hsq : hd.seq = 0 := by rw [← hhd]
  rw [hhd] at h4a h4b
  simp only [show ((0 : Nat) : Int) = 0 from rfl] at h2a h2b
  simp only [show ((0 : Nat) : Int) = 0 from rfl] at h3a h3b
  have RH := Lib.hid h4a
  have WH := Lib.hid h4b
  have RD := Lib.hid h1a
  have WD := Lib.hid h1b
  have RR := Lib.hid h3a
  have WR := Lib.hid h3b
  have RC := Lib.hid h2a
  have WC := Lib.hid h2b
  have K1 := Lib.hid t1
  have K3 := Lib.hid t3
  clear hS HK h4a h4b h1a h1b h3a h3b h2a h2b t1 t3 hhd
  go_enter Try.func6, Try.ntmps6
  go_upto_region 1 with fail
  generalize w.alloc (.cells (arr X) 28) = w1 at V B ⊢
  go_upto_region 5 with (first
    | (go_at_call 35; with_reducible refine (CA.out _).mono ?_; rintro e w2 ⟨rfl, hb⟩; have V2 := Lib.hid (V.out.below hb); have B2 := Lib.hid (low_go B.out hb); clear hb)
    | (refine load_blk rfl (.tmp 1) rfl w.heap.size 0 rfl X V2.out.at ?_)
    | (go_at_call 25; with_reducible refine (CK.out _).mono ?_; rintro e w3 ⟨rfl, hb⟩; have V3 := Lib.hid (V2.out.below hb); have B3 := Lib.hid (low_go B2.out hb); clear hb)
    | (refine load_blk rfl (.tmp 1) rfl w.heap.size 0 rfl X V3.out.at ?_)
    | (go_at_call 21; with_reducible refine (RH.out _).mono ?_; rintro e w4 ⟨rfl, hb⟩)
    | (refine store_newH rfl (.tmp 5) (.tmp 29) rfl hd rfl rfl ?_))
  have V5 := Lib.hid ((V3.out.below hb).below (newH_low w4 hd))
  have B5 := Lib.hid (newH_go (low_go B3.out hb) hd)
  have H5 := Lib.hid (newH_var w4 hd)
  clear hb V B V2 B2 V3 B3 CA CK RH hz
  generalize newH w4 hd = w5 at V5 B5 H5 ⊢
  generalize w4.heap.size = bh at H5 ⊢
  go_upto_region 8 with (first
    | (refine load_blk rfl (.tmp 1) rfl w.heap.size 0 rfl X V5.out.at ?_)
    | (go_at_call 29; with_reducible refine (RD.out _).mono ?_; rintro e w6 ⟨⟨A1, c1, rfl, hT⟩, hb⟩; have V6 := Lib.hid (V5.out.below hb); have H6 := Lib.hid (H5.out.below hb); have B6 := Lib.hid (low_go B5.out hb); have D6 := Lib.hid hT; clear hb hT)
    | (refine load_blk rfl (.tmp 1) rfl w.heap.size 0 rfl X V6.out.at ?_)
    | (go_at_call 30; with_reducible refine (RR.out _).mono ?_; rintro e w7 ⟨⟨A3, c3, rfl, hT⟩, hb⟩; have V7 := Lib.hid (V6.out.below hb); have H7 := Lib.hid (H6.out.below hb); have B7 := Lib.hid (low_go B6.out hb); have D7 := Lib.hid (K1.out _ _ _ D6.out hb); have R7 := Lib.hid hT; clear hb hT)
    | (refine load_blk rfl (.tmp 1) rfl w.heap.size 0 rfl X V7.out.at ?_)
    | (go_at_call 23; with_reducible refine (RC.out _).mono ?_; rintro e w8 ⟨rfl, hb⟩))
  have V8 := Lib.hid (V7.out.below hb)
  have H8 := Lib.hid (H7.out.below hb)
  have B8 := Lib.hid (low_go B7.out hb)
  have D8 := Lib.hid (K1.out _ _ _ D7.out hb)
  have R8 := Lib.hid (K3.out _ _ _ R7.out hb)
  clear hb V5 H5 B5 V6 H6 B6 D6 V7 H7 B7 D7 R7 RD RR RC
  go_upto_region 9 with (first
    | (refine load_head rfl (.tmp 5) rfl bh 0 rfl hd H8.out.at ?_)
    | (go_at_call 11; with_reducible refine (WH.out _).mono ?_; rintro e w9 ⟨rfl, hb⟩; have V9 := Lib.hid (V8.out.below hb); have H9 := Lib.hid (H8.out.below hb); have B9 := Lib.hid (low_go B8.out hb); have D9 := Lib.hid (K1.out _ _ _ D8.out hb); have R9 := Lib.hid (K3.out _ _ _ R8.out hb); clear hb V8 H8 B8 D8 R8 WH)
    | (refine store_newG rfl (.tmp 17) (.tmp 53) rfl Z rfl rfl ?_; intro wa hF hQ; have Fa := Lib.hid hF; have Qa := Lib.hid hQ; have LE := Lib.hid (Nat.le_refl w9.heap.size); clear hF hQ hzb))
  obtain ⟨bt, hbt⟩ : ∃ bt, w9.heap.size = bt := ⟨_, rfl⟩
  have Qa : Hid (BVar wa bt Z) := Lib.hid (by rw [← hbt]; exact Qa.out)
  have LE : Hid (w9.heap.size ≤ bt) := Lib.hid (by rw [hbt]; exact Nat.le_refl _)
  simp only [hbt]
  clear hbt
  have hq : wa.cell? ⟨bh, 0, none⟩ = some (.int .u32 0) := by
    have := (H9.out.below Fa.out).seq
    rw [hsq] at this
    exact this
  have Da := Lib.hid (K1.out _ _ _ D9.out Fa.out)
  go_upto_region 11 with fail
  clear hq
  go_upto_region 12 with (first
    | (go_at_call 13; with_reducible refine (WD.out _ _ _ Da.out).mono ?_; rintro e wb ⟨rfl, hb⟩; have Qb := Lib.hid (Qa.out.below hb); have Fb := Lib.hid (low_go Fa.out hb); clear hb Qa Fa Da WD)
    | (refine store_rowG rfl (.tmp 17) (.tmp 80) rfl bt X Z rfl rfl Qb.out Fb.out LE.out ?_; intro wc hF hQ; have Fc := Lib.hid hF; have Qc := Lib.hid hQ; clear hF hQ Qb Fb))
  have Vc := Lib.hid (V9.out.below Fc.out)
  have Rc := Lib.hid (K3.out _ _ _ R9.out Fc.out)
  go_upto_region 14 with (first
    | (refine load_blk_h (.tmp 17) rfl bt 0 rfl X Qc.out.at rfl ?_)
    | (refine load_blk_h (.tmp 1) rfl w.heap.size 0 rfl X Vc.out.at rfl ?_))
  clear Vc
  go_upto_region 15 with (first
    | (go_at_call 15; with_reducible refine (WR.out _ _ _ Rc.out).mono ?_; rintro e wd ⟨rfl, hb⟩; have Qd := Lib.hid (Qc.out.below hb); have Fd := Lib.hid (low_go Fc.out hb); clear hb Qc Fc Rc WR)
    | (refine store_rowG rfl (.tmp 17) (.tmp 106) rfl bt Z X rfl rfl Qd.out Fd.out LE.out ?_; intro we hF hQ; have Fe := Lib.hid hF; have Qe := Lib.hid hQ; clear hF hQ Qd Fd))
  go_upto_region 17 with fail
  go_upto_region 18 with (first
    | (go_at_call 17; with_reducible refine (WC.out _).mono ?_; rintro e wf ⟨rfl, hb⟩; have Qf := Lib.hid (Qe.out.below hb); have Ff := Lib.hid (low_go Fe.out hb); clear hb Qe Fe WC)
    | (refine store_rowG rfl (.tmp 17) (.tmp 133) rfl bt Z Z rfl rfl Qf.out Ff.out LE.out ?_; intro wg hF hQ; have Fg := Lib.hid hF; have Qg := Lib.hid hQ; clear hF hQ Qf Ff))
  go_wp2_with fail
  go_ret
  exact ⟨rfl, low_go B9.out Fg.out⟩
end Go.Proofs.Ytjiooadakklmlaa
