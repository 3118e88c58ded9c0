import Derived.Test.YtjiooadakklmlaaJbA
namespace Go.Proofs.Ytjiooadakklmlaa
open Go.RowKit

/-! awake: the chapter's examples. -/
noncomputable def aw1 : Blk := listB (headL ⟨7, 3⟩)
noncomputable def awc : Blk := listB (tagsL 2 [(5, false), (9, true)])
noncomputable def awx : Blk := putB32 aw1 0 0
theorem aw_may1 : MayH ⟨7, 3⟩ := ⟨⟨by decide, by decide⟩, by decide, by decide⟩
theorem aw_h1 : writeJH ⟨7, 3⟩ = (aw1, 0) := if_pos aw_may1
theorem aw_h2 : writeJH ⟨7, 256⟩ = (.zero, 2) := if_neg fun h => absurd h.hi (by decide)
theorem aw_mayc : MayT 2 [(5, false), (9, true)] := ⟨⟨by decide, by decide⟩, by decide, by decide, fun i hi => by
  have hi : i + 1 < 2 := hi
  obtain rfl : i = 0 := by omega
  decide⟩
theorem aw_d1 : writeJT 2 [(5, false), (9, true)] = (awc, 0) := if_pos aw_mayc
theorem aw_d2 : writeJT 2 [(9, false), (5, false)] = (.zero, 2) := if_neg fun h => absurd (h.rise 0 (by decide)) (by decide)
theorem aw1_num {k : Nat} (h : k < 64) : num aw1 k = (headL ⟨7, 3⟩).getD k 0 := num_list (by decide) h
theorem awc_num {k : Nat} (h : k < 64) : num awc k = (tagsL 2 [(5, false), (9, true)]).getD k 0 := num_list (by decide) h
theorem aw1_kind : kindOf aw1 = (4, 7) := by
  have n0 : num aw1 0 = magic := aw1_num (by decide)
  have n1 : num aw1 1 = 4 := aw1_num (by decide)
  have n2 : num aw1 2 = 7 := aw1_num (by decide)
  unfold kindOf
  rw [n1, n2]
  exact if_pos ⟨⟨n0, n1, by rw [n2]; exact ⟨by decide, by decide⟩⟩, by decide, by decide⟩
theorem aw1_esc : escB aw1 = (awx, true) := if_pos (aw1_num (by decide))
theorem awx_num {k : Nat} (_h : k < 64) : num awx k = if k = 0 then 0 else num aw1 k := num_put (i := 0) (by decide) (by decide)
theorem aw_f0 : aw1.f 0 = 81 := byte_is (k := 0) (i := 0) (aw1_num (by decide)) (by decide)
theorem aw_f3 : aw1.f 3 = 76 := byte_is (k := 0) (i := 3) (aw1_num (by decide)) (by decide)
theorem aw_f4 : aw1.f 4 = 4 := byte_is (k := 1) (i := 0) (aw1_num (by decide)) (by decide)
theorem aw_f8 : aw1.f 8 = 7 := byte_is (k := 2) (i := 0) (aw1_num (by decide)) (by decide)
theorem aw_f12 : aw1.f 12 = 3 := byte_is (k := 3) (i := 0) (aw1_num (by decide)) (by decide)
theorem aw_c4 : awc.f 4 = 1 := byte_is (k := 1) (i := 0) (awc_num (by decide)) (by decide)
theorem aw_c12 : awc.f 12 = 2 := byte_is (k := 3) (i := 0) (awc_num (by decide)) (by decide)
theorem aw_c16 : awc.f 16 = 5 := byte_is (k := 4) (i := 0) (awc_num (by decide)) (by decide)
theorem aw_c24 : awc.f 24 = 9 := byte_is (k := 6) (i := 0) (awc_num (by decide)) (by decide)
theorem aw_c28 : awc.f 28 = 1 := byte_is (k := 7) (i := 0) (awc_num (by decide)) (by decide)
theorem aw_x0 : awx.f 0 = 0 := byte_is (k := 0) (i := 0) (awx_num (by decide)) (by decide)
theorem aw_x4 : awx.f 4 = 4 := byte_is (k := 1) (i := 0) ((awx_num (by decide)).trans (aw1_num (by decide))) (by decide)
theorem byte_at {w : World} {b : Nat} {X : Blk} (h : BVar w b X) {k v : Nat} (hk : k < 256) (e : X.f k = v) : w.cell? ⟨b, k, none⟩ = some (.int .u8 ((v : Nat) : Int)) := by
  have := h.at.cell hk
  rw [Nat.zero_add, e] at this
  exact this
attribute [irreducible] aw1 awc awx
set_option maxRecDepth 100000 in
set_option maxHeartbeats 8000000 in
theorem jAwake (hS : JSays) (w : World) : Calls Try.prog 35 #[] w fun e w' => e = .returned (.bool true) ∧ Below w.heap.size w w' := by
  have hz := fun W => zero_blk W
  have H1 : Hid (∀ W, Calls Try.prog 11 #[.agg (hcs ⟨7, 3⟩)] W fun e w' => e = .returned (.tuple #[.agg (arr aw1), .int .i64 0]) ∧ Below W.heap.size W w') := Lib.hid fun W => by
    have := hS.writeHead ⟨7, 3⟩ W
    rwa [aw_h1] at this
  have H2 : Hid (∀ W, Calls Try.prog 11 #[.agg (hcs ⟨7, 256⟩)] W fun e w' => e = .returned (.tuple #[.agg (arr .zero), .int .i64 2]) ∧ Below W.heap.size W w') := Lib.hid fun W => by
    have := hS.writeHead ⟨7, 256⟩ W
    rwa [aw_h2] at this
  have D1 : Hid (∀ W, Calls Try.prog 13 #[.int .u32 2, .slice (some ⟨W.heap.size, 0, none⟩) 2 2] (W.alloc (.cells (tcs (5, false) ++ tcs (9, true)) 62)) fun e w' => e = .returned (.tuple #[.agg (arr awc), .int .i64 0]) ∧ Below W.heap.size W w') := Lib.hid fun W => by
    have := hS.writeDesc 2 (some ⟨W.heap.size, 0, none⟩) 2 [(5, false), (9, true)] _ (by decide) (by unfold SmallT; decide) (two_tags W (5, false) (9, true))
    rw [aw_d1] at this
    exact this.mono fun e w' h => ⟨h.1, low_go (below_new W _) h.2⟩
  have D2 : Hid (∀ W, Calls Try.prog 13 #[.int .u32 2, .slice (some ⟨W.heap.size, 0, none⟩) 2 2] (W.alloc (.cells (tcs (9, false) ++ tcs (5, false)) 62)) fun e w' => e = .returned (.tuple #[.agg (arr .zero), .int .i64 2]) ∧ Below W.heap.size W w') := Lib.hid fun W => by
    have := hS.writeDesc 2 (some ⟨W.heap.size, 0, none⟩) 2 [(9, false), (5, false)] _ (by decide) (by unfold SmallT; decide) (two_tags W (9, false) (5, false))
    rw [aw_d2] at this
    exact this.mono fun e w' h => ⟨h.1, low_go (below_new W _) h.2⟩
  have K1 : Hid (∀ W, Calls Try.prog 25 #[.agg (arr aw1)] W fun e w' => e = .returned (.tuple #[.int .u8 4, .int .u32 7]) ∧ Below W.heap.size W w') := Lib.hid fun W => by
    have := hS.kind aw1 W
    rwa [aw1_kind] at this
  have E1 : Hid (∀ W, Calls Try.prog 31 #[.agg (arr aw1)] W fun e w' => e = .returned (.tuple #[.agg (arr awx), .bool true]) ∧ Below W.heap.size W w') := Lib.hid fun W => by
    have := hS.escape aw1 W
    rwa [aw1_esc] at this
  clear hS
  go_enter Try.func35, Try.ntmps35
  go_upto_region 2 with (first
    | (refine build_headJ rfl (.const (.int .u32 7)) (.const (.int .i64 3)) rfl ⟨7, 3⟩ rfl rfl ?_)
    | (go_at_call 11; with_reducible refine (H1.out _).mono ?_; rintro e w1 ⟨rfl, hb1⟩)
    | (refine store_newJ rfl (.tmp 1) (.tmp 16) rfl aw1 rfl rfl ?_))
  have V2 := Lib.hid (newB_var w1 aw1)
  have B2 := Lib.hid (newB_go hb1 aw1)
  clear hb1 H1
  generalize newB w1 aw1 = w2 at V2 B2 ⊢
  generalize w1.heap.size = b1 at V2 ⊢
  go_upto_region 3 with (first
    | (refine build_headJ rfl (.const (.int .u32 7)) (.const (.int .i64 256)) rfl ⟨7, 256⟩ rfl rfl ?_)
    | (go_at_call 11; with_reducible refine (H2.out _).mono ?_; rintro e w3 ⟨rfl, hb⟩)
    | (refine store_newJ rfl (.tmp 3) (.tmp 21) rfl .zero rfl rfl ?_))
  have V4 := Lib.hid ((V2.out.below hb).below (newB_low w3 .zero))
  have B4 := Lib.hid (newB_go (low_go B2.out hb) .zero)
  clear hb H2 V2 B2
  generalize newB w3 .zero = w4 at V4 B4 ⊢
  go_upto_region 4 with (first
    | (refine build_tag1 rfl (.const (.int .u32 5)) rfl 5 rfl ?_)
    | (refine build_tagJ rfl (.const (.int .u32 9)) (.const (.bool true)) rfl (9, true) rfl rfl ?_)
    | (refine build_twoT rfl (.tmp 24) (.tmp 25) rfl (5, false) (9, true) rfl rfl ?_)
    | (go_at_call 13; with_reducible refine (D1.out _).mono ?_; rintro e w5 ⟨rfl, hb⟩)
    | (refine store_newJ rfl (.tmp 5) (.tmp 28) rfl awc rfl rfl ?_))
  have V6 := Lib.hid ((V4.out.below hb).below (newB_low w5 awc))
  have C6 := Lib.hid (newB_var w5 awc)
  have B6 := Lib.hid (newB_go (low_go B4.out hb) awc)
  clear hb D1 V4 B4
  generalize newB w5 awc = w6 at V6 C6 B6 ⊢
  generalize w5.heap.size = b2 at C6 ⊢
  go_upto_region 5 with (first
    | (refine build_tag1 rfl (.const (.int .u32 9)) rfl 9 rfl ?_)
    | (refine build_tag1 rfl (.const (.int .u32 5)) rfl 5 rfl ?_)
    | (refine build_twoT rfl (.tmp 31) (.tmp 32) rfl (9, false) (5, false) rfl rfl ?_)
    | (go_at_call 13; with_reducible refine (D2.out _).mono ?_; rintro e w7 ⟨rfl, hb⟩)
    | (refine store_newJ rfl (.tmp 7) (.tmp 35) rfl .zero rfl rfl ?_))
  have V8 := Lib.hid ((V6.out.below hb).below (newB_low w7 .zero))
  have C8 := Lib.hid ((C6.out.below hb).below (newB_low w7 .zero))
  have B8 := Lib.hid (newB_go (low_go B6.out hb) .zero)
  clear hb D2 V6 C6 B6
  generalize newB w7 .zero = w8 at V8 C8 B8 ⊢
  go_upto_region 6 with (first
    | (refine load_blk rfl (.tmp 1) rfl b1 0 rfl aw1 V8.out.at ?_)
    | (go_at_call 25; with_reducible refine (K1.out _).mono ?_; rintro e w9 ⟨rfl, hb⟩))
  have V9 := Lib.hid (V8.out.below hb)
  have C9 := Lib.hid (C8.out.below hb)
  have B9 := Lib.hid (low_go B8.out hb)
  clear hb K1 V8 C8 B8
  go_wp2_with (first
    | (refine load_blk rfl (.tmp 1) rfl b1 0 rfl aw1 V9.out.at ?_)
    | (go_at_call 31; with_reducible refine (E1.out _).mono ?_; rintro e wa ⟨rfl, hb⟩)
    | (refine store_newJ rfl (.tmp 11) (.tmp 45) rfl awx rfl rfl ?_; have Vb := (V9.out.below hb).below (newB_low wa awx); have Cb := (C9.out.below hb).below (newB_low wa awx); have Xb := newB_var wa awx; have Bb := Lib.hid (newB_go (low_go B9.out hb) awx); clear hb E1 V9 C9 B9; generalize newB wa awx = wb at Vb Cb Xb Bb ⊢; generalize wa.heap.size = b3 at Xb ⊢; have f0 := byte_at Vb (by omega) aw_f0; have f3 := byte_at Vb (by omega) aw_f3; have f4 := byte_at Vb (by omega) aw_f4; have f8 := byte_at Vb (by omega) aw_f8; have f12 := byte_at Vb (by omega) aw_f12; have c4 := byte_at Cb (by omega) aw_c4; have c12 := byte_at Cb (by omega) aw_c12; have c16 := byte_at Cb (by omega) aw_c16; have c24 := byte_at Cb (by omega) aw_c24; have c28 := byte_at Cb (by omega) aw_c28; have x0 := byte_at Xb (by omega) aw_x0; have x4 := byte_at Xb (by omega) aw_x4; clear Vb Cb Xb hz))
  go_ret
  exact ⟨rfl, Bb.out⟩
end Go.Proofs.Ytjiooadakklmlaa
