import Derived.Test.YtmlmpflfejbbcaaDoorSuperQ4
namespace Go.Proofs.YtmlmpflfejbbcaaDoor
open Go.RowKit CrcM

set_option maxRecDepth 100000 in
set_option maxHeartbeats 8000000 in
theorem rWriteD (g : GeoV) (A : Option Addr) (n c : Nat) (l : List DescV) (w : World) (hn : n = l.length) (hl : DRow w A l) :
    Calls Tryd.prog 14 #[.agg (gcs g), .slice A n c] w fun e w' => e = .returned (.tuple #[.agg (arr (writeD g l).1), .int .i64 (writeD g l).2]) ∧ Below w.heap.size w w' := by
  have hz := fun W => zero_blk W
  have b1 := below_new w (.cells (gcs g) 23)
  have b2 := below_new (w.alloc (.cells (gcs g) 23)) (.cells (arr .zero) 29)
  have q1 : GVar (w.alloc (.cells (gcs g) 23)) w.heap.size g := heap_alloc_new w _
  have q2 : BVar ((w.alloc (.cells (gcs g) 23)).alloc (.cells (arr .zero) 29)) (w.heap.size + 1) .zero := heap_alloc2_new w _ _
  have V1 := Lib.hid (q1.below b2)
  have N1 := Lib.hid q2
  have B1 := Lib.hid (b1.trans (b2.mono (by simp)))
  have HN := Lib.hid hn
  have HL := Lib.hid hl
  clear b1 b2 q1 q2 hn hl
  go_enter Tryd.func14, Tryd.ntmps14
  go_wp2_with (first | (refine load_geo rfl (.tmp 2) rfl w.heap.size 0 rfl g V1.out.at ?_))
  generalize (w.alloc (.cells (gcs g) 23)).alloc (.cells (arr .zero) 29) = w1 at V1 N1 B1 ⊢
  refine (rMay g w1).mono ?_
  rintro e w2 ⟨rfl, hb⟩
  have V2 := Lib.hid (V1.out.below hb)
  have N2 := Lib.hid (N1.out.below hb)
  have B2 := Lib.hid (B1.out.trans (hb.mono B1.out.size))
  clear hb V1 N1 B1
  by_cases hm : May g
  · rw [may_true hm]
    have M := Lib.hid hm
    clear hm
    go_wp2_with (first | (refine load_geo rfl (.tmp 2) rfl w.heap.size 0 rfl g V2.out.at ?_))
    refine (rmay_any g A n c l w2 M.out HN.out (HL.out.below B2.out)).mono ?_
    rintro e w3 ⟨rfl, hb⟩
    have N3 := Lib.hid (N2.out.below hb)
    have B3 := Lib.hid (B2.out.trans (hb.mono B2.out.size))
    clear hb V2 N2 B2
    by_cases ho : MayD g l
    · rw [mayDB_true ho]
      have EW := Lib.hid (writeD_may M.out ho)
      have SM := Lib.hid (ho.small M.out)
      have hmost : n ≤ 4 := by have := ho.four M.out; have := HN.out; omega
      clear ho
      go_upto_region 6 with fail
      have bn := below_new w3 (.cells (arr .zero) 29)
      have B4 := Lib.hid (B3.out.trans (bn.mono B3.out.size))
      have V4 : Hid (BVar (w3.alloc (.cells (arr .zero) 29)) w3.heap.size .zero) := Lib.hid (heap_alloc_new w3 _)
      have N4 := Lib.hid (N3.out.below bn)
      have Z : Hid (w.heap.size + 2 ≤ w3.heap.size) := Lib.hid N3.out.lt
      clear bn B3 N3
      generalize w3.alloc (.cells (arr .zero) 29) = w4 at B4 V4 N4 ⊢
      generalize w3.heap.size = b at V4 Z ⊢
      go_wp2
      go_loopw [7] (fun i wr => ∃ j : Nat, j ≤ n ∧ i = .int .i64 j ∧ BVar wr b (rowsB 0 (l.take j) .zero) ∧ Only b w4 wr) (fun i _ => n - (intOf i).toNat)
      case atStart => exact ⟨0, Nat.zero_le _, rfl, V4.out, Only.refl _ _⟩
      case round =>
        obtain ⟨j, hj, rfl, hpv, hon⟩ := hrel
        have PV := Lib.hid hpv
        have ON := Lib.hid hon
        clear hpv hon
        by_cases hlt : j < n
        · have hlt' : j < l.length := by have := HN.out; omega
          obtain ⟨bl, o, rfl, hbl, hc⟩ := HL.out.mem (by omega)
          have hne : bl ≠ b := by have := Z.out; omega
          have ck : Hid (DAt wr bl (o + j * 3) l[j]) := Lib.hid (ON.out.desc hne (DAt.below (hc j _ (List.getElem?_eq_getElem hlt')) (B4.out.mono (Nat.le_refl _))))
          have ST := Lib.hid (rowsB_take (List.getElem?_eq_getElem hlt') .zero)
          have D := Lib.hid (SM.out l[j] (List.getElem_mem hlt'))
          have z1 : (0 : Int) ≤ j := by omega
          have z2 : (j : Int) < n := by omega
          have hw : IntKind.i64.wrap (8 * (j : Int)) = 8 * (j : Int) := by rw [IntKind.wrap_i64]; omega
          have hw2 : IntKind.i64.wrap (8 * (j : Int) + 2) = 8 * (j : Int) + 2 := by rw [IntKind.wrap_i64]; omega
          have hw4 : IntKind.i64.wrap (8 * (j : Int) + 4) = 8 * (j : Int) + 4 := by rw [IntKind.wrap_i64]; omega
          have hr1 : -9223372036854775808 ≤ 8 * (j : Int) := by omega
          have hr2 : 8 * (j : Int) ≤ 9223372036854775807 := by omega
          have hr3 : -9223372036854775808 ≤ 8 * (j : Int) + 2 := by omega
          have hr4 : 8 * (j : Int) + 2 ≤ 9223372036854775807 := by omega
          have hr5 : -9223372036854775808 ≤ 8 * (j : Int) + 4 := by omega
          have hr6 : 8 * (j : Int) + 4 ≤ 9223372036854775807 := by omega
          have hj4 : j < 4 := by omega
          clear hc
          generalize rowsB 0 (l.take j) .zero = Y at PV ST
          generalize l[j] = d at *
          obtain ⟨x0, n0⟩ := Int.eq_ofNat_of_zero_le D.out.b0
          obtain ⟨x1, n1⟩ := Int.eq_ofNat_of_zero_le D.out.i0
          obtain ⟨x2, n2⟩ := Int.eq_ofNat_of_zero_le D.out.d0
          have R0 := Lib.hid (show x0 ≤ 65535 by have := D.out.b; omega)
          have R1 := Lib.hid (show x1 ≤ 65535 by have := D.out.i; omega)
          have R2 := Lib.hid (show x2 ≤ 65535 by have := D.out.d; omega)
          have EP := Lib.hid (show putD Y j d = putB16 (putB16 (putB16 Y (8 * j) x0) (8 * j + 2) x1) (8 * j + 4) x2 by unfold putD; rw [n0, n1, n2]; rfl)
          have d0 := ck.out.c0
          have d1 := ck.out.c1
          have d2 := ck.out.c2
          rw [n0] at d0
          rw [n1] at d1
          rw [n2] at d2
          have u0 : ((x0 : Nat) : Int) % 4294967296 = x0 := by have := R0.out; omega
          have u1 : ((x1 : Nat) : Int) % 4294967296 = x1 := by have := R1.out; omega
          have u2 : ((x2 : Nat) : Int) % 4294967296 = x2 := by have := R2.out; omega
          have y0 : IntKind.u32.wrap ((x0 : Nat) : Int) = x0 := by rw [IntKind.wrap_u32]; omega
          have y1 : IntKind.u32.wrap ((x1 : Nat) : Int) = x1 := by rw [IntKind.wrap_u32]; omega
          have y2 : IntKind.u32.wrap ((x2 : Nat) : Int) = x2 := by rw [IntKind.wrap_u32]; omega
          clear n0 n1 n2
          go_wp2_with fail
          go_region_with (first
            | (go_at_call 26; refine (rput16_b b (8 * j) x0 Y _ (PV.out.drewN 1) (by omega) R0.out).mono ?_; rintro e v1 ⟨rfl, hv, ho⟩; have V1 := Lib.hid hv; have O1 := Lib.hid ((Only.drewN b wr 1).trans ho); clear hv ho))
          have e1 := O1.out.cell (a := ⟨bl, o + j * 3 + 1, none⟩) hne d1
          have e2 := O1.out.cell (a := ⟨bl, o + j * 3 + 2, none⟩) hne d2
          go_wp2_with fail
          go_region_with (first
            | (go_at_call 26; refine (rput16_b b (8 * j + 2) x1 _ _ (V1.out.drewN 1) (by omega) R1.out).mono ?_; rintro e v2 ⟨rfl, hv, ho⟩; have V2 := Lib.hid hv; have O2 := Lib.hid ((Only.drewN b v1 1).trans ho); clear hv ho))
          have f2 := O2.out.cell (a := ⟨bl, o + j * 3 + 2, none⟩) hne e2
          go_wp2_with fail
          go_region_with (first
            | (go_at_call 26; refine (rput16_b b (8 * j + 4) x2 _ _ (V2.out.drewN 1) (by omega) R2.out).mono ?_; rintro e v3 ⟨rfl, hv, ho⟩; have V3 := Lib.hid hv; have O3 := Lib.hid ((Only.drewN b v2 1).trans ho); clear hv ho))
          have V5 : Hid (BVar v3 b (rowsB 0 (l.take (j + 1)) .zero)) := Lib.hid (by rw [ST.out, EP.out]; exact V3.out)
          have O5 := Lib.hid (((ON.out.trans O1.out).trans O2.out).trans O3.out)
          clear d0 d1 d2 e1 e2 f2 u0 u1 u2 y0 y1 y2
          go_wp2
          go_roundw
          case rel => exact ⟨j + 1, by omega, by go_num, V5.out, O5.out⟩
          case measure => simp [intOf]; omega
        · have e : l.take j = l := by rw [List.take_of_length_le]; have := HN.out; omega
          have es : sealB (rowsB 0 (l.take j) .zero) = descsB l := by rw [e]; unfold descsB; rfl
          have ES := Lib.hid es
          have B5 := Lib.hid (B4.out.trans (ON.out.below (B := w.heap.size) (by have := Z.out; omega) B4.out.size))
          have N5 : Hid (BVar wr (w.heap.size + 1) .zero) := Lib.hid (ON.out.blk (by have := Z.out; omega) N4.out)
          clear e es
          go_wp2_with (first | (refine load_blk rfl (.tmp 6) rfl b 0 rfl _ PV.out.at ?_))
          refine (rsealed_any _ wr).mono ?_
          rintro e w6 ⟨rfl, hb⟩
          rw [ES.out]
          have N6 := Lib.hid (N5.out.below hb)
          have B6 := Lib.hid (B5.out.trans (hb.mono B5.out.size))
          clear hb
          go_wp2_with (first
            | (refine store_row rfl (.tmp 4) (.tmp 56) rfl (w.heap.size + 1) (descsB l) .zero 29 rfl rfl N6.out ?_))
          exact bodyPost_ret (results_blk_err Tryd.results14 _ _ (w.heap.size + 1) (descsB l) _ _ rfl rfl (setRow_heap _ _ _ _ _ _ N6.out)) rfl ⟨by rw [EW.out], below_setRow B6.out (by omega) _⟩
    · rw [mayDB_false ho]
      have EW := Lib.hid (writeD_arg M.out ho)
      clear ho
      go_wp2_with (first
        | (refine build_zeroB rfl rfl ?_)
        | (refine store_row rfl (.tmp 4) (.tmp 16) rfl (w.heap.size + 1) .zero .zero 29 rfl rfl N3.out ?_))
      exact bodyPost_ret (results_blk_err Tryd.results14 _ _ (w.heap.size + 1) .zero _ _ rfl rfl (setRow_heap _ _ _ _ _ _ N3.out)) rfl ⟨by rw [EW.out], below_setRow B3.out (by omega) _⟩
  · rw [may_false hm]
    have EW := Lib.hid (writeD_geo (l := l) hm)
    clear hm
    go_wp2_with (first
      | (refine build_zeroB rfl rfl ?_)
      | (refine store_row rfl (.tmp 4) (.tmp 11) rfl (w.heap.size + 1) .zero .zero 29 rfl rfl N2.out ?_))
    exact bodyPost_ret (results_blk_err Tryd.results14 _ _ (w.heap.size + 1) .zero _ _ rfl rfl (setRow_heap _ _ _ _ _ _ N2.out)) rfl ⟨by rw [EW.out], below_setRow B2.out (by omega) _⟩
end Go.Proofs.YtmlmpflfejbbcaaDoor
