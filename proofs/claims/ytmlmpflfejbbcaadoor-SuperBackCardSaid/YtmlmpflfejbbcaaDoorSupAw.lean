import Derived.Test.YtmlmpflfejbbcaaDoorSupA
import Derived.Test.YtmlmpflfejbbcaaDoorBaseN
namespace Go.Proofs.YtmlmpflfejbbcaaDoor
open Go.RowKit CrcM

/-! awake: the chapter's examples. -/
abbrev PSays := SuperSays 11 16 13 19
def sg : GeoV := ⟨2, 16, 8, 40⟩
def s7 : SuperV := ⟨sg, 7⟩
def s17 : SuperV := ⟨sg, 17⟩
def l2 : List DescV := [⟨12, 7, 1⟩, ⟨12, 8, 0⟩]
theorem sg_fits : sg.Fits := ⟨by unfold I64 sg; decide, by unfold I64 sg; decide, by unfold I64 sg; decide, by unfold I64 sg; decide⟩
theorem s7_fits : s7.Fits := ⟨sg_fits, by decide⟩
theorem s17_fits : s17.Fits := ⟨sg_fits, by decide⟩
theorem sg_may : May sg := by decide
theorem s7_may : MaySuper s7 := ⟨sg_may, by decide⟩
theorem s7_write : writeS s7 = (superB s7, 0) := writeS_may s7_may
theorem s17_write : (writeS s17).2 = 2 := by
  unfold writeS; rw [if_neg (fun q => q sg_may), if_pos (by decide)]
theorem l2_may : MayD sg l2 := ⟨by decide, by decide⟩
theorem l2_write : writeD sg l2 = (descsB l2, 0) := writeD_may sg_may l2_may
theorem s7_0 : (superB s7).f 0 = 81 := by
  unfold superB superB0
  rw [sealB_off (by omega), putB32_off (by omega), putB16_off (by omega), putB16_off (by omega), putB16_off (by omega), putB16_off (by omega), putB16_off (by omega), putB16_off (by omega), putB32_f (by omega), p32_0]
theorem s7_3 : (superB s7).f 3 = 49 := by
  unfold superB superB0
  rw [sealB_off (by omega), putB32_off (by omega), putB16_off (by omega), putB16_off (by omega), putB16_off (by omega), putB16_off (by omega), putB16_off (by omega), putB16_off (by omega), putB32_f (by omega), show 3 = 0 + 3 from rfl, p32_3]
theorem s7_7 : (superB s7).f 7 = 1 := by
  unfold superB superB0
  rw [sealB_off (by omega), putB32_off (by omega), putB16_off (by omega), putB16_off (by omega), putB16_off (by omega), putB16_off (by omega), putB16_f (by omega), p16_at, if_pos (by omega)]
theorem s7_10 : (superB s7).f 10 = 16 := by
  unfold superB superB0
  rw [sealB_off (by omega), putB32_off (by omega), putB16_off (by omega), putB16_off (by omega), putB16_f (by omega), p16_at, if_neg (by omega), if_pos rfl]; rfl
theorem s7_16 : (superB s7).f 16 = 7 := by
  unfold superB superB0
  rw [sealB_off (by omega), putB32_f (by omega), p32_0]; rfl
theorem l2_2 : (descsB l2).f 2 = 7 := by
  unfold descsB l2
  rw [sealB_off (by omega)]
  show (putD (putD Blk.zero 0 ⟨12, 7, 1⟩) 1 ⟨12, 8, 0⟩).f 2 = 7
  rw [putD_off (by omega)]
  unfold putD
  rw [putB16_off (by omega), putB16_f (by omega), p16_at, if_neg (by omega), if_pos (by omega)]; rfl
theorem l2_8 : (descsB l2).f 8 = 12 := by
  unfold descsB l2
  rw [sealB_off (by omega)]
  show (putD (putD Blk.zero 0 ⟨12, 7, 1⟩) 1 ⟨12, 8, 0⟩).f 8 = 12
  unfold putD
  rw [putB16_off (by omega), putB16_off (by omega), putB16_f (by omega), p16_at, if_neg (by omega), if_pos (by omega)]; rfl
theorem zero_read : (readS .zero).2 = 60 := fill_no_super (c := 0) fun _ _ => rfl
theorem s7_sum : g32 (superB s7).f 252 = sumB (superB s7) := by unfold superB; exact sealB_sealed _
theorem sg_eq : (#[.int .i64 2, .int .i64 16, .int .i64 8, .int .i64 40] : Array Value) = gcs sg := by rw [gcs_eq]; rfl
theorem desc_eq (b i d : Int) : (#[.int .i64 b, .int .i64 i, .int .i64 d] : Array Value) = dcs ⟨b, i, d⟩ := by rw [dcs_eq]
end Go.Proofs.YtmlmpflfejbbcaaDoor
namespace Go.Proofs.YtmlmpflfejbbcaaDoor
open Go.RowKit CrcM

theorem l2_row (w : World) (t : TypeId) : DRow (w.alloc (.cells #[.int .i64 12, .int .i64 7, .int .i64 1, .int .i64 12, .int .i64 8, .int .i64 0] t)) (some ⟨w.heap.size, 0, none⟩) l2 := by
  refine ⟨by decide, fun d hd => ?_, fun _ => ⟨_, 0, rfl, by simp, fun k d hd => ?_⟩⟩
  · simp only [l2, List.mem_cons, List.not_mem_nil, or_false] at hd
    rcases hd with rfl | rfl <;> exact ⟨by unfold I64; decide, by unfold I64; decide, by unfold I64; decide⟩
  · intro i v hv
    rw [dcs_eq] at hv
    rw [cell_of_row _ _ (0 + k * 3 + i) _ t (0, 0) (heap_alloc_new w _)]
    match k, hd with
    | 0, hd =>
      cases hd
      match i, hv with
      | 0, hv => exact hv
      | 1, hv => exact hv
      | 2, hv => exact hv
    | 1, hd =>
      cases hd
      match i, hv with
      | 0, hv => exact hv
      | 1, hv => exact hv
      | 2, hv => exact hv
/-- What awake keeps in memory. -/
structure AW (w0 : World) (b : Nat) (w : World) : Prop where
  low : Below w0.heap.size w0 w
  geo : GVar w w0.heap.size sg
  blk : BVar w b (superB s7)
theorem AW.below {w0 w w' : World} {b : Nat} (h : AW w0 b w) (hb : Below w.heap.size w w') : AW w0 b w' := ⟨h.low.trans (hb.mono h.low.size), h.geo.below hb, h.blk.below hb⟩
theorem AW.alloc {w0 w : World} {b : Nat} (h : AW w0 b w) (o : Obj) : AW w0 b (w.alloc o) := h.below ((Below.refl _ _).alloc (Nat.le_refl _) o)
set_option maxRecDepth 100000 in
set_option maxHeartbeats 1000000 in
theorem sAwake_any (hS : PSays) (hC : SumSays) (w : World) (hE : Env w) : Calls Tryd.prog 20 #[] w fun e w' => e = .returned (.bool true) ∧ Below w.heap.size w w' := by
  have HS := Lib.hid hS
  have HC := Lib.hid hC
  have HE := Lib.hid hE
  clear hS hC hE
  have hz := fun W => zero_blk W
  have hzs := fun W => zero_super W
  have V0 : Hid (GVar (w.alloc (.cells (gcs sg) 23)) w.heap.size sg) := Lib.hid (heap_alloc_new w _)
  have B0 := Lib.hid ((Below.refl w.heap.size w).alloc (Nat.le_refl _) (.cells (gcs sg) 23))
  go_enter Tryd.func20, Tryd.ntmps20
  go_wp2_with (first
    | (rw [sg_eq]; refine load_geo rfl (.tmp 1) rfl w.heap.size 0 rfl sg V0.out.at ?_)
    | (refine build_super rfl (.tmp 14) (.const (.int .u32 7)) rfl sg 7 rfl rfl ?_))
  generalize w.alloc (.cells (gcs sg) 23) = w1 at V0 B0 ⊢
  refine (HS.out.write s7 w1 s7_fits (HE.out.below B0.out)).mono ?_
  rintro e w2 ⟨rfl, hb⟩
  rw [s7_write]
  have V2 := Lib.hid (V0.out.below hb)
  have B2 := Lib.hid (B0.out.trans (hb.mono B0.out.size))
  clear hb V0 B0
  go_wp2_with (first
    | (refine store_newB rfl (.tmp 2) (.tmp 17) rfl (superB s7) rfl rfl ?_)
    | (refine load_geo rfl (.tmp 1) rfl w.heap.size 0 rfl sg (V2.out.below ((Below.refl _ _).alloc (Nat.le_refl _) _)).at ?_)
    | (refine build_super rfl (.tmp 20) (.const (.int .u32 17)) rfl sg 17 rfl rfl ?_))
  have P : Hid (AW w w2.heap.size (w2.alloc (.cells (arr (superB s7)) 29))) := Lib.hid ⟨B2.out.alloc B2.out.size _, V2.out.below ((Below.refl _ _).alloc (Nat.le_refl _) _), heap_alloc_new w2 _⟩
  clear V2 B2
  generalize w2.alloc (.cells (arr (superB s7)) 29) = w3 at P ⊢
  refine (HS.out.write s17 w3 s17_fits (HE.out.below P.out.low)).mono ?_
  rintro e w4 ⟨rfl, hb⟩
  rw [s17_write]
  have P := Lib.hid (P.out.below hb)
  clear hb
  go_wp2_with (first
    | (refine store_newB rfl (.tmp 4) (.tmp 23) rfl _ rfl rfl ?_)
    | (refine load_geo rfl (.tmp 1) rfl w.heap.size 0 rfl sg (P.out.alloc _).geo.at ?_))
  have P := Lib.hid (P.out.alloc (.cells (arr (writeS s17).1) 29))
  rw [show w4.heap.size + 1 = (w4.alloc (.cells (arr (writeS s17).1) 29)).heap.size by simp]
  generalize w4.alloc (.cells (arr (writeS s17).1) 29) = w5 at P ⊢
  refine (HS.out.writeD sg _ 2 2 l2 _ sg_fits (HE.out.below (P.out.alloc _).low) rfl (l2_row w5 _)).mono ?_
  rintro e w6 ⟨rfl, hb⟩
  rw [l2_write]
  have P := Lib.hid ((P.out.alloc _).below hb)
  clear hb
  go_wp2_with (first
    | (refine store_newB rfl (.tmp 6) (.tmp 31) rfl _ rfl rfl ?_)
    | (refine build_zeroB rfl rfl ?_))
  have P := Lib.hid (P.out.alloc (.cells (arr (descsB l2)) 29))
  have C6 : Hid (BVar (w6.alloc (.cells (arr (descsB l2)) 29)) w6.heap.size (descsB l2)) := Lib.hid (heap_alloc_new w6 _)
  generalize w6.alloc (.cells (arr (descsB l2)) 29) = w7 at P C6 ⊢
  refine (HS.out.read .zero w7 (HE.out.below P.out.low)).mono ?_
  rintro e w8 ⟨rfl, hb⟩
  rw [zero_read]
  have P := Lib.hid (P.out.below hb)
  have C8 := Lib.hid (C6.out.below hb)
  clear hb C6
  go_wp2_with (first
    | (refine store_newS rfl (.tmp 8) (.tmp 36) rfl _ rfl rfl ?_))
  have P := Lib.hid (P.out.alloc (.cells (scs (readS .zero).1) 26))
  have C9 := Lib.hid (C8.out.below ((Below.refl _ _).alloc (Nat.le_refl _) (.cells (scs (readS .zero).1) 26)))
  clear C8
  generalize w8.alloc (.cells (scs (readS .zero).1) 26) = w9 at P C9 ⊢
  refine (Get32_yes (some ⟨w2.heap.size, 0, none⟩) 256 256 252 (superB s7).f w9 (by omega) (P.out.blk.row0 (by omega)) (by omega) (by omega)).mono ?_
  rintro e w9' ⟨rfl, rfl⟩
  rw [show (252 : Int).toNat = 252 from rfl, s7_sum]
  have c0 : w9.cell? ⟨w2.heap.size, 0, none⟩ = some (.int .u8 81) := by have := P.out.blk.at.cell (i := 0) (by omega); rwa [s7_0] at this
  have c3 : w9.cell? ⟨w2.heap.size, 3, none⟩ = some (.int .u8 49) := by have := P.out.blk.at.cell (i := 3) (by omega); rwa [s7_3] at this
  have c7 : w9.cell? ⟨w2.heap.size, 7, none⟩ = some (.int .u8 1) := by have := P.out.blk.at.cell (i := 7) (by omega); rwa [s7_7] at this
  have c10 : w9.cell? ⟨w2.heap.size, 10, none⟩ = some (.int .u8 16) := by have := P.out.blk.at.cell (i := 10) (by omega); rwa [s7_10] at this
  have c16 : w9.cell? ⟨w2.heap.size, 16, none⟩ = some (.int .u8 7) := by have := P.out.blk.at.cell (i := 16) (by omega); rwa [s7_16] at this
  go_wp2_with (first
    | (go_at_call 40; refine (HC.out _ 1 _ [(252, (superB s7).f)] _ rfl (by omega) (Pcs.one (c := 256) (HE.out.below P.out.low) 61 (P.out.blk.row0 (by omega)) (by omega))).mono ?_; rintro e wn ⟨rfl, hb⟩; have P := Lib.hid ((P.out.alloc _).below hb); have C := Lib.hid ((C9.out.below ((Below.refl _ _).alloc (Nat.le_refl _) _)).below hb); clear hb; have d2 := C.out.at.cell (i := 2) (by omega); have d8 := C.out.at.cell (i := 8) (by omega); rw [l2_2] at d2; rw [l2_8] at d8; rw [sums_one, show sum (superB s7).f 252 = sumB (superB s7) from rfl]))
  go_ret
  exact ⟨rfl, P.out.low⟩
end Go.Proofs.YtmlmpflfejbbcaaDoor
