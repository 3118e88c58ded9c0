import Derived.Test.YtaipcciokhkmnaaDWrites
namespace Go.Proofs.Ytaipcciokhkmnaa
open Go.RowKit

def aw : Waits := [(1, fillB 1), (1, fillB 2), (2, fillB 3)]
def awC : DS := ⟨over (List.replicate 4 .zero) [(1, fillB 1), (2, fillB 3)], [], 3, none⟩
theorem aw_crash : (put 4 aw).crash [true, false, true] = awC := rfl
theorem aw_read1 : (put 4 aw).read 1 = fillB 2 := by
  rw [show (1 : Int) = ((1 : Nat) : Int) from rfl, put_read (by omega)]; rfl
theorem awC_err (b : Int) (h0 : 0 ≤ b) (h1 : b < 4) : awC.err b = 0 := by
  unfold DS.err awC DS.dead
  dsimp only
  rw [if_neg (by simp), if_neg (by rw [over_length, List.length_replicate]; omega)]
theorem awC_read1 : awC.read 1 = fillB 1 := by
  unfold DS.read
  rw [if_pos (awC_err 1 (by omega) (by omega))]; rfl
theorem awC_read2 : awC.read 2 = fillB 3 := by
  unfold DS.read
  rw [if_pos (awC_err 2 (by omega) (by omega))]; rfl
section
variable {D : World → Addr → DS → Av → Prop}
theorem put_step (hD : DiskSays D) (a : Addr) (av : Av) (N : Nat) (ps : Waits) (b : Nat) (x : Blk) (w : World) (hb : b < N) (hp : ps.length < 1000) (h : D w a (put N ps) av) :
    Calls Try.prog 18 #[.pointer (some a), .int .i64 (b : Int), .agg (arr x)] w fun e w' => e = .returned (.int .i64 0) ∧ D w' a (put N (ps ++ [(b, x)])) av ∧ Keep av w w' :=
  (hD.write a _ av b x w h (by show ps.length < 1000000; omega)).mono fun e w' ⟨he, hd, hk⟩ => by
    have hin : inside N (b : Int) = true := by simp [inside]; omega
    rw [put_errI hb] at he
    rw [put_write, hin] at hd
    exact ⟨he, hd, hk⟩
set_option maxRecDepth 100000 in
set_option maxHeartbeats 1000000 in
theorem dAwake_any (hD : DiskSays D) (w : World) :
    Calls Try.prog 26 #[] w fun e w' => e = .returned (.bool true) ∧ Below w.heap.size w w' := by
  have HD := Lib.hid hD
  clear hD
  have hz := fun W => zero_blk W
  go_enter Try.func26, Try.ntmps26
  go_wp2_with fail
  refine (HD.out.new_yes 4 _ (by omega) (by omega)).mono ?_
  rintro e w1 ⟨⟨a, rfl, hd⟩, hb⟩
  have D1 : Hid (D w1 a (put 4 []) (· < w.heap.size)) := Lib.hid hd
  have B1 := Lib.hid hb
  clear hb hd
  go_wp2_with fail
  refine (fill_any 1 _ (by omega)).mono ?_
  rintro e w2 ⟨rfl, hb⟩
  have D2 := Lib.hid (HD.out.below D1.out hb)
  have B2 := Lib.hid (B1.out.trans (hb.mono B1.out.size))
  clear hb D1 B1
  go_wp2_with fail
  refine (put_step HD.out a _ 4 [] 1 (fillB 1) _ (by omega) (by simp) D2.out).mono ?_
  rintro e w3 ⟨rfl, hd, hk⟩
  have D3 := Lib.hid hd
  have B3 := Lib.hid (B2.out.trans (hk.below fun i h => h))
  clear hd hk D2 B2
  go_wp2_with fail
  refine (fill_any 2 _ (by omega)).mono ?_
  rintro e w4 ⟨rfl, hb⟩
  have D4 := Lib.hid (HD.out.below D3.out hb)
  have B4 := Lib.hid (B3.out.trans (hb.mono B3.out.size))
  clear hb D3 B3
  go_wp2_with fail
  refine (put_step HD.out a _ 4 _ 1 (fillB 2) _ (by omega) (by simp) D4.out).mono ?_
  rintro e w5 ⟨rfl, hd, hk⟩
  have D5 := Lib.hid hd
  have B5 := Lib.hid (B4.out.trans (hk.below fun i h => h))
  clear hd hk D4 B4
  go_wp2_with fail
  refine (fill_any 3 _ (by omega)).mono ?_
  rintro e w6 ⟨rfl, hb⟩
  have D6 := Lib.hid (HD.out.below D5.out hb)
  have B6 := Lib.hid (B5.out.trans (hb.mono B5.out.size))
  clear hb D5 B5
  go_wp2_with fail
  refine (put_step HD.out a _ 4 _ 2 (fillB 3) _ (by omega) (by simp) D6.out).mono ?_
  rintro e w7 ⟨rfl, hd, hk⟩
  have D7 : Hid (D w7 a (put 4 aw) (· < w.heap.size)) := Lib.hid hd
  have B7 := Lib.hid (B6.out.trans (hk.below fun i h => h))
  clear hd hk D6 B6
  go_wp2_with fail
  refine (HD.out.waiting a _ _ _ D7.out).mono ?_
  rintro e w8 ⟨rfl, hd, hk⟩
  rw [show ((put 4 aw).wait.length : Int) = 3 from rfl]
  have D8 := Lib.hid hd
  have B8 := Lib.hid (B7.out.trans (hk.below fun i h => h))
  clear hd hk D7 B7
  go_wp2_with fail
  refine (HD.out.read a _ _ 1 _ D8.out).mono ?_
  rintro e w9 ⟨rfl, hd, hk⟩
  rw [aw_read1, show (put 4 aw).err 1 = 0 from put_errI (i := 1) (by omega)]
  have D9 := Lib.hid hd
  have B9 := Lib.hid (B8.out.trans (hk.below fun i h => h))
  clear hd hk D8 B8
  go_wp2_with (refine store_row rfl (.tmp 4) (.tmp 34) rfl w9.heap.size (fillB 2) .zero 26 rfl rfl (heap_alloc_new w9 _) ?_; rw [World.setRow_alloc_new])
  have D10 := Lib.hid (HD.out.new' D9.out (((Below.refl _ _).alloc (Nat.le_refl _) (.cells (arr (fillB 2)) 26)).alloc (by simp) (.cells #[.bool true, .bool false, .bool true] 4)))
  have B10 := Lib.hid ((B9.out.alloc B9.out.size (.cells (arr (fillB 2)) 26)).alloc (by have := B9.out.size; simp; omega) (.cells #[.bool true, .bool false, .bool true] 4))
  have X10 : Hid (((w9.alloc (.cells (arr (fillB 2)) 26)).alloc (.cells #[.bool true, .bool false, .bool true] 4)).heap[w9.heap.size]? = some (.cells (arr (fillB 2)) 26 (0, 0))) := Lib.hid (heap_alloc2_old w9 _ _)
  have K10 : Hid (Bools ((w9.alloc (.cells (arr (fillB 2)) 26)).alloc (.cells #[.bool true, .bool false, .bool true] 4)) (some ⟨w9.heap.size + 1, 0, none⟩) [true, false, true]) := Lib.hid fun _ => by
    refine ⟨_, _, rfl, by simp, fun i x hx => ?_⟩
    rw [cell_of_row _ _ (0 + i) _ _ (0, 0) (heap_alloc2_new w9 _ _)]
    match i, hx with
    | 0, hx => cases hx; rfl
    | 1, hx => cases hx; rfl
    | 2, hx => cases hx; rfl
  have S10 : Hid (((w9.alloc (.cells (arr (fillB 2)) 26)).alloc (.cells #[.bool true, .bool false, .bool true] 4)).heap.size = w9.heap.size + 2) := Lib.hid (by simp)
  generalize (w9.alloc (.cells (arr (fillB 2)) 26)).alloc (.cells #[.bool true, .bool false, .bool true] 4) = w10 at D10 B10 X10 K10 S10 ⊢
  rw [S10.out] at D10
  generalize w9.heap.size = h9 at D10 X10 K10 S10 ⊢
  clear D9 B9
  refine (HD.out.crash a _ _ _ 3 3 [true, false, true] _ D10.out rfl K10.out (by intro _ g o e; cases e; exact .inr ⟨by omega, by omega⟩) (by omega)).mono ?_
  rintro e w11 ⟨rfl, hd, hk⟩
  rw [aw_crash] at hd
  have D11 := Lib.hid hd
  have B11 := Lib.hid (B10.out.trans (hk.below fun i h => .inl h))
  have X11 := Lib.hid ((hk.block h9 (.inr ⟨by omega, by omega⟩)).trans X10.out)
  clear hd hk D10 B10 X10 K10 S10
  go_wp2_with fail
  refine (HD.out.read a _ _ 1 _ D11.out).mono ?_
  rintro e w12 ⟨rfl, hd, hk⟩
  rw [awC_read1, awC_err 1 (by omega) (by omega)]
  have D12 := Lib.hid hd
  have B12 := Lib.hid (B11.out.trans (hk.below fun i h => .inl h))
  have X12 := Lib.hid ((hk.block h9 (.inr ⟨by omega, by omega⟩)).trans X11.out)
  clear hd hk D11 B11 X11
  go_wp2_with (refine store_row rfl (.tmp 6) (.tmp 42) rfl w12.heap.size (fillB 1) .zero 26 rfl rfl (heap_alloc_new w12 _) ?_; rw [World.setRow_alloc_new])
  have D13 := Lib.hid (HD.out.new' D12.out ((Below.refl _ _).alloc (Nat.le_refl _) (.cells (arr (fillB 1)) 26)))
  have B13 := Lib.hid (B12.out.alloc B12.out.size (.cells (arr (fillB 1)) 26))
  have X13 := Lib.hid ((heap_alloc_old w12 (.cells (arr (fillB 1)) 26) (by rcases Nat.lt_or_ge h9 w12.heap.size with h | h; exact h; have := X12.out; rw [Array.getElem?_eq_none h] at this; cases this)).trans X12.out)
  have Y13 := Lib.hid (heap_alloc_new w12 (.cells (arr (fillB 1)) 26))
  have S13 : Hid ((w12.alloc (.cells (arr (fillB 1)) 26)).heap.size = w12.heap.size + 1) := Lib.hid (by simp)
  generalize w12.alloc (.cells (arr (fillB 1)) 26) = w13 at D13 B13 X13 Y13 S13 ⊢
  rw [S13.out] at D13
  generalize w12.heap.size = h12 at D13 Y13 S13 ⊢
  clear D12 B12 X12
  refine (HD.out.read a _ _ 2 _ D13.out).mono ?_
  rintro e w14 ⟨rfl, hd, hk⟩
  rw [awC_read2, awC_err 2 (by omega) (by omega)]
  have B14 := Lib.hid (B13.out.trans (hk.below fun i h => .inl (.inl h)))
  have X14 := Lib.hid ((hk.block h9 (.inl (.inr ⟨by omega, by omega⟩))).trans X13.out)
  have Y14 := Lib.hid ((hk.block h12 (.inr ⟨by omega, by omega⟩)).trans Y13.out)
  clear hd hk D13 B13 X13 Y13 S13
  go_wp2_with (refine store_row rfl (.tmp 8) (.tmp 47) rfl w14.heap.size (fillB 3) .zero 26 rfl rfl (heap_alloc_new w14 _) ?_; rw [World.setRow_alloc_new])
  have lt_of : ∀ {W : World} {h : Nat} {o : Obj}, W.heap[h]? = some o → h < W.heap.size := fun {W h o} e => by rcases Nat.lt_or_ge h W.heap.size with q | q; exact q; rw [Array.getElem?_eq_none q] at e; cases e
  have B15 := Lib.hid (B14.out.alloc B14.out.size (.cells (arr (fillB 3)) 26))
  have X15 := Lib.hid (At.row ((heap_alloc_old w14 (.cells (arr (fillB 3)) 26) (lt_of X14.out)).trans X14.out))
  have Y15 := Lib.hid (At.row ((heap_alloc_old w14 (.cells (arr (fillB 3)) 26) (lt_of Y14.out)).trans Y14.out))
  have Z15 := Lib.hid (At.row (heap_alloc_new w14 (.cells (arr (fillB 3)) 26)))
  generalize w14.alloc (.cells (arr (fillB 3)) 26) = w15 at B15 X15 Y15 Z15 ⊢
  generalize w14.heap.size = h14 at Z15 ⊢
  clear B14 X14 Y14 lt_of
  go_wp2_with fail
  have heq1 := fun W => equalIn_blk (fillB 1) (fillB 1) W
  have heq2 := fun W => equalIn_blk (fillB 2) (fillB 2) W
  have heq3 := fun W => equalIn_blk (fillB 3) (fillB 3) W
  have d1 : decide (fillB 1 = fillB 1) = true := decide_eq_true rfl
  have d2 : decide (fillB 2 = fillB 2) = true := decide_eq_true rfl
  have d3 : decide (fillB 3 = fillB 3) = true := decide_eq_true rfl
  have hgd := blk_guard
  refine wp_region_class (More w15) (by kernel_rfl) (by kernel_rfl) (More.drew _) ?_
  repeat (first | go_big_quiet_skip | (go_big_quiet_want; first | (refine quiet_load _ rfl _ _ rfl _ (by intro w' hw'; first | exact X15.out.below hw' | exact Y15.out.below hw' | exact Z15.out.below hw') ?_; simp only [Act.put, List.setIfInBounds_toArray, List.set_cons_zero, List.set_cons_succ]; go_big_quiet_on) | (go_big_quiet_op; first | go_big_quiet_on | (apply Exists.intro; refine ⟨fun _ _ => ?_, ?_⟩; (with_reducible exact rfl); go_big_quiet_on) | go_big_quiet_call ((intro hC; first | (with_reducible refine (fill_int _ _ 1 (by decide) (by decide)).mono ?_); exact fun e w' h => ⟨h.1, hC.on h.2⟩ | (with_reducible refine (fill_int _ _ 2 (by decide) (by decide)).mono ?_); exact fun e w' h => ⟨h.1, hC.on h.2⟩ | (with_reducible refine (fill_int _ _ 3 (by decide) (by decide)).mono ?_); exact fun e w' h => ⟨h.1, hC.on h.2⟩)))))
  refine wpQuiet_nil ?_
  intro w16 hw16
  have B16 := Lib.hid (B15.out.trans (Below.mono hw16 B15.out.size))
  clear hw16
  go_wp2
  go_ret
  exact ⟨rfl, B16.out⟩
end
end Go.Proofs.Ytaipcciokhkmnaa
