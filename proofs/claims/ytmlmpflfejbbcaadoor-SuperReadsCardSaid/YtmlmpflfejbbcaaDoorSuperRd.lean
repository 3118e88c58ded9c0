import Derived.Test.YtmlmpflfejbbcaaDoorSuperQ6
import Derived.Test.YtmlmpflfejbbcaaDoorSuperL3
namespace Go.Proofs.YtmlmpflfejbbcaaDoor
open Go.RowKit CrcM

/-! The law SuperReads. -/
/-- A row of the call's own, whose numbers may be written. -/
def IRow (base : Nat) (w : World) (A : Option Addr) (n : Nat) : Prop :=
  0 < n → ∃ b o, A = some ⟨b, o, none⟩ ∧ base ≤ b ∧ ∀ k, k < n → (∃ v, w.cell? ⟨b, o + k * 3, none⟩ = some (.int .i64 v)) ∧ w.frozen? ⟨b, o + k * 3, none⟩ = false
theorem IRow.of {base : Nat} {w : World} {A : Option Addr} {n : Nat} {l : List DescV} (h : DOwn w base A l) (hn : n = l.length) : IRow base w A n := fun h0 => by
  obtain ⟨b, o, t, cs, e, hb, hg⟩ := h.own (by omega)
  obtain ⟨b', o', e', _, hc⟩ := h.row.mem (by omega)
  rw [e] at e'
  injection e' with e'
  injection e' with e1 e2
  subst e1 e2
  exact ⟨b, o, e, hb, fun k hk => ⟨⟨_, (hc k l[k] (List.getElem?_eq_getElem (by omega))).c0⟩, frozen_of hg _⟩⟩
theorem IRow.set {base : Nat} {w : World} {A : Option Addr} {n : Nat} (h : IRow base w A n) (q : Addr) (x : Int) : IRow base (w.setCell q (.int .i64 x)) A n := fun h0 => by
  obtain ⟨b, o, e, hb, hc⟩ := h h0
  refine ⟨b, o, e, hb, fun k hk => ?_⟩
  obtain ⟨⟨v, h1⟩, h2⟩ := hc k hk
  refine ⟨?_, by rw [World.frozen?_setCell]; exact h2⟩
  by_cases e : q = ⟨b, o + k * 3, none⟩
  · subst e; exact ⟨x, World.cell?_setCell_same _ _ _ h1⟩
  · exact ⟨v, by rw [World.cell?_setCell_other _ _ _ _ e]; exact h1⟩
theorem IRow.below {base : Nat} {w w' : World} {A : Option Addr} {n : Nat} (h : IRow base w A n) (hb : Below w.heap.size w w') : IRow base w' A n := fun h0 => by
  obtain ⟨b, o, e, h1, hc⟩ := h h0
  refine ⟨b, o, e, h1, fun k hk => ?_⟩
  obtain ⟨⟨v, h2⟩, h3⟩ := hc k hk
  have hlt := World.block_lt_of_cell? w _ h2
  exact ⟨⟨v, (hb.cell (p := ⟨b, o + k * 3, none⟩) hlt).trans h2⟩, (hb.frozen (p := ⟨b, o + k * 3, none⟩) hlt).trans h3⟩
/-- What SuperReads keeps in memory. -/
structure RK (X : Blk) (g : GeoV) (w0 w : World) : Prop where
  low : Below w0.heap.size w0 w
  blk : BVar w w0.heap.size X
  geo : GVar w (w0.heap.size + 1) g
theorem RK.below {X : Blk} {g : GeoV} {w0 w w' : World} (h : RK X g w0 w) (hb : Below w.heap.size w w') : RK X g w0 w' := ⟨h.low.trans (hb.mono h.low.size), h.blk.below hb, h.geo.below hb⟩
set_option maxRecDepth 100000 in
set_option maxHeartbeats 8000000 in
theorem superReads_any (hS : PSays) (_ : SumSays) (X : Blk) (g : GeoV) (w : World) (hE : Env w) (hg : g.Fits) :
    Calls Tryd.prog 4 #[.agg (arr X), .agg (gcs g)] w fun e w' => e = .returned (.bool true) ∧ Below w.heap.size w w' := by
  have HS := Lib.hid hS
  have HE := Lib.hid hE
  have HG := Lib.hid hg
  have hzs := fun W => zero_super W
  have b1 := below_new w (.cells (arr X) 29)
  have b2 := below_new (w.alloc (.cells (arr X) 29)) (.cells (gcs g) 23)
  have q1 : BVar (w.alloc (.cells (arr X) 29)) w.heap.size X := heap_alloc_new w _
  have q2 : GVar ((w.alloc (.cells (arr X) 29)).alloc (.cells (gcs g) 23)) (w.heap.size + 1) g := heap_alloc2_new w _ _
  have P : Hid (RK X g w ((w.alloc (.cells (arr X) 29)).alloc (.cells (gcs g) 23))) := Lib.hid ⟨b1.trans (b2.mono (by simp)), q1.below b2, q2⟩
  obtain ⟨⟨T, e1⟩, x1⟩ : ∃ p, readS X = p := ⟨_, rfl⟩
  obtain ⟨⟨l, e2⟩, x2⟩ : ∃ p, readD g X = p := ⟨_, rfl⟩
  have X1E := Lib.hid x1
  have X2E := Lib.hid x2
  clear hS hE hg b1 b2 q1 q2 x1 x2
  go_enter Tryd.func4, Tryd.ntmps4
  go_upto_region 1 with fail
  generalize (w.alloc (.cells (arr X) 29)).alloc (.cells (gcs g) 23) = w1 at P ⊢
  go_wp2_with (first | (refine load_blk rfl (.tmp 2) rfl w.heap.size 0 rfl X P.out.blk.at ?_))
  refine (HS.out.read X w1 (HE.out.below P.out.low)).mono ?_
  rintro e w2 ⟨rfl, hb⟩
  rw [X1E.out]
  have P2 := Lib.hid (P.out.below hb)
  clear hb P
  go_upto_region 2 with (first
    | (refine store_newS rfl (.tmp 5) (.tmp 18) rfl T rfl rfl ?_))
  have bn := below_new w2 (.cells (scs T) 26)
  have P3 := Lib.hid (P2.out.below bn)
  have S3 := Lib.hid (show SVar (w2.alloc (.cells (scs T) 26)) w2.heap.size T from heap_alloc_new w2 _)
  clear bn P2
  generalize w2.alloc (.cells (scs T) 26) = w3 at P3 S3 ⊢
  generalize w2.heap.size = b5 at S3 ⊢
  go_wp2_with (first | (refine load_blk rfl (.tmp 2) rfl w.heap.size 0 rfl X P3.out.blk.at ?_))
  refine (rRead X w3).mono ?_
  rintro e w4 ⟨rfl, hb⟩
  rw [X1E.out]
  have P4 := Lib.hid (P3.out.below hb)
  have S4 := Lib.hid (S3.out.below hb)
  clear hb P3 S3
  go_upto_region 3 with (first
    | (refine store_newS rfl (.tmp 7) (.tmp 23) rfl T rfl rfl ?_))
  have bn := below_new w4 (.cells (scs T) 26)
  have P5 := Lib.hid (P4.out.below bn)
  have S5 := Lib.hid (S4.out.below bn)
  have U5 := Lib.hid (show SVar (w4.alloc (.cells (scs T) 26)) w4.heap.size T from heap_alloc_new w4 _)
  clear bn P4 S4
  generalize w4.alloc (.cells (scs T) 26) = w5 at P5 S5 U5 ⊢
  generalize w4.heap.size = b7 at U5 ⊢
  go_wp2_with (first
    | (refine load_geo rfl (.tmp 3) rfl (w.heap.size + 1) 0 rfl g P5.out.geo.at ?_)
    | (refine load_blk rfl (.tmp 2) rfl w.heap.size 0 rfl X P5.out.blk.at ?_))
  refine (rReadD g X w5 HG.out).mono ?_
  rw [X2E.out]
  rintro e w6 ⟨A, n, c, rfl, hn, hrow, hb⟩
  have N := Lib.hid hn
  have R6 := Lib.hid hrow
  have P6 := Lib.hid (P5.out.below hb)
  have S6 := Lib.hid (S5.out.below hb)
  have U6 := Lib.hid (U5.out.below hb)
  clear hn hrow hb P5 S5 U5
  rw [show ((l, e2) : List DescV × Int).2 = e2 from rfl]
  rw [show ((l, e2) : List DescV × Int).1 = l from rfl] at N R6
  have hmost := R6.out.most
  rw [← N.out] at hmost
  have t3 : (e2 != e2) = false := by simp
  go_wp2
  go_loopw [11] (fun i wr => ∃ j : Nat, j ≤ 2 ∧ i = .int .i64 j ∧ Below w6.heap.size w6 wr) (fun i _ => 2 - (intOf i).toNat)
  case atStart => exact ⟨0, by omega, rfl, Below.refl _ _⟩
  case round =>
    obtain ⟨j, hj, rfl, hbel⟩ := hrel
    have BL := Lib.hid hbel
    have P7 := Lib.hid (P6.out.below hbel)
    clear hbel
    by_cases hlt : j < 2
    · have t1 : decide ((j : Int) < 2) = true := decide_eq_true (by omega)
      go_wp2_with (first
        | (refine load_geo rfl (.tmp 3) rfl (w.heap.size + 1) 0 rfl g P7.out.geo.at ?_)
        | (refine load_blk rfl (.tmp 2) rfl w.heap.size 0 rfl X P7.out.blk.at ?_))
      refine (HS.out.readD g X wr HG.out (HE.out.below P7.out.low)).mono ?_
      rw [X2E.out]
      rintro e w8 ⟨A', n', c', rfl, hn', hnc, hc1, hown, hb⟩
      rw [show ((l, e2) : List DescV × Int).2 = e2 from rfl]
      rw [show ((l, e2) : List DescV × Int).1 = l from rfl] at hn' hown
      have N' := Lib.hid hn'
      have W8 := Lib.hid hown
      have B8 := Lib.hid (BL.out.trans (hb.mono BL.out.size))
      have hm' := hown.row.most
      rw [← hn'] at hm'
      have ZB := Lib.hid (BL.out.size)
      clear hn' hown hb hnc hc1
      go_wp2_with (first
        | (go_at_call 15; refine (rSame_any A' A n' n c' c l l _ N'.out N.out W8.out.row (R6.out.below B8.out)).mono ?_; rintro e w9 ⟨rfl, hb⟩; have B9 := Lib.hid (B8.out.trans (hb.mono B8.out.size)); have I9 := Lib.hid ((IRow.of (w := w8) W8.out N'.out).below hb); clear hb; rw [decide_eq_true (rfl : l = l)]))
      go_loopw [14] (fun i wi => ∃ k : Nat, k ≤ n' ∧ i = .int .i64 k ∧ IRow wr.heap.size wi A' n' ∧ Below w6.heap.size w6 wi) (fun i _ => n' - (intOf i).toNat)
      case atStart => exact ⟨0, Nat.zero_le _, rfl, I9.out, B9.out⟩
      case round =>
        obtain ⟨k, hk, rfl, hir, hbi⟩ := hrel
        have IR := Lib.hid hir
        have BI := Lib.hid hbi
        clear hir hbi
        by_cases hlk : k < n'
        · obtain ⟨b, o, rfl, hbase, hc⟩ := IR.out (by omega)
          obtain ⟨⟨v, ck⟩, fk⟩ := hc k hlk
          have z1 : (0 : Int) ≤ k := by omega
          have z2 : (k : Int) < n' := by omega
          have I2 := Lib.hid (IR.out.set ⟨b, o + k * 3, none⟩ (-5))
          have B2 := Lib.hid (BI.out.setCell (p := ⟨b, o + k * 3, none⟩) (by have := ZB.out; show w6.heap.size ≤ b; omega) (.int .i64 (-5)))
          clear hc hbase
          go_wp2
          go_roundw
          case rel => exact ⟨k + 1, by omega, by go_num, I2.out, B2.out⟩
          case measure => simp [intOf]; omega
        · have t5 : decide ((k : Int) < n') = false := decide_eq_false (by omega)
          go_wp2
          go_roundw
          case rel => exact ⟨j + 1, by omega, by go_num, BI.out⟩
          case measure => simp [intOf]; omega
    · have t1 : decide ((j : Int) < 2) = false := decide_eq_false (by omega)
      have heq := fun W => equalIn_super T T W
      simp only [decide_true] at heq
      have hgd := super_guard
      have t2 : (e1 == e1) = true := by simp
      have S7 := Lib.hid (S6.out.below BL.out)
      have U7 := Lib.hid (U6.out.below BL.out)
      go_wp2_with (first
        | (refine load_super rfl (.tmp 5) rfl b5 0 rfl T S7.out.at ?_)
        | (refine load_super rfl (.tmp 7) rfl b7 0 rfl T U7.out.at ?_))
      go_ret
      exact ⟨rfl, P7.out.low⟩
end Go.Proofs.YtmlmpflfejbbcaaDoor
