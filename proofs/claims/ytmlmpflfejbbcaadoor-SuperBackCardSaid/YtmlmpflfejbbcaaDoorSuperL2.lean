import Derived.Test.YtmlmpflfejbbcaaDoorSuperL1
import Derived.Deep.CutBlock
namespace Go.Proofs.YtmlmpflfejbbcaaDoor
open Go.RowKit CrcM

/-! The law SuperByte. -/
structure KB (s : SuperV) (A : Option Addr) (l : List DescV) (w0 w : World) : Prop where
  low : Below w0.heap.size w0 w
  sup : SVar w w0.heap.size s
  row0 : DRow w0 A l
theorem KB.row {s : SuperV} {A : Option Addr} {l : List DescV} {w0 w : World} (h : KB s A l w0 w) : DRow w A l := h.row0.below h.low
theorem KB.below {s : SuperV} {A : Option Addr} {l : List DescV} {w0 w w' : World} (h : KB s A l w0 w) (hb : Below w.heap.size w w') : KB s A l w0 w' :=
  ⟨h.low.trans (hb.mono h.low.size), h.sup.below hb, h.row0⟩
theorem KB.alloc {s : SuperV} {A : Option Addr} {l : List DescV} {w0 w : World} (h : KB s A l w0 w) (o : Obj) : KB s A l w0 (w.alloc o) := h.below ((Below.refl _ _).alloc (Nat.le_refl _) o)
theorem KB.set {s : SuperV} {A : Option Addr} {l : List DescV} {w0 w : World} (h : KB s A l w0 w) {b : Nat} (hb : w0.heap.size < b) (k : Nat) (v : Value) : KB s A l w0 (w.setCell ⟨b, k, none⟩ v) :=
  ⟨h.low.setCell (p := ⟨b, k, none⟩) (Nat.le_of_lt hb) v, (Below.heap_setCell w ⟨b, k, none⟩ v w0.heap.size (by show w0.heap.size ≠ b; omega)).trans h.sup, h.row0⟩
theorem BVar.other {w : World} {b b' : Nat} {X : Blk} (h : BVar w b X) (hb : b ≠ b') (k : Nat) (v : Value) : BVar (w.setCell ⟨b', k, none⟩ v) b X :=
  (Below.heap_setCell w ⟨b', k, none⟩ v b hb).trans h
theorem BVar.cell {w : World} {b : Nat} {X : Blk} (h : BVar w b X) {k : Nat} (hk : k < 256) : w.cell? ⟨b, k, none⟩ = some (.int .u8 ((X.f k : Nat) : Int)) := by
  have := h.at.cell hk
  rwa [Nat.zero_add] at this
theorem BVar.frozen {w : World} {b : Nat} {X : Blk} (h : BVar w b X) (k : Nat) : w.frozen? ⟨b, k, none⟩ = false := by
  simp [World.frozen?, (show w.heap[b]? = _ from h)]
theorem rem_place (a : Int) : ∃ k : Nat, k < 256 ∧ (Int.tmod a 256 + 256).tmod 256 = (k : Int) ∧ -256 < Int.tmod a 256 ∧ Int.tmod a 256 < 256 := by
  have h1 := Int.tmod_lt_of_pos a (show (0 : Int) < 256 by omega)
  have h2 := Int.lt_tmod_of_pos a (show (0 : Int) < 256 by omega)
  refine ⟨((Int.tmod a 256 + 256).tmod 256).toNat, ?_, ?_, h2, h1⟩
  · have := Int.tmod_lt_of_pos (Int.tmod a 256 + 256) (show (0 : Int) < 256 by omega)
    omega
  · rw [Int.toNat_of_nonneg (Int.tmod_nonneg _ (by omega))]
theorem BVar.set {w : World} {b : Nat} {X : Blk} (h : BVar w b X) (k v : Nat) (hv : v < 256) : BVar (w.setCell ⟨b, k, none⟩ (.int .u8 (v : Int))) b (X.set k v hv) := by
  unfold BVar
  rw [← arr_set]
  exact heap_setCell_same w b k _ _ _ h
theorem bits_xor8 {x v : Nat} (hx : x < 256) (hv : v < 256) : bits .xor .u8 (x : Int) (v : Int) = ((x ^^^ v : Nat) : Int) := by
  exact u8_xor_nat x v hx hv
set_option maxRecDepth 100000 in
set_option maxHeartbeats 4000000 in
theorem superByte_any (hS : PSays) (hC : SumSays) (s : SuperV) (A : Option Addr) (n c : Nat) (l : List DescV) (a v : Int) (w : World) (hE : Env w) (hs : s.Fits) (hn : n = l.length) (hl : DRow w A l) (_ha : I64 a) (hv : 0 ≤ v ∧ v < 256) :
    Calls Tryd.prog 6 #[.agg (scs s), .slice A n c, .int .i64 a, .int .u8 v] w fun e w' => e = .returned (.bool true) ∧ Below w.heap.size w w' := by
  have HS := Lib.hid hS
  have HC := Lib.hid hC
  have HE := Lib.hid hE
  have HN := Lib.hid hn
  have hz := fun W => zero_blk W
  have hzs := fun W => zero_super W
  have P : Hid (KB s A l w (w.alloc (.cells (scs s) 26))) := Lib.hid ⟨(Below.refl _ _).alloc (Nat.le_refl _) _, heap_alloc_new w _, hl⟩
  obtain ⟨k, hk, hka, hk1, hk2⟩ := rem_place a
  obtain ⟨v, rfl⟩ := Int.eq_ofNat_of_zero_le hv.1
  have hv' : v < 256 := by omega
  clear hS hC hE
  by_cases hbig : 1000 < n
  · clear hl hv hka hk1 hk2 HN hn
    go_enter Tryd.func6, Tryd.ntmps6
    go_wp2_with fail
    generalize w.alloc (.cells (scs s) 26) = w1 at P ⊢
    refine (sAwake_any HS.out HC.out w1 (HE.out.below P.out.low)).mono ?_
    rintro e w2 ⟨rfl, hb⟩
    have P := Lib.hid (P.out.below hb)
    clear hb
    go_wp2_with fail
    go_ret
    exact ⟨rfl, P.out.low⟩
  have hmost := hl.most
  rw [← hn] at hmost
  clear hl hv hn
  go_enter Tryd.func6, Tryd.ntmps6
  go_wp2_with fail
  generalize w.alloc (.cells (scs s) 26) = w1 at P ⊢
  refine (sAwake_any HS.out HC.out w1 (HE.out.below P.out.low)).mono ?_
  rintro e w2 ⟨rfl, hb⟩
  have P := Lib.hid (P.out.below hb)
  clear hb
  go_wp2_with (refine load_super rfl (.tmp 4) rfl w.heap.size 0 rfl s P.out.sup.at ?_)
  refine (HS.out.write s w2 hs (HE.out.below P.out.low)).mono ?_
  rintro e w3 ⟨rfl, hb⟩
  have P := Lib.hid (P.out.below hb)
  clear hb
  go_wp2_with (first
    | (refine store_newB rfl (.tmp 9) (.tmp 29) rfl _ rfl rfl ?_)
    | (refine load_geo rfl (.tmp 32) rfl w.heap.size 0 rfl s.g (P.out.alloc _).sup.geo ?_))
  have N1 : Hid (w.heap.size < w3.heap.size) := Lib.hid P.out.sup.lt
  have P := Lib.hid (P.out.alloc (.cells (arr (writeS s).1) 29))
  have V1 := Lib.hid (BVar.new w3 (writeS s).1)
  generalize w3.alloc (.cells (arr (writeS s).1) 29) = w4 at P V1 ⊢
  generalize w3.heap.size = b1 at N1 V1 ⊢
  refine (HS.out.writeD s.g A n c l w4 hs.g (HE.out.below P.out.low) HN.out P.out.row).mono ?_
  rintro e w5 ⟨rfl, hb⟩
  have P := Lib.hid (P.out.below hb)
  have V1 := Lib.hid (V1.out.below hb)
  clear hb
  go_upto_region 8 with (first
    | (refine store_newB rfl (.tmp 11) (.tmp 36) rfl _ rfl rfl ?_))
  have N2 : Hid (w.heap.size < w5.heap.size) := Lib.hid P.out.sup.lt
  have N3 : Hid (b1 < w5.heap.size) := Lib.hid V1.out.lt
  have P := Lib.hid (P.out.alloc (.cells (arr (writeD s.g l).1) 29))
  have V1 := Lib.hid (V1.out.alloc (.cells (arr (writeD s.g l).1) 29))
  have V2 := Lib.hid (BVar.new w5 (writeD s.g l).1)
  generalize w5.alloc (.cells (arr (writeD s.g l).1) 29) = w6 at P V1 V2 ⊢
  generalize w5.heap.size = b2 at N2 N3 V2 ⊢
  have hc1 := V1.out.cell hk
  have hf1 := V1.out.frozen k
  have hx1 := bits_xor8 ((writeS s).1.lt k) hv'
  have hx2 := bits_xor8 ((writeD s.g l).1.lt k) hv'
  have VV1 := Lib.hid (V1.out.set k ((writeS s).1.f k ^^^ v) (Nat.xor_lt_two_pow (n := 8) ((writeS s).1.lt k) hv'))
  have VV2 := Lib.hid (V2.out.other (b' := b1) (by have := N3.out; omega) k (.int .u8 (((writeS s).1.f k ^^^ v : Nat) : Int)))
  have P := Lib.hid (P.out.set N1.out k (.int .u8 (((writeS s).1.f k ^^^ v : Nat) : Int)))
  have hc2 := VV2.out.cell hk
  have hf2 := VV2.out.frozen k
  go_upto_region 10 with fail
  have V1 := Lib.hid (VV1.out.other (b' := b2) (by have := N3.out; omega) k (.int .u8 (((writeD s.g l).1.f k ^^^ v : Nat) : Int)))
  have V2 := Lib.hid (VV2.out.set k ((writeD s.g l).1.f k ^^^ v) (Nat.xor_lt_two_pow (n := 8) ((writeD s.g l).1.lt k) hv'))
  have P := Lib.hid (P.out.set N2.out k (.int .u8 (((writeD s.g l).1.f k ^^^ v : Nat) : Int)))
  clear hc1 hc2 hf1 hf2 hx1 hx2 VV1 VV2
  generalize (w6.setCell ⟨b1, k, none⟩ (.int .u8 (((writeS s).1.f k ^^^ v : Nat) : Int))).setCell ⟨b2, k, none⟩ (.int .u8 (((writeD s.g l).1.f k ^^^ v : Nat) : Int)) = w7 at P V1 V2 ⊢
  have q1 : (writeS s).2 = 0 → ((readS (overB (writeS s).1 k v hv')).2 = 0 ↔ v = 0) := fun h => by
    have hm := writeS_ok h
    rw [writeS_may hm]; exact readS_over hm hs.o hk
  have q2 : (writeD s.g l).2 = 0 → ((readD s.g (overB (writeD s.g l).1 k v hv')).2 = 0 ↔ v = 0) := fun h => by
    have ⟨hm, hd⟩ := writeD_ok h
    rw [writeD_may hm hd]; exact readD_over hm hd hk
  change Hid (BVar w7 b1 (overB (writeS s).1 k v hv')) at V1
  change Hid (BVar w7 b2 (overB (writeD s.g l).1 k v hv')) at V2
  generalize overB (writeS s).1 k v hv' = Y1 at q1 V1
  generalize overB (writeD s.g l).1 k v hv' = Y2 at q2 V2
  generalize (writeS s).2 = e1 at q1 ⊢
  generalize (writeD s.g l).2 = e2 at q2 ⊢
  have y1 : e1 = 0 → ((readS Y1).2 == 0) = ((v : Int) == 0) := fun h => by rw [Bool.eq_iff_iff, beq_iff_eq, beq_iff_eq, q1 h]; omega
  have y2 : e2 = 0 → ((readD s.g Y2).2 == 0) = ((v : Int) == 0) := fun h => by rw [Bool.eq_iff_iff, beq_iff_eq, beq_iff_eq, q2 h]; omega
  clear q1 q2
  have j1 : ((e1 == 0) = false ∧ (e1 != 0) = true) ∨ (e1 = 0 ∧ ((readS Y1).2 == 0) = ((v : Int) == 0)) := by
    by_cases h : e1 = 0
    · exact .inr ⟨h, y1 h⟩
    · exact .inl (not_zero h)
  have j2 : ((e2 == 0) = false ∧ (e2 != 0) = true) ∨ (e2 = 0 ∧ ((readD s.g Y2).2 == 0) = ((v : Int) == 0)) := by
    by_cases h : e2 = 0
    · exact .inr ⟨h, y2 h⟩
    · exact .inl (not_zero h)
  clear y1 y2
  rcases j1 with ⟨a1, a2⟩ | ⟨rfl, a1⟩ <;> rcases j2 with ⟨a3, a4⟩ | ⟨rfl, a3⟩
  all_goals go_wp2_with (first
      | (refine load_blk rfl (.tmp 9) rfl b1 0 rfl Y1 V1.out.at ?_)
      | (refine load_blk rfl (.tmp 11) rfl b2 0 rfl Y2 V2.out.at ?_)
      | (refine load_geo rfl (.tmp 67) rfl w.heap.size 0 rfl s.g P.out.sup.geo ?_)
      | (refine store_newS rfl (.tmp 13) (.tmp 57) rfl _ rfl rfl ?_; have P := Lib.hid (P.out.alloc (.cells (scs (readS Y1).1) 26)); have V2 := Lib.hid (V2.out.alloc (.cells (scs (readS Y1).1) 26)))
      | (go_at_call 16; refine (HS.out.read Y1 _ (HE.out.below P.out.low)).mono ?_; rintro e wn ⟨rfl, hb⟩; have P := Lib.hid (P.out.below hb); have V2 := Lib.hid (V2.out.below hb); clear hb)
      | (go_at_call 19; refine (HS.out.readD s.g Y2 _ hs.g (HE.out.below P.out.low)).mono ?_; rintro e wn ⟨A5, n5, c5, rfl, g1, g2, g3, g4, hb⟩; have P := Lib.hid (P.out.below hb); clear hb g1 g2 g3 g4))
  all_goals go_ret
  all_goals refine ⟨?_, P.out.low⟩
  all_goals first | rfl | simp [a1, a3]
end Go.Proofs.YtmlmpflfejbbcaaDoor
