import Derived.Test.YtmlmpflfejbbcaaDoorSupAw
import Derived.Test.YtmlmpflfejbbcaaDoorSupA
namespace Go.Proofs.YtmlmpflfejbbcaaDoor
open Go.RowKit CrcM

/-! The law SuperKinds. -/
structure KW (s : SuperV) (g : GeoV) (A : Option Addr) (l : List DescV) (w0 w : World) : Prop where
  low : Below w0.heap.size w0 w
  sup : SVar w w0.heap.size s
  geo : GVar w (w0.heap.size + 1) g
  row : DRow w A l
theorem KW.below {s : SuperV} {g : GeoV} {A : Option Addr} {l : List DescV} {w0 w w' : World} (h : KW s g A l w0 w) (hb : Below w.heap.size w w') : KW s g A l w0 w' :=
  ⟨h.low.trans (hb.mono h.low.size), h.sup.below hb, h.geo.below hb, h.row.below hb⟩
theorem KW.alloc {s : SuperV} {g : GeoV} {A : Option Addr} {l : List DescV} {w0 w : World} (h : KW s g A l w0 w) (o : Obj) : KW s g A l w0 (w.alloc o) := h.below ((Below.refl _ _).alloc (Nat.le_refl _) o)
theorem BVar.new (w : World) (X : Blk) : BVar (w.alloc (.cells (arr X) 29)) w.heap.size X := heap_alloc_new w _
theorem BVar.alloc {w : World} {b : Nat} {X : Blk} (h : BVar w b X) (o : Obj) : BVar (w.alloc o) b X := h.below ((Below.refl _ _).alloc (Nat.le_refl _) o)
theorem not_zero {e : Int} (h : ¬ e = 0) : (e == 0) = false ∧ (e != 0) = true := by simp [h]
theorem two_ways {a b : Int} (h : ¬ (a = 0 ∧ b = 0)) : ((a == 0) = false ∧ (a != 0) = true) ∨ (a = 0 ∧ (b == 0) = false ∧ (b != 0) = true) := by
  by_cases h1 : a = 0
  · exact .inr ⟨h1, not_zero fun h2 => h ⟨h1, h2⟩⟩
  · exact .inl (not_zero h1)
set_option maxRecDepth 100000 in
set_option maxHeartbeats 4000000 in
theorem superKinds_any (hS : PSays) (hC : SumSays) (s : SuperV) (g : GeoV) (A : Option Addr) (n c : Nat) (l : List DescV) (w : World) (hE : Env w) (hs : s.Fits) (hg : g.Fits) (hn : n = l.length) (hl : DRow w A l) :
    Calls Tryd.prog 9 #[.agg (scs s), .slice A n c, .agg (gcs g)] w fun e w' => e = .returned (.bool true) ∧ Below w.heap.size w w' := by
  have HS := Lib.hid hS
  have HC := Lib.hid hC
  have HE := Lib.hid hE
  have HN := Lib.hid hn
  have hz := fun W => zero_blk W
  have hzs := fun W => zero_super W
  have P : Hid (KW s g A l w ((w.alloc (.cells (scs s) 26)).alloc (.cells (gcs g) 23))) := Lib.hid ⟨((Below.refl _ _).alloc (Nat.le_refl _) _).alloc (by simp) _, heap_alloc2_old w _ _, heap_alloc2_new w _ _, (hl.below ((Below.refl _ _).alloc (Nat.le_refl _) _)).below ((Below.refl _ _).alloc (Nat.le_refl _) _)⟩
  clear hS hC hE hl hn
  go_enter Tryd.func9, Tryd.ntmps9
  go_wp2_with fail
  generalize (w.alloc (.cells (scs s) 26)).alloc (.cells (gcs g) 23) = w1 at P ⊢
  refine (sAwake_any HS.out HC.out w1 (HE.out.below P.out.low)).mono ?_
  rintro e w2 ⟨rfl, hb⟩
  have P := Lib.hid (P.out.below hb)
  clear hb
  go_wp2_with (refine load_super rfl (.tmp 3) rfl w.heap.size 0 rfl s P.out.sup.at ?_)
  refine (HS.out.write s w2 hs (HE.out.below P.out.low)).mono ?_
  rintro e w3 ⟨rfl, hb⟩
  have P := Lib.hid (P.out.below hb)
  clear hb
  go_wp2_with (first
    | (refine store_newB rfl (.tmp 7) (.tmp 20) rfl _ rfl rfl ?_)
    | (refine load_geo rfl (.tmp 5) rfl (w.heap.size + 1) 0 rfl g (P.out.alloc _).geo.at ?_)
    | (refine load_blk rfl (.tmp 7) rfl w3.heap.size 0 rfl _ (BVar.new w3 _).at ?_))
  have P := Lib.hid (P.out.alloc (.cells (arr (writeS s).1) 29))
  generalize w3.alloc (.cells (arr (writeS s).1) 29) = w4 at P ⊢
  refine (HS.out.readD g (writeS s).1 w4 hg (HE.out.below P.out.low)).mono ?_
  rintro e w5 ⟨A5, n5, c5, rfl, hn5, hc5, hc5', ho5, hb⟩
  have P := Lib.hid (P.out.below hb)
  clear hb ho5 hn5 hc5 hc5'
  go_wp2_with (first
    | (refine load_geo rfl (.tmp 29) rfl w.heap.size 0 rfl s.g P.out.sup.geo ?_))
  refine (HS.out.writeD s.g A n c l w5 hs.g (HE.out.below P.out.low) HN.out P.out.row).mono ?_
  rintro e w6 ⟨rfl, hb⟩
  have P := Lib.hid (P.out.below hb)
  clear hb
  go_wp2_with (first
    | (refine store_newB rfl (.tmp 11) (.tmp 33) rfl _ rfl rfl ?_)
    | (refine load_blk rfl (.tmp 11) rfl w6.heap.size 0 rfl _ (BVar.new w6 _).at ?_))
  have P := Lib.hid (P.out.alloc (.cells (arr (writeD s.g l).1) 29))
  generalize w6.alloc (.cells (arr (writeD s.g l).1) 29) = w7 at P ⊢
  refine (HS.out.read (writeD s.g l).1 w7 (HE.out.below P.out.low)).mono ?_
  rintro e w8 ⟨rfl, hb⟩
  have P := Lib.hid (P.out.below hb)
  clear hb
  have k1 : ¬ ((writeS s).2 = 0 ∧ (readD g (writeS s).1).2 = 0) := fun ⟨h1, h2⟩ => by
    have hm := writeS_ok h1
    rw [writeS_may hm] at h2
    exact super_no_descs (superB_is hm.1 hs.o) g h2
  have k2 : ¬ ((writeD s.g l).2 = 0 ∧ (readS (writeD s.g l).1).2 = 0) := fun ⟨h1, h2⟩ => by
    have ⟨hm, hd⟩ := writeD_ok h1
    rw [writeD_may hm hd] at h2
    exact descs_no_super (descsB_is (hd.small hm) (by have := hd.four hm; omega)) (hd.four hm).1 h2
  generalize (writeS s).2 = e1 at k1 ⊢
  generalize (readD g (writeS s).1).2 = e2 at k1 ⊢
  generalize (writeD s.g l).2 = e3 at k2 ⊢
  generalize (readS (writeD s.g l).1).2 = e4 at k2 ⊢
  have j1 := two_ways k1
  have j2 := two_ways k2
  clear k1 k2
  rcases j1 with ⟨a1, a2⟩ | ⟨rfl, a1, a2⟩ <;> rcases j2 with ⟨a3, a4⟩ | ⟨rfl, a3, a4⟩
  all_goals go_wp2_with (first
    | (refine store_newS rfl (.tmp 13) (.tmp 38) rfl _ rfl rfl ?_))
  all_goals go_ret
  all_goals refine ⟨?_, (P.out.alloc _).low⟩
  all_goals first | rfl | simp [a1, a2, a3, a4]
end Go.Proofs.YtmlmpflfejbbcaaDoor
