import Derived.Test.YtmlmpflfejbbcaaDoorSuperL3
import Derived.Test.YtmlmpflfejbbcaaDoorSupA
namespace Go.Proofs.YtmlmpflfejbbcaaDoor
open Go.RowKit CrcM

/-! The law SuperRow. -/
structure RW (g : GeoV) (A : Option Addr) (l : List DescV) (w0 : World) (b : Nat) (X : Blk) (w : World) : Prop where
  low : Below w0.heap.size w0 w
  geo : GVar w w0.heap.size g
  row0 : DRow w0 A l
  blk : BVar w b X
theorem RW.row {g : GeoV} {A : Option Addr} {l : List DescV} {w0 w : World} {b : Nat} {X : Blk} (h : RW g A l w0 b X w) : DRow w A l := h.row0.below h.low
theorem RW.below {g : GeoV} {A : Option Addr} {l : List DescV} {w0 w w' : World} {b : Nat} {X : Blk} (h : RW g A l w0 b X w) (hb : Below w.heap.size w w') : RW g A l w0 b X w' := ⟨h.low.trans (hb.mono h.low.size), h.geo.below hb, h.row0, h.blk.below hb⟩
theorem RW.alloc {g : GeoV} {A : Option Addr} {l : List DescV} {w0 w : World} {b : Nat} {X : Blk} (h : RW g A l w0 b X w) (o : Obj) : RW g A l w0 b X (w.alloc o) := h.below ((Below.refl _ _).alloc (Nat.le_refl _) o)
theorem RW.set {g : GeoV} {A : Option Addr} {l : List DescV} {w0 w : World} {b b' : Nat} {X : Blk} (h : RW g A l w0 b X w) (h1 : w0.heap.size < b') (h2 : b < b') (k : Nat) (v : Value) : RW g A l w0 b X (w.setCell ⟨b', k, none⟩ v) :=
  ⟨h.low.setCell (p := ⟨b', k, none⟩) (Nat.le_of_lt h1) v, (Below.heap_setCell w ⟨b', k, none⟩ v w0.heap.size (by show w0.heap.size ≠ b'; omega)).trans h.geo, h.row0, h.blk.other (by omega) k v⟩
theorem zero_geo (w : World) : (zeroValue 23).run Tryd.prog w = .ok (.agg (gcs .zero)) w := by
  have h : (Tryd.prog.info? 23).map (fun i => (i.zero, i.size)) = some (some (.agg #[.int .i64 0, .int .i64 0, .int .i64 0, .int .i64 0]), 4) := by kernel_rfl
  rw [(zero_of_info h).1 w, gcs_eq]; rfl
theorem gcs_one (g : GeoV) : (gcs g).all (·.oneCell') = true := by rw [gcs_eq]; simp [Value.oneCell']
theorem gcs_count (g : GeoV) : (gcs g).size = 4 := by rw [gcs_eq]; rfl
theorem store_newG {ops : Array Oper} {rest : List Oper} {op : Oper} {a : Act} {w : World} {Q : Exit → Act → World → Prop} (hgd : op.guard = none) (x y : Operand) (ho : op.op = .store 23 x y) (s : GeoV) (hx : a.eval x = .pointer (some ⟨w.heap.size, 0, none⟩)) (hy : a.eval y = .agg (gcs s))
    (h : wpList Tryd.prog ops Q rest (a.put op.dst undef) (w.alloc (.cells (gcs s) 23))) : wpList Tryd.prog ops Q (op :: rest) a (w.alloc (.cells (gcs .zero) 23)) := by
  refine wpList_plain hgd fun _ hK => ?_
  unfold Oper.wp execOp
  have e := run_storeVar_row (P := Tryd.prog) (w.alloc (.cells (gcs .zero) 23)) w.heap.size 23 23 (gcs .zero) (gcs s) (heap_alloc_new w _) (by rw [gcs_count]; exact geo_size4) (by rw [gcs_count, gcs_count]) (gcs_one s)
  simp only [ho, hx, hy, Instr.storeAt, Instr.sureAddr, Sem.run_bind, Sem.run_pure, Result.andThen_ok, e]
  rw [World.setRow_alloc_new]
  exact hK _ _ h
theorem gcs_less (g : GeoV) : (gcs g).setIfInBounds 0 (.int .i64 (g.gr - 1)) = gcs g.less := by rw [gcs_eq, gcs_eq]; rfl
theorem GVar.lessen {w : World} {b : Nat} {g : GeoV} (h : GVar w b g) : GVar (w.setCell ⟨b, 0, none⟩ (.int .i64 (g.gr - 1))) b g.less := by
  unfold GVar
  rw [← gcs_less]
  exact heap_setCell_same w b 0 _ _ _ h
theorem built_desc0 : Tryd.prog.built 48 [] = some (dcs .zero) := by
  have h : Tryd.prog.built 48 [] = some #[.int .i64 0, .int .i64 0, .int .i64 0] := by kernel_rfl
  rw [h, dcs_eq]; rfl
theorem build_zeroD {ops : Array Oper} {rest : List Oper} {op : Oper} {a : Act} {w : World} {Q : Exit → Act → World → Prop} (hgd : op.guard = none) (ho : op.op = .build 48 #[])
    (h : wpList Tryd.prog ops Q rest (a.put op.dst (.agg (dcs .zero))) w) : wpList Tryd.prog ops Q (op :: rest) a w :=
  wpList_plain hgd fun _ hK => wp_build 48 #[] ho (by simp [built_desc0]) (hK _ _ (by simpa [built_desc0] using h))
theorem less_fits {g : GeoV} (hg : May g) (hf : g.Fits) : g.less.Fits := ⟨by have := hg.1; have := hg.2.1; unfold I64 GeoV.less; simp only; omega, hf.sz, hf.ino, hf.jr⟩
set_option maxRecDepth 100000 in
set_option maxHeartbeats 4000000 in
theorem superRow_any (hS : PSays) (hC : SumSays) (g : GeoV) (A : Option Addr) (n c : Nat) (l : List DescV) (w : World) (hE : Env w) (hg : g.Fits) (hn : n = l.length) (hnc : n ≤ c) (hl : DRow w A l) :
    Calls Tryd.prog 10 #[.agg (gcs g), .slice A n c] w fun e w' => e = .returned (.bool true) ∧ Below w.heap.size w w' := by
  have HS := Lib.hid hS
  have HC := Lib.hid hC
  have HE := Lib.hid hE
  have HN := Lib.hid hn
  have hz := fun W => zero_blk W
  have hzg := fun W => zero_geo W
  have V0 : Hid (GVar (w.alloc (.cells (gcs g) 23)) w.heap.size g) := Lib.hid (heap_alloc_new w _)
  have B0 := Lib.hid ((Below.refl w.heap.size w).alloc (Nat.le_refl _) (.cells (gcs g) 23))
  have R0 := Lib.hid hl
  clear hS hC hE hn hl
  go_enter Tryd.func10, Tryd.ntmps10
  go_wp2_with fail
  generalize w.alloc (.cells (gcs g) 23) = w1 at V0 B0 ⊢
  refine (sAwake_any HS.out HC.out w1 (HE.out.below B0.out)).mono ?_
  rintro e w2 ⟨rfl, hb⟩
  have V0 := Lib.hid (V0.out.below hb)
  have B0 := Lib.hid (B0.out.trans (hb.mono B0.out.size))
  clear hb
  go_wp2_with (refine load_geo rfl (.tmp 2) rfl w.heap.size 0 rfl g V0.out.at ?_)
  refine (HS.out.writeD g A n c l w2 hg (HE.out.below B0.out) HN.out (R0.out.below B0.out)).mono ?_
  rintro e w3 ⟨rfl, hb⟩
  have V0 := Lib.hid (V0.out.below hb)
  have B0 := Lib.hid (B0.out.trans (hb.mono B0.out.size))
  clear hb
  by_cases he : (writeD g l).2 = 0
  · obtain ⟨hm, hd⟩ := writeD_ok he
    have hx := writeD_may hm hd
    have hrd := read_writeD hm hd
    rw [hx]
    clear he
    have P : Hid (RW g A l w w3.heap.size (descsB l) (w3.alloc (.cells (arr (descsB l)) 29))) := Lib.hid ⟨B0.out.alloc B0.out.size _, V0.out.below ((Below.refl _ _).alloc (Nat.le_refl _) _), R0.out, BVar.new w3 _⟩
    have N1 : Hid (w.heap.size < w3.heap.size) := Lib.hid V0.out.lt
    go_wp2_with (first
      | (refine store_newB rfl (.tmp 5) (.tmp 19) rfl (descsB l) rfl rfl ?_)
      | (refine load_geo rfl (.tmp 2) rfl w.heap.size 0 rfl g P.out.geo.at ?_)
      | (refine load_blk rfl (.tmp 5) rfl w3.heap.size 0 rfl _ P.out.blk.at ?_))
    generalize w3.alloc (.cells (arr (descsB l)) 29) = w4 at P ⊢
    generalize w3.heap.size = b5 at P N1 ⊢
    refine (HS.out.readD g (descsB l) w4 hg (HE.out.below P.out.low)).mono ?_
    rw [hrd]
    rintro e w5 ⟨A5, n5, c5, rfl, hn5, _, _, ho5, hb⟩
    rw [show ((l, (0 : Int)) : List DescV × Int).2 = 0 from rfl]
    have hn5' : n5 = l.length := hn5
    have hn5'' : (n5 : Int) = g.gr := by rw [hn5']; exact hd.1
    have N5 := Lib.hid hn5'
    have R5 : Hid (DRow w5 A5 l) := Lib.hid ho5.row
    have P := Lib.hid (P.out.below hb)
    have cg := P.out.geo.c0
    have m1 := hm.1
    have m2 := hm.2.1
    clear hb ho5 hn5 hn5' hrd hx
    go_upto_region 9 with (first
      | (go_at_call 15; refine (rSame_any A A5 n n5 c c5 l l _ HN.out N5.out P.out.row R5.out).mono ?_; rintro e wn ⟨rfl, hb⟩; have P := Lib.hid (P.out.below hb); have cg := P.out.geo.c0; clear hb; rw [decide_eq_true (rfl : l = l)]))
    go_upto_region 10 with (first
      | (refine load_geo rfl (.tmp 2) rfl w.heap.size 0 rfl g P.out.geo.at ?_)
      | (refine store_newG rfl (.tmp 9) (.tmp 44) rfl g rfl rfl ?_))
    have N9 : Hid (w.heap.size < wn.heap.size ∧ b5 < wn.heap.size) := Lib.hid ⟨P.out.geo.lt, P.out.blk.lt⟩
    have V9 : Hid (GVar (wn.alloc (.cells (gcs g) 23)) wn.heap.size g) := Lib.hid (heap_alloc_new wn _)
    have P := Lib.hid (P.out.alloc (.cells (gcs g) 23))
    generalize wn.alloc (.cells (gcs g) 23) = w6 at P V9 ⊢
    generalize wn.heap.size = b9 at N9 V9 ⊢
    have cg := P.out.geo.c0
    have hc9 := V9.out.c0
    have hf9 : w6.frozen? ⟨b9, 0, none⟩ = false := by simp [World.frozen?, (show w6.heap[b9]? = _ from V9.out)]
    have V9 := Lib.hid V9.out.lessen
    have P := Lib.hid (P.out.set N9.out.1 N9.out.2 0 (.int .i64 (g.gr - 1)))
    go_upto_region 11 with fail
    clear cg hc9 hf9
    generalize w6.setCell ⟨b9, 0, none⟩ (.int .i64 (g.gr - 1)) = w7 at P V9 ⊢
    go_wp2_with (first
      | (refine load_geo rfl (.tmp 9) rfl b9 0 rfl g.less V9.out.at ?_)
      | (refine load_blk rfl (.tmp 5) rfl b5 0 rfl _ P.out.blk.at ?_))
    refine (HS.out.readD g.less (descsB l) w7 (less_fits hm hg) (HE.out.below P.out.low)).mono ?_
    rintro e w8 ⟨A6, n6, c6, rfl, hn6, _, _, ho6, hb⟩
    have N6 := Lib.hid hn6
    have R6 := Lib.hid ho6.row
    have P := Lib.hid (P.out.below hb)
    have cg := P.out.geo.c0
    clear hb ho6 hn6
    by_cases h1 : g.gr = 1
    · rw [less_one h1]
      go_wp2
      go_ret
      exact ⟨rfl, P.out.low⟩
    · have f4 := hd.four hm
      obtain ⟨k, hk⟩ := Int.eq_ofNat_of_zero_le (show 0 ≤ g.gr - 1 by omega)
      have hk2 : (g.gr - 1).toNat = k := by omega
      have hkl : k < l.length := by have := hd.1; omega
      have hrows := less_rows hm hd h1 (d := l[k]) (by rw [hk2]; exact List.getElem?_eq_getElem hkl)
      rw [hk2] at hrows
      generalize readD g.less (descsB l) = r at hrows N6 R6 ⊢
      obtain ⟨M6, h⟩ := r
      have hr1 : h = 0 ↔ l[k] = .zero := hrows.1
      have hr2 : h = 0 → M6 = l.take k := hrows.2
      rw [show ((M6, h) : List DescV × Int).2 = h from rfl]
      have N6 : Hid (n6 = M6.length) := N6
      have R6 : Hid (DRow w8 A6 M6) := R6
      obtain ⟨b, o, rfl, _, hc⟩ := P.out.row.mem (by omega)
      have D := Lib.hid (hc k _ (List.getElem?_eq_getElem hkl))
      have hgd := desc_guard
      have z1 : (0 : Int) ≤ k := by omega
      have z2 : (k : Int) < n := by have := HN.out; omega
      have z3 : k ≤ c := by have := HN.out; omega
      have z4 : (k : Int) ≤ c := by omega
      have heq := fun W => equalIn_desc l[k] .zero W
      have T := Lib.hid (P.out.row.take k)
      have h1' : (g.gr == 1) = false := by simp [h1]
      clear hc hrows hk2 hm hd f4 m1 m2
      by_cases h0 : h = 0
      · obtain rfl := hr2 h0
        rw [decide_eq_true (hr1.1 h0)] at heq
        subst h0
        clear hr1 hr2
        go_wp2_with (first
          | (refine load_desc rfl (.tmp 64) rfl b (o + k * 3) rfl l[k] D.out ?_)
          | (refine build_zeroD rfl rfl ?_)
          | (go_at_call 15; refine (rSame_any A6 _ n6 k c6 c (l.take k) (l.take k) _ N6.out (by rw [List.length_take]; omega) R6.out T.out).mono ?_; rintro e wn ⟨rfl, hb⟩; have P := Lib.hid (P.out.below hb); clear hb; rw [decide_eq_true (rfl : l.take k = l.take k)]))
        go_ret
        exact ⟨rfl, P.out.low⟩
      · have ⟨a1, a2⟩ := not_zero h0
        rw [decide_eq_false (fun q => h0 (hr1.2 q))] at heq
        clear hr1 hr2 h0
        go_wp2_with (first
          | (refine load_desc rfl (.tmp 64) rfl b (o + k * 3) rfl l[k] D.out ?_)
          | (refine build_zeroD rfl rfl ?_))
        go_ret
        refine ⟨?_, P.out.low⟩
        first | rfl | simp [a1, a2]
  · have ⟨a1, a2⟩ := not_zero he
    clear he
    go_wp2_with (first
      | (refine store_newB rfl (.tmp 5) (.tmp 19) rfl _ rfl rfl ?_))
    go_ret
    refine ⟨rfl, B0.out.alloc B0.out.size _⟩
end Go.Proofs.YtmlmpflfejbbcaaDoor
