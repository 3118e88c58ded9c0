import Derived.Test.YtmlmpflfejbbcaaDoorSupPa
import Derived.Test.YtmlmpflfejbbcaaDoorSupA
import Derived.Test.YtmlmpflfejbbcaaDoorGeoPb
namespace Go.Proofs.YtmlmpflfejbbcaaDoor
open Go.RowKit CrcM

/-! What is read is what was written: a block holds all that is fixed just if to write again what was read of it makes it. -/
theorem May.small {s : SuperV} (h : May s.g) (ho : s.o < 4294967296) : s.Small := by
  obtain ⟨h1, h2, h3, h4, h5, h6, h7, h8, h9, h10, h11⟩ := h
  exact ⟨by omega, by omega, by omega, by omega, by omega, by omega, by omega, by omega, ho⟩
theorem superOf_small (x : Blk) : (superOf x).Small := by
  have h8 := g16_lt x.lt 8; have h10 := g16_lt x.lt 10; have h12 := g16_lt x.lt 12; have h14 := g16_lt x.lt 14
  have ho := g32_lt x.lt 16
  unfold superOf geoOf
  constructor <;> simp only <;> omega
theorem superB_of {s : SuperV} (hs : s.Small) : IsSuper (superB s) s := by
  obtain ⟨h1, h2, h3, h4, h5, h6, h7, h8, ho⟩ := hs
  unfold superB
  refine ⟨?_, ?_, ?_, ?_, ?_, ?_, ?_, ?_, ?_, sealB_sealed _⟩
  · rw [g32_seal (by omega)]; unfold superB0
    rw [g32_putB32_off (by omega), g32_putB16_off (by omega), g32_putB16_off (by omega), g32_putB16_off (by omega), g32_putB16_off (by omega), g32_putB16_off (by omega), g32_putB16_off (by omega), g32_putB32 (by omega) (by omega)]
  · rw [g16_seal (by omega)]; unfold superB0
    rw [g16_putB32_off (by omega), g16_putB16_off (by omega), g16_putB16_off (by omega), g16_putB16_off (by omega), g16_putB16_off (by omega), g16_putB16_off (by omega), g16_putB16 (by omega) (by omega)]
  · rw [g16_seal (by omega)]; unfold superB0
    rw [g16_putB32_off (by omega), g16_putB16_off (by omega), g16_putB16_off (by omega), g16_putB16_off (by omega), g16_putB16_off (by omega), g16_putB16 (by omega) (by omega)]
  · rw [g16_seal (by omega)]; unfold superB0
    rw [g16_putB32_off (by omega), g16_putB16_off (by omega), g16_putB16_off (by omega), g16_putB16_off (by omega), g16_putB16 (by omega) (by omega)]; omega
  · rw [g16_seal (by omega)]; unfold superB0
    rw [g16_putB32_off (by omega), g16_putB16_off (by omega), g16_putB16_off (by omega), g16_putB16 (by omega) (by omega)]; omega
  · rw [g16_seal (by omega)]; unfold superB0
    rw [g16_putB32_off (by omega), g16_putB16_off (by omega), g16_putB16 (by omega) (by omega)]; omega
  · rw [g16_seal (by omega)]; unfold superB0
    rw [g16_putB32_off (by omega), g16_putB16 (by omega) (by omega)]; omega
  · rw [g32_seal (by omega)]; unfold superB0
    rw [g32_putB32 (by omega) ho]
  · intro i h20 h252
    rw [sealB_off h252]; unfold superB0
    rw [putB32_off (by omega), putB16_off (by omega), putB16_off (by omega), putB16_off (by omega), putB16_off (by omega), putB16_off (by omega), putB16_off (by omega), putB32_off (by omega)]
    rfl
theorem again_head (x : Blk) : superB (superOf x) = x ↔ HeadOK x := by
  constructor
  · intro h
    have := superB_of (superOf_small x)
    rw [h] at this
    exact ⟨this.magic, this.one, this.size, this.sum, this.noughts⟩
  · intro ⟨a, b, c, d, e⟩
    exact (superB_of (superOf_small x)).same ⟨a, b, c, rfl, rfl, rfl, rfl, rfl, e, d⟩
theorem writeS_geo {s : SuperV} (h : ¬ May s.g) : writeS s = (.zero, 50) := by unfold writeS; rw [if_pos h]
theorem writeS_arg {s : SuperV} (h : May s.g) (k : ¬ ((s.o : Nat) : Int) ≤ s.g.gr * s.g.ino) : writeS s = (.zero, 2) := by unfold writeS; rw [if_neg (fun q => q h), if_pos k]
theorem readS_head {x : Blk} (h : ¬ HeadOK x) : readS x = (.zero, 60) := by unfold readS; rw [if_pos h]
theorem readS_geo {x : Blk} (h : HeadOK x) (k : ¬ May (geoOf x)) : readS x = (.zero, 50) := by unfold readS; rw [if_neg (fun q => q h), if_pos k]
theorem readS_orphan {x : Blk} (h : HeadOK x) (k : May (geoOf x)) (l : ¬ ((g32 x.f 16 : Nat) : Int) ≤ (geoOf x).gr * (geoOf x).ino) : readS x = (.zero, 60) := by unfold readS; rw [if_neg (fun q => q h), if_neg (fun q => q k), if_pos l]
theorem readS_yes {x : Blk} (h : HeadOK x) (k : May (geoOf x)) (l : ((g32 x.f 16 : Nat) : Int) ≤ (geoOf x).gr * (geoOf x).ino) : readS x = (superOf x, 0) := by unfold readS; rw [if_neg (fun q => q h), if_neg (fun q => q k), if_neg (fun q => q l)]

/-! In memory. -/
theorem page_info : (Tryd.prog.info? 67).map (fun i => (i.zero, i.size)) = some (some (.agg ⟨bytesOf (fun _ => 0) 256 ++ [.int .i64 0]⟩), 257) := by kernel_rfl
theorem page_size (X : Blk) (k : Nat) : (Tryd.prog.info? 67).map (·.size) = some (pgs X k).size := by rw [pgs_size]; exact (zero_of_info page_info).2
theorem pgs_zero : pgs .zero 0 = ⟨bytesOf (fun _ => 0) 256 ++ [.int .i64 0]⟩ := by unfold pgs arr; exact List.push_toArray _ _
theorem zero_page (w : World) : (zeroValue 67).run Tryd.prog w = .ok (.agg (pgs .zero 0)) w := by
  have h := (zero_of_info page_info).1 w
  rw [h, pgs_zero]
theorem pgs_one (X : Blk) (k : Nat) : (pgs X k).all (·.oneCell') = true := by
  unfold pgs
  have := arr_one X
  simp only [Array.all_push, this, Bool.true_and]
  rfl
theorem super_built0 : Tryd.prog.built 26 [] = some (scs .zero) := by rw [scs_eq]; kernel_rfl
section
variable {ops : Array Oper} {rest : List Oper} {op : Oper} {a : Act} {w : World} {Q : Exit → Act → World → Prop}
theorem build_zeroS (hgd : op.guard = none) (ho : op.op = .build 26 #[])
    (h : wpList Tryd.prog ops Q rest (a.put op.dst (.agg (scs .zero))) w) : wpList Tryd.prog ops Q (op :: rest) a w :=
  wpList_plain hgd fun _ hK => wp_build 26 #[] ho (by simp [super_built0]) (hK _ _ (by simpa [super_built0] using h))
theorem store_rowS (hgd : op.guard = none) (x y : Operand) (ho : op.op = .store 26 x y) (b : Nat) (s r : SuperV) (hx : a.eval x = .pointer (some ⟨b, 0, none⟩)) (hy : a.eval y = .agg (scs s)) (hb : SVar w b r)
    (h : wpList Tryd.prog ops Q rest (a.put op.dst undef) (w.setRow b (scs s))) : wpList Tryd.prog ops Q (op :: rest) a w := by
  refine wpList_plain hgd fun _ hK => ?_
  unfold Oper.wp execOp
  simp only [ho, hx, hy, Instr.storeAt, Instr.sureAddr, Sem.run_bind, Sem.run_pure, Result.andThen_ok, run_storeVar_row w b 26 26 (scs r) (scs s) hb (by rw [scs_count]; exact super_size5) (by rw [scs_count, scs_count]) (scs_one s)]
  exact hK _ _ h
end
theorem quiet_superP {o : Oper} {a : Act} {C : World → Prop} {K : Act → Prop} (x : Operand) (ho : o.op = .load 26 x) (b off : Nat) (hx : a.eval x = .pointer (some ⟨b, off, none⟩)) (s : SuperV) (hc : ∀ w, C w → SAt w b off s)
    (hk : K (a.put o.dst (.agg (scs s)))) : o.quiet Tryd.prog a C K := by
  refine ⟨_, fun w hw => ?_, hk⟩
  unfold Oper.quietAt execOp
  have h := run_loadAt_mid (P := Tryd.prog) w b off 26 (scs s).toList _ (hc w hw) Tryd.underlying26 rfl (super_size s)
  simp only [ho, hx, h, Sem.run_bind, Sem.run_pure, Result.andThen_ok]
  exact ⟨rfl, by simp⟩
theorem results_super_tmp {fn : Func} {p u : Tmp} (h : fn.results = #[.cell p 26, .tmp u]) (tmps : Array Value) (w : World) (g : Nat) (s : SuperV) (hp : tmps.getD p undef = .pointer (some ⟨g, 0, none⟩)) (hg : SVar w g s) :
    (results fn tmps).run Tryd.prog w = .ok (.tuple #[.agg (scs s), tmps.getD u undef]) w := by
  have hp' : tmps[p]?.getD undef = .pointer (some ⟨g, 0, none⟩) := by simpa using hp
  simp [results, h, hp', asAddr, run_loadVar_row w g 26 26 (scs s) (0, 0) _ hg Tryd.underlying26 rfl (by rw [scs_count]; exact super_size5)]

theorem quiet_u32 {o : Oper} {a : Act} {C : World → Prop} {K : Act → Prop} (x : Operand) (ho : o.op = .load 24 x) (p : Addr) (hx : a.eval x = .pointer (some p)) (k : Int) (hc : ∀ w, C w → w.cell? p = some (.int .u32 k))
    (hk : K (a.put o.dst (.int .u32 k))) : o.quiet Tryd.prog a C K := by
  refine ⟨_, fun w hw => ?_, hk⟩
  have h := hc w hw
  unfold Oper.quietAt execOp
  simp only [ho, hx]
  go_simp
  first | done | exact ⟨rfl, hw⟩ | exact hw
set_option maxRecDepth 100000 in
set_option maxHeartbeats 1000000 in
theorem mayOrphan_any (s : SuperV) (w : World) (hs : s.Fits) (hm : May s.g) :
    Calls Tryd.prog 22 #[.agg (scs s)] w fun e w' => e = .returned (.bool (decide ((s.o : Int) ≤ s.g.gr * s.g.ino))) ∧ Below w.heap.size w w' := by
  have V := Lib.hid (show SVar (w.alloc (.cells (scs s) 26)) w.heap.size s from heap_alloc_new w _)
  have B := Lib.hid (below_new w (.cells (scs s) 26))
  have HG := Lib.hid hs.g
  have he : inodesG s.g = s.g.gr * s.g.ino := by unfold inodesG; rw [if_pos hm]
  have hb : 0 ≤ s.g.gr * s.g.ino ∧ s.g.gr * s.g.ino ≤ 256 := by
    obtain ⟨h1, h2, h3, h4, h5, h6, h7, h8, h9, h10, h11⟩ := hm
    exact ⟨Int.mul_nonneg (by omega) (by omega), by have := Int.mul_le_mul h2 h6 (by omega) (by omega); omega⟩
  have IN := Lib.hid (fun W => pInodes s.g W hs.g)
  rw [he] at IN
  have cO := V.out.c4
  generalize s.g.gr * s.g.ino = m at hb IN ⊢
  have u2 : m % 4294967296 = m := by omega
  have u1 : IntKind.u32.wrap m = m := by rw [IntKind.wrap_u32]; omega
  clear hm hs he
  go_enter Tryd.func22, Tryd.ntmps22
  go_wp2_with fail
  generalize w.alloc (.cells (scs s) 26) = w1 at V B cO ⊢
  refine wp_region_class (More w1) (by kernel_rfl) (by kernel_rfl) (More.drew _) ?_
  repeat (first | go_big_quiet_skip | (go_big_quiet_want; first | (refine quiet_geo _ rfl _ _ (by rfl) s.g (by intro w' hw'; exact (V.out.below hw').geo) ?_; simp only [Act.put, List.setIfInBounds_toArray, List.set_cons_zero, List.set_cons_succ]; go_big_quiet_on) | (refine quiet_u32 _ rfl _ (by rfl) _ (by intro w' hw'; exact (V.out.below hw').c4) ?_; simp only [Act.put, List.setIfInBounds_toArray, List.set_cons_zero, List.set_cons_succ]; go_big_quiet_on) | (go_big_quiet_op; first | go_big_quiet_on | (apply Exists.intro; refine ⟨fun _ _ => ?_, ?_⟩; (with_reducible exact rfl); go_big_quiet_on) | go_big_quiet_call ((intro hC; first | (with_reducible refine (IN.out _).mono ?_); exact fun e w' h => ⟨h.1, hC.on h.2⟩)))))
  refine wpQuiet_nil ?_
  intro w4 hw4
  have B4 := Lib.hid (B.out.trans (Below.mono hw4 B.out.size))
  clear hw4
  go_wp2
  go_ret
  exact ⟨rfl, B4.out⟩
end Go.Proofs.YtmlmpflfejbbcaaDoor
namespace Go.Proofs.YtmlmpflfejbbcaaDoor
open Go.RowKit CrcM

set_option maxRecDepth 100000 in
set_option maxHeartbeats 1000000 in
theorem superOf_any (s : SuperV) (w : World) (hs : s.Small) (hE : Env w) :
    Calls Tryd.prog 23 #[.agg (scs s)] w fun e w' => e = .returned (.agg (arr (superB s))) ∧ Below w.heap.size w w' := by
  have hz := fun W => zero_blk W
  have hzp := fun W => zero_page W
  have b1 := below_new w (.cells (scs s) 26)
  have b2 := below_new (w.alloc (.cells (scs s) 26)) (.cells (arr .zero) 29)
  have b3 := below_new ((w.alloc (.cells (scs s) 26)).alloc (.cells (arr .zero) 29)) (.cells (pgs .zero 0) 67)
  have q1 : SVar (w.alloc (.cells (scs s) 26)) w.heap.size s := heap_alloc_new w _
  have q2 : BVar ((w.alloc (.cells (scs s) 26)).alloc (.cells (arr .zero) 29)) (w.heap.size + 1) .zero := heap_alloc2_new w _ _
  have q3 : PVar (((w.alloc (.cells (scs s) 26)).alloc (.cells (arr .zero) 29)).alloc (.cells (pgs .zero 0) 67)) (w.heap.size + 2) .zero 0 := by
    have := heap_alloc_new ((w.alloc (.cells (scs s) 26)).alloc (.cells (arr .zero) 29)) (.cells (pgs .zero 0) 67)
    rw [World.size_alloc, World.size_alloc] at this
    exact this
  have V1 := Lib.hid ((q1.below b2).below b3)
  have N1 := Lib.hid (q2.below b3)
  have P1 := Lib.hid q3
  have B1 := Lib.hid ((b1.trans (b2.mono (by simp))).trans (b3.mono (by simp; omega)))
  have HE := Lib.hid hE
  have SM := Lib.hid hs
  clear b1 b2 b3 q1 q2 q3 hE hs
  go_enter Tryd.func23, Tryd.ntmps23
  go_wp2_with fail
  generalize ((w.alloc (.cells (scs s) 26)).alloc (.cells (arr .zero) 29)).alloc (.cells (pgs .zero 0) 67) = w1 at V1 N1 P1 B1 ⊢
  refine (superNums_put (w.heap.size + 2) w.heap.size s w1 P1.out V1.out (by omega) SM.out).mono ?_
  rintro e w2 ⟨rfl, hp2, ho2⟩
  have P2 := Lib.hid hp2
  have B2 := Lib.hid (B1.out.trans (ho2.below (B := w.heap.size) (by omega) B1.out.size))
  have N2 : Hid (BVar w2 (w.heap.size + 1) .zero) := Lib.hid ((ho2.block _ N1.out.lt (fun e => by injection e with e; omega)).trans N1.out)
  clear hp2 ho2 N1 P1 V1
  go_wp2_with fail
  refine (sealed_any (w.heap.size + 2) 20 (superB0 s) w2 P2.out (HE.out.below B2.out)).mono ?_
  rintro e w3 ⟨rfl, ho3⟩
  have B3 := Lib.hid (B2.out.trans (ho3.below (B := w.heap.size) (by omega) B2.out.size))
  have N3 : Hid (BVar w3 (w.heap.size + 1) .zero) := Lib.hid ((ho3.block _ N2.out.lt (fun e => by injection e with e; omega)).trans N2.out)
  clear ho3 N2 P2
  have es : sealB (superB0 s) = superB s := by unfold superB; rfl
  rw [es]
  go_wp2_with (first
    | (refine store_row rfl (.tmp 2) (.tmp 7) rfl (w.heap.size + 1) (superB s) .zero 29 rfl rfl N3.out ?_))
  exact bodyPost_ret (v := .agg (arr (superB s))) (results_blk Tryd.results23 _ _ (w.heap.size + 1) (superB s) _ rfl (setRow_heap _ _ _ _ _ _ N3.out)) rfl ⟨rfl, below_setRow B3.out (by omega) _⟩
theorem may_false {g : GeoV} (h : ¬ May g) : mayB g = false := decide_eq_false h
theorem may_true {g : GeoV} (h : May g) : mayB g = true := decide_eq_true h
theorem results_blk_err {fn : Func} {p u : Tmp} (h : fn.results = #[.cell p 29, .tmp u]) (tmps : Array Value) (w : World) (g : Nat) (X : Blk) (c : Int) (t : TypeId) (hp : tmps.getD p undef = .pointer (some ⟨g, 0, none⟩)) (hu : tmps.getD u undef = .int .i64 c) (hg : w.heap[g]? = some (.cells (arr X) t (0, 0))) :
    (results fn tmps).run Tryd.prog w = .ok (.tuple #[.agg (arr X), .int .i64 c]) w := by
  rw [results_blk_tmp h tmps w g X t hp hg, hu]
set_option maxRecDepth 100000 in
set_option maxHeartbeats 1000000 in
theorem pWrite (s : SuperV) (w : World) (hs : s.Fits) (hE : Env w) :
    Calls Tryd.prog 11 #[.agg (scs s)] w fun e w' => e = .returned (.tuple #[.agg (arr (writeS s).1), .int .i64 (writeS s).2]) ∧ Below w.heap.size w w' := by
  have hz := fun W => zero_blk W
  have b1 := below_new w (.cells (scs s) 26)
  have b2 := below_new (w.alloc (.cells (scs s) 26)) (.cells (arr .zero) 29)
  have q1 : SVar (w.alloc (.cells (scs s) 26)) w.heap.size s := heap_alloc_new w _
  have q2 : BVar ((w.alloc (.cells (scs s) 26)).alloc (.cells (arr .zero) 29)) (w.heap.size + 1) .zero := heap_alloc2_new w _ _
  have V1 := Lib.hid (q1.below b2)
  have N1 := Lib.hid q2
  have B1 := Lib.hid (b1.trans (b2.mono (by simp)))
  have HE := Lib.hid hE
  have HS := Lib.hid hs
  clear b1 b2 q1 q2 hE hs
  go_enter Tryd.func11, Tryd.ntmps11
  go_wp2_with (first | (refine load_geo rfl (.tmp 5) rfl w.heap.size 0 rfl s.g V1.out.geo ?_))
  generalize (w.alloc (.cells (scs s) 26)).alloc (.cells (arr .zero) 29) = w1 at V1 N1 B1 ⊢
  refine (pMay s.g w1 HS.out.g).mono ?_
  rintro e w2 ⟨rfl, hb⟩
  have V2 := Lib.hid (V1.out.below hb)
  have N2 := Lib.hid (N1.out.below hb)
  have B2 := Lib.hid (B1.out.trans (hb.mono B1.out.size))
  clear hb V1 N1 B1
  by_cases hm : May s.g
  · rw [may_true hm]
    have M := Lib.hid hm
    clear hm
    go_wp2_with (first | (refine load_super rfl (.tmp 11) rfl w.heap.size 0 rfl s V2.out.at ?_) | (refine load_super rfl (.tmp 1) rfl w.heap.size 0 rfl s V2.out.at ?_))
    refine (mayOrphan_any s w2 HS.out M.out).mono ?_
    rintro e w3 ⟨rfl, hb⟩
    have V3 := Lib.hid (V2.out.below hb)
    have N3 := Lib.hid (N2.out.below hb)
    have B3 := Lib.hid (B2.out.trans (hb.mono B2.out.size))
    clear hb V2 N2 B2
    by_cases ho : ((s.o : Nat) : Int) ≤ s.g.gr * s.g.ino
    · rw [decide_eq_true ho]
      have EW := Lib.hid (writeS_may ⟨M.out, ho⟩)
      clear ho
      go_wp2_with (first | (refine load_super rfl (.tmp 1) rfl w.heap.size 0 rfl s V3.out.at ?_))
      refine (superOf_any s w3 (M.out.small HS.out.o) (HE.out.below B3.out)).mono ?_
      rintro e w4 ⟨rfl, hb⟩
      have N4 := Lib.hid (N3.out.below hb)
      have B4 := Lib.hid (B3.out.trans (hb.mono B3.out.size))
      clear hb N3 B3
      go_wp2_with (first
        | (refine store_row rfl (.tmp 2) (.tmp 16) rfl (w.heap.size + 1) (superB s) .zero 29 rfl rfl N4.out ?_))
      exact bodyPost_ret (results_blk_err Tryd.results11 _ _ (w.heap.size + 1) (superB s) _ _ rfl rfl (setRow_heap _ _ _ _ _ _ N4.out)) rfl ⟨by rw [EW.out], below_setRow B4.out (by omega) _⟩
    · rw [decide_eq_false ho]
      have EW := Lib.hid (writeS_arg M.out ho)
      clear ho
      go_wp2_with (first
        | (refine build_zeroB rfl rfl ?_)
        | (refine store_row rfl (.tmp 2) (.tmp 14) rfl (w.heap.size + 1) .zero .zero 29 rfl rfl N3.out ?_))
      exact bodyPost_ret (results_blk_err Tryd.results11 _ _ (w.heap.size + 1) .zero _ _ rfl rfl (setRow_heap _ _ _ _ _ _ N3.out)) rfl ⟨by rw [EW.out], below_setRow B3.out (by omega) _⟩
  · rw [may_false hm]
    have EW := Lib.hid (writeS_geo hm)
    clear hm
    go_wp2_with (first
      | (refine build_zeroB rfl rfl ?_)
      | (refine store_row rfl (.tmp 2) (.tmp 9) rfl (w.heap.size + 1) .zero .zero 29 rfl rfl N2.out ?_))
    exact bodyPost_ret (results_blk_err Tryd.results11 _ _ (w.heap.size + 1) .zero _ _ rfl rfl (setRow_heap _ _ _ _ _ _ N2.out)) rfl ⟨by rw [EW.out], below_setRow B2.out (by omega) _⟩
end Go.Proofs.YtmlmpflfejbbcaaDoor
namespace Go.Proofs.YtmlmpflfejbbcaaDoor
open Go.RowKit CrcM

theorem page_built (X : Blk) : Tryd.prog.built 67 [(0, .agg (arr X))] = some (pgs X 0) := by
  unfold pgs arr
  kernel_rfl
theorem results_super_err {fn : Func} {p u : Tmp} (h : fn.results = #[.cell p 26, .tmp u]) (tmps : Array Value) (w : World) (g : Nat) (s : SuperV) (c : Int) (hp : tmps.getD p undef = .pointer (some ⟨g, 0, none⟩)) (hu : tmps.getD u undef = .int .i64 c) (hg : SVar w g s) :
    (results fn tmps).run Tryd.prog w = .ok (.tuple #[.agg (scs s), .int .i64 c]) w := by
  rw [results_super_tmp h tmps w g s hp hg, hu]
theorem SVar.row {w : World} {b : Nat} {s : SuperV} (h : SVar w b s) (r : SuperV) : SVar (w.setRow b (scs r)) b r := setRow_heap _ _ _ _ _ _ h
section
variable {ops : Array Oper} {rest : List Oper} {op : Oper} {a : Act} {w : World} {Q : Exit → Act → World → Prop}
theorem build_page (hgd : op.guard = none) (y : Operand) (ho : op.op = .build 67 #[(0, y)]) (X : Blk) (hy : a.eval y = .agg (arr X))
    (h : wpList Tryd.prog ops Q rest (a.put op.dst (.agg (pgs X 0))) w) : wpList Tryd.prog ops Q (op :: rest) a w :=
  wpList_plain hgd fun _ hK => wp_build 67 #[(0, y)] ho (by simp [hy, page_built]) (hK _ _ (by simpa [hy, page_built] using h))
theorem store_newP (hgd : op.guard = none) (x y : Operand) (ho : op.op = .store 67 x y) (X : Blk) (hx : a.eval x = .pointer (some ⟨w.heap.size, 0, none⟩)) (hy : a.eval y = .agg (pgs X 0))
    (h : wpList Tryd.prog ops Q rest (a.put op.dst undef) (w.alloc (.cells (pgs X 0) 67))) : wpList Tryd.prog ops Q (op :: rest) a (w.alloc (.cells (pgs .zero 0) 67)) := by
  refine wpList_plain hgd fun _ hK => ?_
  unfold Oper.wp execOp
  have e := run_storeVar_row (P := Tryd.prog) (w.alloc (.cells (pgs .zero 0) 67)) w.heap.size 67 67 (pgs .zero 0) (pgs X 0) (heap_alloc_new w _) (page_size X 0) (by rw [pgs_size, pgs_size]) (pgs_one X 0)
  simp only [ho, hx, hy, Instr.storeAt, Instr.sureAddr, Sem.run_bind, Sem.run_pure, Result.andThen_ok, e]
  rw [World.setRow_alloc_new]
  exact hK _ _ h
end
theorem Only2.low {p b B : Nat} {w w' : World} (h : Only2 p b w w') (hp : B ≤ p) (hb : B ≤ b) (hB : B ≤ w.heap.size) : Below B w w' :=
  ⟨h.1, h.2.1, h.2.2.1, h.2.2.2.1, fun i hi => h.2.2.2.2 i (by omega) (by omega) (by omega)⟩
/-- What Read keeps in memory: the block, its answer, what was read. -/
structure RB (w0 : World) (X : Blk) (w : World) : Prop where
  low : Below w0.heap.size w0 w
  blk : BVar w w0.heap.size X
  ans : SVar w (w0.heap.size + 1) .zero
  sup : SVar w (w0.heap.size + 2) (superOf X)
theorem RB.below {w0 w w' : World} {X : Blk} (h : RB w0 X w) (hb : Below w.heap.size w w') : RB w0 X w' := ⟨h.low.trans (hb.mono h.low.size), h.blk.below hb, h.ans.below hb, h.sup.below hb⟩
set_option maxRecDepth 100000 in
set_option maxHeartbeats 2000000 in
theorem pRead (X : Blk) (w : World) (hE : Env w) :
    Calls Tryd.prog 16 #[.agg (arr X)] w fun e w' => e = .returned (.tuple #[.agg (scs (readS X).1), .int .i64 (readS X).2]) ∧ Below w.heap.size w w' := by
  have hz := fun W => zero_blk W
  have hzs := fun W => zero_super W
  have hzp := fun W => zero_page W
  have b1 := below_new w (.cells (arr X) 29)
  have b2 := below_new (w.alloc (.cells (arr X) 29)) (.cells (scs .zero) 26)
  have b3 := below_new ((w.alloc (.cells (arr X) 29)).alloc (.cells (scs .zero) 26)) (.cells (scs .zero) 26)
  have q1 : BVar (w.alloc (.cells (arr X) 29)) w.heap.size X := heap_alloc_new w _
  have q2 : SVar ((w.alloc (.cells (arr X) 29)).alloc (.cells (scs .zero) 26)) (w.heap.size + 1) .zero := heap_alloc2_new w _ _
  have q3 : SVar (((w.alloc (.cells (arr X) 29)).alloc (.cells (scs .zero) 26)).alloc (.cells (scs .zero) 26)) (w.heap.size + 2) .zero := by
    have := heap_alloc_new ((w.alloc (.cells (arr X) 29)).alloc (.cells (scs .zero) 26)) (.cells (scs .zero) 26)
    rw [World.size_alloc, World.size_alloc] at this
    exact this
  have K1 := Lib.hid ((q1.below b2).below b3)
  have A1 := Lib.hid (q2.below b3)
  have S1 := Lib.hid q3
  have B1 := Lib.hid ((b1.trans (b2.mono (by simp))).trans (b3.mono (by simp; omega)))
  have HE := Lib.hid hE
  clear b1 b2 b3 q1 q2 q3 hE
  go_enter Tryd.func16, Tryd.ntmps16
  go_upto_region 2 with fail
  rw [show w.heap.size + 1 + 1 = w.heap.size + 2 from rfl]
  generalize ((w.alloc (.cells (arr X) 29)).alloc (.cells (scs .zero) 26)).alloc (.cells (scs .zero) 26) = w1 at K1 A1 S1 B1 ⊢
  go_wp2_with (first
    | (refine load_blk rfl (.tmp 1) rfl w.heap.size 0 rfl X K1.out.at ?_)
    | (refine build_page rfl (.tmp 6) rfl X rfl ?_)
    | (refine store_newP rfl (.tmp 5) (.tmp 7) rfl X rfl rfl ?_))
  have P2 := Lib.hid (show PVar (w1.alloc (.cells (pgs X 0) 67)) w1.heap.size X 0 from heap_alloc_new w1 _)
  have bn := below_new w1 (.cells (pgs X 0) 67)
  have K2 := Lib.hid (K1.out.below bn)
  have A2 := Lib.hid (A1.out.below bn)
  have S2 := Lib.hid (S1.out.below bn)
  have B2 := Lib.hid (B1.out.trans (bn.mono B1.out.size))
  have L := Lib.hid S1.out.lt
  clear bn K1 A1 S1
  generalize w1.alloc (.cells (pgs X 0) 67) = w2 at P2 K2 A2 S2 B2 ⊢
  generalize w1.heap.size = p at P2 L ⊢
  refine (superNums_get p (w.heap.size + 2) X .zero w2 P2.out S2.out (by have := L.out; omega)).mono ?_
  rintro e w3 ⟨rfl, _, hs3, ho3⟩
  have R3 : Hid (RB w X w3) := Lib.hid ⟨B2.out.trans (ho3.low (by have := L.out; omega) (by omega) B2.out.size), (ho3.2.2.2.2 _ K2.out.lt (by have := L.out; omega) (by omega)).trans K2.out, (ho3.2.2.2.2 _ A2.out.lt (by have := L.out; omega) (by omega)).trans A2.out, hs3⟩
  clear hs3 ho3 P2 K2 A2 S2 B2 L B1
  have SO := Lib.hid (fun W (hC : More w3 W) => superOf_any (superOf X) W (superOf_small X) (HE.out.below (R3.out.below hC).low))
  have heq := fun W => equalIn_blk (superB (superOf X)) X W
  have hg := blk_guard
  have FT := Lib.hid (superOf_fits X)
  by_cases hh : superB (superOf X) = X
  · rw [decide_eq_true hh] at heq
    have HH := Lib.hid ((again_head X).1 hh)
    clear hh
    go_wp2_with fail
    refine wp_region_class (More w3) (by kernel_rfl) (by kernel_rfl) (More.drew _) ?_
    repeat (first | go_big_quiet_skip | (go_big_quiet_want; first | (refine quiet_superP _ rfl _ _ (by rfl) (superOf X) (by intro w' hw'; exact (R3.out.below hw').sup.at) ?_; simp only [Act.put, List.setIfInBounds_toArray, List.set_cons_zero, List.set_cons_succ]; go_big_quiet_on) | (refine quiet_load _ rfl _ _ (by rfl) X (by intro w' hw'; exact (R3.out.below hw').blk.at) ?_; simp only [Act.put, List.setIfInBounds_toArray, List.set_cons_zero, List.set_cons_succ]; go_big_quiet_on) | (go_big_quiet_op; first | go_big_quiet_on | (apply Exists.intro; refine ⟨fun _ _ => ?_, ?_⟩; (with_reducible exact rfl); go_big_quiet_on) | go_big_quiet_call ((intro hC; first | (with_reducible refine (SO.out _ hC).mono ?_); exact fun e w' h => ⟨h.1, hC.on h.2⟩)))))
    refine wpQuiet_nil ?_
    intro w4 hw4
    have R4 := Lib.hid (R3.out.below hw4)
    clear hw4 R3
    go_wp2_with (first | (refine load_geo rfl (.tmp 18) rfl (w.heap.size + 2) 0 rfl (superOf X).g R4.out.sup.geo ?_))
    refine (pMay (superOf X).g w4 FT.out.g).mono ?_
    rintro e w5 ⟨rfl, hb⟩
    have R5 := Lib.hid (R4.out.below hb)
    clear hb R4
    by_cases hm : May (superOf X).g
    · rw [may_true hm]
      have M := Lib.hid hm
      clear hm
      go_wp2_with (first | (refine load_super rfl (.tmp 4) rfl (w.heap.size + 2) 0 rfl (superOf X) R5.out.sup.at ?_))
      refine (mayOrphan_any (superOf X) w5 FT.out M.out).mono ?_
      rintro e w6 ⟨rfl, hb⟩
      have R6 := Lib.hid (R5.out.below hb)
      clear hb R5
      by_cases ho : (((superOf X).o : Nat) : Int) ≤ (superOf X).g.gr * (superOf X).g.ino
      · rw [decide_eq_true ho]
        have EW := Lib.hid (readS_yes HH.out M.out ho)
        clear ho
        go_wp2_with (first
          | (refine load_super rfl (.tmp 4) rfl (w.heap.size + 2) 0 rfl (superOf X) R6.out.sup.at ?_)
          | (refine store_rowS rfl (.tmp 2) (.tmp 28) rfl (w.heap.size + 1) (superOf X) .zero rfl rfl R6.out.ans ?_))
        exact bodyPost_ret (results_super_err Tryd.results16 _ _ (w.heap.size + 1) (superOf X) _ rfl rfl (R6.out.ans.row _)) rfl ⟨by rw [EW.out], below_setRow R6.out.low (by omega) _⟩
      · rw [decide_eq_false ho]
        have EW := Lib.hid (readS_orphan HH.out M.out ho)
        clear ho
        go_wp2_with (first
          | (refine build_zeroS rfl rfl ?_)
          | (refine store_rowS rfl (.tmp 2) (.tmp 27) rfl (w.heap.size + 1) .zero .zero rfl rfl R6.out.ans ?_))
        exact bodyPost_ret (results_super_err Tryd.results16 _ _ (w.heap.size + 1) .zero _ rfl rfl (R6.out.ans.row _)) rfl ⟨by rw [EW.out], below_setRow R6.out.low (by omega) _⟩
    · rw [may_false hm]
      have EW := Lib.hid (readS_geo HH.out hm)
      clear hm
      go_wp2_with (first
        | (refine build_zeroS rfl rfl ?_)
        | (refine store_rowS rfl (.tmp 2) (.tmp 22) rfl (w.heap.size + 1) .zero .zero rfl rfl R5.out.ans ?_))
      exact bodyPost_ret (results_super_err Tryd.results16 _ _ (w.heap.size + 1) .zero _ rfl rfl (R5.out.ans.row _)) rfl ⟨by rw [EW.out], below_setRow R5.out.low (by omega) _⟩
  · rw [decide_eq_false hh] at heq
    have EW := Lib.hid (readS_head (fun q => hh ((again_head X).2 q)))
    clear hh
    go_wp2_with fail
    refine wp_region_class (More w3) (by kernel_rfl) (by kernel_rfl) (More.drew _) ?_
    repeat (first | go_big_quiet_skip | (go_big_quiet_want; first | (refine quiet_superP _ rfl _ _ (by rfl) (superOf X) (by intro w' hw'; exact (R3.out.below hw').sup.at) ?_; simp only [Act.put, List.setIfInBounds_toArray, List.set_cons_zero, List.set_cons_succ]; go_big_quiet_on) | (refine quiet_load _ rfl _ _ (by rfl) X (by intro w' hw'; exact (R3.out.below hw').blk.at) ?_; simp only [Act.put, List.setIfInBounds_toArray, List.set_cons_zero, List.set_cons_succ]; go_big_quiet_on) | (go_big_quiet_op; first | go_big_quiet_on | (apply Exists.intro; refine ⟨fun _ _ => ?_, ?_⟩; (with_reducible exact rfl); go_big_quiet_on) | go_big_quiet_call ((intro hC; first | (with_reducible refine (SO.out _ hC).mono ?_); exact fun e w' h => ⟨h.1, hC.on h.2⟩)))))
    refine wpQuiet_nil ?_
    intro w4 hw4
    have R4 := Lib.hid (R3.out.below hw4)
    clear hw4 R3
    go_wp2_with (first
      | (refine build_zeroS rfl rfl ?_)
      | (refine store_rowS rfl (.tmp 2) (.tmp 16) rfl (w.heap.size + 1) .zero .zero rfl rfl R4.out.ans ?_))
    exact bodyPost_ret (results_super_err Tryd.results16 _ _ (w.heap.size + 1) .zero _ rfl rfl (R4.out.ans.row _)) rfl ⟨by rw [EW.out], below_setRow R4.out.low (by omega) _⟩
end Go.Proofs.YtmlmpflfejbbcaaDoor
namespace Go.Proofs.YtmlmpflfejbbcaaDoor
open Go.RowKit CrcM

/-! Descriptors: their numbers, one behind the other. -/
theorem Only.setNew {g : Nat} {a b : World} (h : Only g a b) {q : Addr} (hq : a.heap.size ≤ q.block) (v : Value) : Only g a (b.setCell q v) :=
  ⟨h.os, h.tape, h.output, by simpa [World.setCell] using h.size, fun i hi hne => (Below.heap_setCell b _ v i (by omega)).trans (h.block i hi hne)⟩
theorem Only.desc {g b o : Nat} {w w' : World} {d : DescV} (h : Only g w w') (hne : b ≠ g) (hd : DAt w b o d) : DAt w' b o d := fun i v hv => h.cell hne (hd i v hv)
theorem DAt.c0 {w : World} {b o : Nat} {d : DescV} (h : DAt w b o d) : w.cell? ⟨b, o, none⟩ = some (.int .i64 d.b) := h 0 _ (by rw [dcs_eq]; rfl)
theorem DAt.c1 {w : World} {b o : Nat} {d : DescV} (h : DAt w b o d) : w.cell? ⟨b, o + 1, none⟩ = some (.int .i64 d.i) := h 1 _ (by rw [dcs_eq]; rfl)
theorem DAt.c2 {w : World} {b o : Nat} {d : DescV} (h : DAt w b o d) : w.cell? ⟨b, o + 2, none⟩ = some (.int .i64 d.d) := h 2 _ (by rw [dcs_eq]; rfl)
theorem frozen_of {w : World} {b : Nat} {cs : Array Value} {t : TypeId} (h : w.heap[b]? = some (.cells cs t (0, 0))) (i : Nat) : w.frozen? ⟨b, i, none⟩ = false := by simp [World.frozen?, h]
theorem new_int (w : World) : (w.alloc (.cells #[.int .i64 0] 3)).cell? ⟨w.heap.size, 0, none⟩ = some (.int .i64 0) := by
  rw [cell_of_row _ _ 0 _ _ (0, 0) (heap_alloc_new w _)]; rfl
set_option maxRecDepth 100000 in
set_option maxHeartbeats 2000000 in
theorem descNums_put (p k bd od : Nat) (X : Blk) (d : DescV) (w : World) (hP : PVar w p X k) (hk : k + 8 ≤ 256) (hD : DAt w bd od d) (hne : bd ≠ p) (hs : d.Small) :
    Calls Tryd.prog 38 #[.pointer (some ⟨bd, od, none⟩), .func (.func 44) #[.pointer (some ⟨p, 0, none⟩)] #[]] w fun e w' => e = .returned (.tuple #[]) ∧ PVar w' p (putB16 (putB16 (putB16 (putB16 X k d.b.toNat) (k + 2) d.i.toNat) (k + 4) d.d.toNat) (k + 6) 0) (k + 8) ∧ Only p w w' := by
  have B0 := below_new (w.drewN 1) (.cells #[.int .i64 0] 3)
  have D0 : DAt (w.drewN 1) bd od d := hD
  have D1 : DAt ((w.drewN 1).alloc (.cells #[.int .i64 0] 3)) bd od d := D0.below B0
  have P1 : PVar ((w.drewN 1).alloc (.cells #[.int .i64 0] 3)) p X k := PVar.below (hP.drewN 1) B0
  have R4 : Hid (PutRow (((w.drewN 1).alloc (.cells #[.int .i64 0] 3)).alloc (.cells #[.pointer (some ⟨bd, od, none⟩), .pointer (some ⟨bd, od + 1, none⟩), .pointer (some ⟨bd, od + 2, none⟩), .pointer (some ⟨w.heap.size, 0, none⟩)] 85)) p (w.heap.size + 1) [(bd, od, d.b.toNat), (bd, od + 1, d.i.toNat), (bd, od + 2, d.d.toNat), (w.heap.size, 0, 0)]) := Lib.hid (by
    have := PutRow.made (w := (w.drewN 1).alloc (.cells #[.int .i64 0] 3)) (p := p) (t := 85) (ts := [(bd, od, d.b.toNat), (bd, od + 1, d.i.toNat), (bd, od + 2, d.d.toNat), (w.heap.size, 0, 0)]) (cs := #[.pointer (some ⟨bd, od, none⟩), .pointer (some ⟨bd, od + 1, none⟩), .pointer (some ⟨bd, od + 2, none⟩), .pointer (some ⟨w.heap.size, 0, none⟩)]) P1.lt (fun i u hu => ?_) fun u hu => ?_
    · rw [World.size_alloc] at this
      exact this
    · match i, hu with
      | 0, hu => cases hu; rfl
      | 1, hu => cases hu; rfl
      | 2, hu => cases hu; rfl
      | 3, hu => cases hu; rfl
    · obtain ⟨h1, h2, h3, h4, h5, h6⟩ := hs
      have hlt := hP.lt
      simp only [List.mem_cons, List.not_mem_nil, or_false] at hu
      rcases hu with rfl | rfl | rfl | rfl
      · refine ⟨hne, ?_, by simp only; omega⟩
        simp only; rw [Int.toNat_of_nonneg h1]; exact D1.c0
      · refine ⟨hne, ?_, by simp only; omega⟩
        simp only; rw [Int.toNat_of_nonneg h3]; exact D1.c1
      · refine ⟨hne, ?_, by simp only; omega⟩
        simp only; rw [Int.toNat_of_nonneg h5]; exact D1.c2
      · exact ⟨by show w.heap.size ≠ p; omega, new_int (w.drewN 1), by show 0 < 65536; omega⟩)
  have P2 := Lib.hid (P1.below (below_new _ (.cells #[.pointer (some ⟨bd, od, none⟩), .pointer (some ⟨bd, od + 1, none⟩), .pointer (some ⟨bd, od + 2, none⟩), .pointer (some ⟨w.heap.size, 0, none⟩)] 85)))
  clear hP hD hs B0 D0 D1 P1
  go_enter Tryd.func38, Tryd.ntmps38
  go_region_with (first
    | (go_at_call 44; refine (putShorts_any p k (w.heap.size + 1) 4 4 X _ _ P2.out rfl (by omega) R4.out).mono ?_; rintro e w4 ⟨rfl, hp4, ho4⟩; have P4 := Lib.hid hp4; have O4 := Lib.hid ((((Only.drewN p w 1).alloc _).alloc _).trans ho4); clear hp4 ho4))
  all_goals refine bodyPost_end (results_none rfl _ _ _) rfl ?_
  all_goals exact ⟨rfl, P4.out, O4.out⟩
set_option maxRecDepth 100000 in
set_option maxHeartbeats 2000000 in
theorem descNums_get (p k bd od : Nat) (X : Blk) (d : DescV) (w : World) (hP : PVar w p X k) (hk : k + 8 ≤ 256) (hD : DAt w bd od d) (hz : ∀ i, w.frozen? ⟨bd, i, none⟩ = false) (hne : bd ≠ p) :
    Calls Tryd.prog 38 #[.pointer (some ⟨bd, od, none⟩), .func (.func 32) #[.pointer (some ⟨p, 0, none⟩)] #[]] w fun e w' => e = .returned (.tuple #[]) ∧ PVar w' p X (k + 8) ∧ Only p (((w.setCell ⟨bd, od, none⟩ (.int .i64 ((g16 X.f k : Nat) : Int))).setCell ⟨bd, od + 1, none⟩ (.int .i64 ((g16 X.f (k + 2) : Nat) : Int))).setCell ⟨bd, od + 2, none⟩ (.int .i64 ((g16 X.f (k + 4) : Nat) : Int))) w' := by
  have hlt : bd < w.heap.size := World.block_lt_of_cell? w _ hD.c0
  have B0 := below_new (w.drewN 1) (.cells #[.int .i64 0] 3)
  have D0 : DAt (w.drewN 1) bd od d := hD
  have D1 : DAt ((w.drewN 1).alloc (.cells #[.int .i64 0] 3)) bd od d := D0.below B0
  have Z1 : ∀ i, ((w.drewN 1).alloc (.cells #[.int .i64 0] 3)).frozen? ⟨bd, i, none⟩ = false := fun i => (B0.frozen (p := ⟨bd, i, none⟩) hlt).trans (hz i)
  have P1 : PVar ((w.drewN 1).alloc (.cells #[.int .i64 0] 3)) p X k := PVar.below (hP.drewN 1) B0
  have R4 : Hid (GetRow (((w.drewN 1).alloc (.cells #[.int .i64 0] 3)).alloc (.cells #[.pointer (some ⟨bd, od, none⟩), .pointer (some ⟨bd, od + 1, none⟩), .pointer (some ⟨bd, od + 2, none⟩), .pointer (some ⟨w.heap.size, 0, none⟩)] 85)) p (w.heap.size + 1) [(bd, od), (bd, od + 1), (bd, od + 2), (w.heap.size, 0)]) := Lib.hid (by
    have := GetRow.made (w := (w.drewN 1).alloc (.cells #[.int .i64 0] 3)) (p := p) (t := 85) (ts := [(bd, od), (bd, od + 1), (bd, od + 2), (w.heap.size, 0)]) (cs := #[.pointer (some ⟨bd, od, none⟩), .pointer (some ⟨bd, od + 1, none⟩), .pointer (some ⟨bd, od + 2, none⟩), .pointer (some ⟨w.heap.size, 0, none⟩)]) P1.lt (fun i u hu => ?_) fun u hu => ?_
    · rw [World.size_alloc] at this
      exact this
    · match i, hu with
      | 0, hu => cases hu; rfl
      | 1, hu => cases hu; rfl
      | 2, hu => cases hu; rfl
      | 3, hu => cases hu; rfl
    · have hlp := hP.lt
      simp only [List.mem_cons, List.not_mem_nil, or_false] at hu
      rcases hu with rfl | rfl | rfl | rfl
      · exact ⟨hne, ⟨_, D1.c0⟩, Z1 _⟩
      · exact ⟨hne, ⟨_, D1.c1⟩, Z1 _⟩
      · exact ⟨hne, ⟨_, D1.c2⟩, Z1 _⟩
      · exact ⟨by show w.heap.size ≠ p; omega, ⟨_, new_int (w.drewN 1)⟩, frozen_of (heap_alloc_new (w.drewN 1) _) 0⟩)
  have P2 := Lib.hid (P1.below (below_new _ (.cells #[.pointer (some ⟨bd, od, none⟩), .pointer (some ⟨bd, od + 1, none⟩), .pointer (some ⟨bd, od + 2, none⟩), .pointer (some ⟨w.heap.size, 0, none⟩)] 85)))
  have LT := Lib.hid hlt
  clear hP hD hz B0 D0 D1 P1 Z1 hlt
  go_enter Tryd.func38, Tryd.ntmps38
  go_region_with (first
    | (go_at_call 32; refine (getShorts_any p k (w.heap.size + 1) 4 4 X _ _ P2.out rfl (by omega) R4.out).mono ?_; rintro e w4 ⟨rfl, hp4, ho4⟩; have P4 := Lib.hid hp4; have O4 := Lib.hid (Only.trans (Only.setNew (Only.setBoth (Only.setBoth (Only.setBoth (((Only.drewN p w 1).alloc (.cells #[.int .i64 0] 3)).alloc (.cells #[.pointer (some ⟨bd, od, none⟩), .pointer (some ⟨bd, od + 1, none⟩), .pointer (some ⟨bd, od + 2, none⟩), .pointer (some ⟨w.heap.size, 0, none⟩)] 85)) (q := ⟨bd, od, none⟩) (.int .i64 ((g16 X.f k : Nat) : Int))) (q := ⟨bd, od + 1, none⟩) (.int .i64 ((g16 X.f (k + 2) : Nat) : Int))) (q := ⟨bd, od + 2, none⟩) (.int .i64 ((g16 X.f (k + 4) : Nat) : Int))) (q := ⟨w.heap.size, 0, none⟩) (by simp [World.setCell]) (.int .i64 ((g16 X.f (k + 6) : Nat) : Int))) ho4); clear hp4 ho4))
  all_goals refine bodyPost_end (results_none rfl _ _ _) rfl ?_
  all_goals exact ⟨rfl, P4.out, O4.out⟩
end Go.Proofs.YtmlmpflfejbbcaaDoor
namespace Go.Proofs.YtmlmpflfejbbcaaDoor
open Go.RowKit CrcM

/-! May descriptors be? -/
def DVar (w : World) (b : Nat) (d : DescV) : Prop := w.heap[b]? = some (.cells (dcs d) 48 (0, 0))
theorem DVar.lt {w : World} {b : Nat} {d : DescV} (h : DVar w b d) : b < w.heap.size := (Array.getElem?_eq_some_iff.1 h).1
theorem DVar.below {w w' : World} {b : Nat} {d : DescV} (h : DVar w b d) (hb : Below w.heap.size w w') : DVar w' b d := (hb.block b h.lt).trans h
theorem DVar.at {w : World} {b : Nat} {d : DescV} (h : DVar w b d) : DAt w b 0 d := fun i v hv => by
  rw [Nat.zero_add]; exact (cell_of_row w b i _ _ _ h).trans (by simpa using hv)
theorem DVar.c0 {w : World} {b : Nat} {d : DescV} (h : DVar w b d) : w.cell? ⟨b, 0, none⟩ = some (.int .i64 d.b) := h.at.c0
theorem DVar.c1 {w : World} {b : Nat} {d : DescV} (h : DVar w b d) : w.cell? ⟨b, 1, none⟩ = some (.int .i64 d.i) := h.at.c1
theorem DVar.c2 {w : World} {b : Nat} {d : DescV} (h : DVar w b d) : w.cell? ⟨b, 2, none⟩ = some (.int .i64 d.d) := h.at.c2
theorem zero_desc (w : World) : (zeroValue 48).run Tryd.prog w = .ok (.agg (dcs .zero)) w := by
  have h : (Tryd.prog.info? 48).map (fun i => (i.zero, i.size)) = some (some (.agg #[.int .i64 0, .int .i64 0, .int .i64 0]), 3) := by kernel_rfl
  rw [(zero_of_info h).1 w, dcs_eq]; rfl
theorem dcs_one (d : DescV) : (dcs d).all (·.oneCell') = true := by rw [dcs_eq]; simp [Value.oneCell']
theorem dcs_count (d : DescV) : (dcs d).size = 3 := by rw [dcs_eq]; rfl
theorem store_newD {ops : Array Oper} {rest : List Oper} {op : Oper} {a : Act} {w : World} {Q : Exit → Act → World → Prop} (hgd : op.guard = none) (x y : Operand) (ho : op.op = .store 48 x y) (d : DescV) (hx : a.eval x = .pointer (some ⟨w.heap.size, 0, none⟩)) (hy : a.eval y = .agg (dcs d))
    (h : wpList Tryd.prog ops Q rest (a.put op.dst undef) (w.alloc (.cells (dcs d) 48))) : wpList Tryd.prog ops Q (op :: rest) a (w.alloc (.cells (dcs .zero) 48)) := by
  refine wpList_plain hgd fun _ hK => ?_
  unfold Oper.wp execOp
  have e := run_storeVar_row (P := Tryd.prog) (w.alloc (.cells (dcs .zero) 48)) w.heap.size 48 48 (dcs .zero) (dcs d) (heap_alloc_new w _) (by rw [dcs_count]; exact desc_size3) (by rw [dcs_count, dcs_count]) (dcs_one d)
  simp only [ho, hx, hy, Instr.storeAt, Instr.sureAddr, Sem.run_bind, Sem.run_pure, Result.andThen_ok, e]
  rw [World.setRow_alloc_new]
  exact hK _ _ h
def okD (g : GeoV) (d : DescV) : Prop := 0 ≤ d.b ∧ d.b ≤ dataG g ∧ 0 ≤ d.i ∧ 0 ≤ d.d ∧ d.i + d.d ≤ g.ino
open Classical in
noncomputable def mayDB (g : GeoV) (l : List DescV) : Bool := decide (MayD g l)
theorem mayDB_true {g : GeoV} {l : List DescV} (h : MayD g l) : mayDB g l = true := by unfold mayDB; simp [h]
theorem mayDB_false {g : GeoV} {l : List DescV} (h : ¬ MayD g l) : mayDB g l = false := by unfold mayDB; simp [h]
theorem mayD_all {g : GeoV} {l : List DescV} (hn : ((l.length : Nat) : Int) = g.gr) (h : ∀ j, j < l.length → ∀ d, l[j]? = some d → okD g d) : MayD g l :=
  ⟨hn, fun d hd => by
    obtain ⟨i, hi⟩ := List.mem_iff_getElem?.1 hd
    have hlt : i < l.length := by
      rcases Nat.lt_or_ge i l.length with q | q
      · exact q
      · rw [List.getElem?_eq_none q] at hi; cases hi
    exact h i hlt d hi⟩
theorem mayD_not {g : GeoV} {l : List DescV} {j : Nat} {d : DescV} (hj : l[j]? = some d) (h : ¬ okD g d) : mayDB g l = false := mayDB_false fun q => h (q.2 d (List.mem_of_getElem? hj))
set_option maxRecDepth 100000 in
set_option maxHeartbeats 8000000 in
theorem mayDescs_any (g : GeoV) (A : Option Addr) (n c : Nat) (l : List DescV) (w : World) (hg : g.Fits) (hm : May g) (hn : n = l.length) (hl : DRow w A l) :
    Calls Tryd.prog 28 #[.agg (gcs g), .slice A n c] w fun e w' => e = .returned (.bool (mayDB g l)) ∧ Below w.heap.size w w' := by
  have hzd := fun W => zero_desc W
  have bg := below_new w (.cells (gcs g) 23)
  have V1 : Hid (GVar (w.alloc (.cells (gcs g) 23)) w.heap.size g) := Lib.hid (heap_alloc_new w _)
  have B1 := Lib.hid bg
  have L1 := Lib.hid (hl.below bg)
  have N := Lib.hid hn
  have hmost := hl.most
  rw [← hn] at hmost
  have FT := Lib.hid hl.fits
  have M := Lib.hid hm
  have cG := V1.out.c0
  have DT := Lib.hid (fun W => pData g W hg)
  have hgr : 1 ≤ g.gr ∧ g.gr ≤ 4 := ⟨hm.1, hm.2.1⟩
  have hino : 4 ≤ g.ino ∧ g.ino ≤ 64 := ⟨hm.2.2.2.2.1, hm.2.2.2.2.2.1⟩
  clear bg hn hl hg hm
  by_cases hlen : (n : Int) = g.gr
  · have tl : ((n : Int) != g.gr) = false := by simp [hlen]
    have NL : Hid (((l.length : Nat) : Int) = g.gr) := Lib.hid (by have := N.out; omega)
    clear hlen
    go_enter Tryd.func28, Tryd.ntmps28
    go_wp2
    generalize w.alloc (.cells (gcs g) 23) = w1 at V1 B1 L1 cG ⊢
    go_loopw [14] (fun i wr => (∃ j : Nat, j ≤ n ∧ i = .int .i64 j ∧ ∀ k, k < j → ∀ d, l[k]? = some d → okD g d) ∧ Below w1.heap.size w1 wr) (fun i _ => n - (intOf i).toNat)
    case atStart => exact ⟨⟨0, Nat.zero_le _, rfl, fun k hk => by omega⟩, Below.refl _ _⟩
    case round =>
      obtain ⟨⟨j, hj, rfl, hall⟩, hbel⟩ := hrel
      have GV := Lib.hid (V1.out.below hbel)
      have AL := Lib.hid hall
      clear hall
      by_cases hlt : j < n
      · have hlt' : j < l.length := by have := N.out; omega
        obtain ⟨b, o, rfl, _, hc⟩ := (L1.out.below hbel).mem (by omega)
        have ck := Lib.hid (hc j _ (List.getElem?_eq_getElem hlt'))
        have fits := FT.out l[j] (List.getElem_mem hlt')
        have fb := fits.b; have fi := fits.i; have fd := fits.d
        unfold I64 at fb fi fd
        have z1 : (0 : Int) ≤ j := by omega
        have z2 : (j : Int) < n := by omega
        have J := Lib.hid (List.getElem?_eq_getElem hlt')
        clear hc fits
        by_cases h1 : l[j].b < 0
        · have t1 : decide (l[j].b < 0) = true := decide_eq_true h1
          have NO := Lib.hid (mayD_not (g := g) J.out (fun q => by obtain ⟨q1, q2, q3, q4, q5⟩ := q; omega))
          clear h1
          go_wp2_with (first
            | (refine load_desc rfl (.tmp 16) rfl b (o + j * 3) rfl l[j] ck.out ?_)
            | (refine store_newD rfl (.tmp 6) (.tmp 17) rfl l[j] rfl rfl ?_))
          have V2 : Hid (DVar (wr.alloc (.cells (dcs l[j]) 48)) wr.heap.size l[j]) := Lib.hid (heap_alloc_new wr _)
          have bn := below_new wr (.cells (dcs l[j]) 48)
          have G2 := Lib.hid (GV.out.below bn)
          have B2 := Lib.hid (hbel.trans (bn.mono hbel.size))
          clear bn
          generalize wr.alloc (.cells (dcs l[j]) 48) = w2 at V2 G2 B2 ⊢
          generalize wr.heap.size = bd at V2 ⊢
          generalize l[j] = d at *
          refine wp_region_class (More w2) (by kernel_rfl) (by kernel_rfl) (More.drew _) ?_
          simp only [Act.put]
          repeat (first | go_big_quiet_skip | (go_big_quiet_want; first | (refine quiet_geo _ rfl _ _ (by rfl) g (by intro w' hw'; exact (G2.out.below hw').at) ?_; simp only [Act.put, List.setIfInBounds_toArray, List.set_cons_zero, List.set_cons_succ]; go_big_quiet_on) | (refine quiet_int _ rfl _ (by rfl) _ (by intro w' hw'; first | exact (V2.out.below hw').c0 | exact (V2.out.below hw').c1 | exact (V2.out.below hw').c2 | exact (G2.out.below hw').c2) ?_; simp only [Act.put, List.setIfInBounds_toArray, List.set_cons_zero, List.set_cons_succ]; go_big_quiet_on) | (go_big_quiet_op; first | go_big_quiet_on | (apply Exists.intro; refine ⟨fun _ _ => ?_, ?_⟩; (with_reducible exact rfl); go_big_quiet_on) | go_big_quiet_call ((intro hC; first | (with_reducible refine (DT.out _).mono ?_); exact fun e w' h => ⟨h.1, hC.on h.2⟩)))))
          refine wpQuiet_nil ?_
          intro w4 hw4
          have B4 := Lib.hid (B2.out.trans (Below.mono hw4 B2.out.size))
          clear hw4
          go_wp2
          go_ret
          exact ⟨by rw [NO.out]; rfl, B1.out.trans (B4.out.mono B1.out.size)⟩
        · have t1 : decide (l[j].b < 0) = false := decide_eq_false h1
          by_cases h2 : dataG g < l[j].b
          · have t2 : decide (dataG g < l[j].b) = true := decide_eq_true h2
            have NO := Lib.hid (mayD_not (g := g) J.out (fun q => by obtain ⟨q1, q2, q3, q4, q5⟩ := q; omega))
            clear h1 h2
            go_wp2_with (first
              | (refine load_desc rfl (.tmp 16) rfl b (o + j * 3) rfl l[j] ck.out ?_)
              | (refine store_newD rfl (.tmp 6) (.tmp 17) rfl l[j] rfl rfl ?_))
            have V2 : Hid (DVar (wr.alloc (.cells (dcs l[j]) 48)) wr.heap.size l[j]) := Lib.hid (heap_alloc_new wr _)
            have bn := below_new wr (.cells (dcs l[j]) 48)
            have G2 := Lib.hid (GV.out.below bn)
            have B2 := Lib.hid (hbel.trans (bn.mono hbel.size))
            clear bn
            generalize wr.alloc (.cells (dcs l[j]) 48) = w2 at V2 G2 B2 ⊢
            generalize wr.heap.size = bd at V2 ⊢
            generalize l[j] = d at *
            refine wp_region_class (More w2) (by kernel_rfl) (by kernel_rfl) (More.drew _) ?_
            simp only [Act.put]
            repeat (first | go_big_quiet_skip | (go_big_quiet_want; first | (refine quiet_geo _ rfl _ _ (by rfl) g (by intro w' hw'; exact (G2.out.below hw').at) ?_; simp only [Act.put, List.setIfInBounds_toArray, List.set_cons_zero, List.set_cons_succ]; go_big_quiet_on) | (refine quiet_int _ rfl _ (by rfl) _ (by intro w' hw'; first | exact (V2.out.below hw').c0 | exact (V2.out.below hw').c1 | exact (V2.out.below hw').c2 | exact (G2.out.below hw').c2) ?_; simp only [Act.put, List.setIfInBounds_toArray, List.set_cons_zero, List.set_cons_succ]; go_big_quiet_on) | (go_big_quiet_op; first | go_big_quiet_on | (apply Exists.intro; refine ⟨fun _ _ => ?_, ?_⟩; (with_reducible exact rfl); go_big_quiet_on) | go_big_quiet_call ((intro hC; first | (with_reducible refine (DT.out _).mono ?_); exact fun e w' h => ⟨h.1, hC.on h.2⟩)))))
            refine wpQuiet_nil ?_
            intro w4 hw4
            have B4 := Lib.hid (B2.out.trans (Below.mono hw4 B2.out.size))
            clear hw4
            go_wp2
            go_ret
            exact ⟨by rw [NO.out]; rfl, B1.out.trans (B4.out.mono B1.out.size)⟩
          · have t2 : decide (dataG g < l[j].b) = false := decide_eq_false h2
            by_cases h3 : l[j].i < 0
            · have t3 : decide (l[j].i < 0) = true := decide_eq_true h3
              have NO := Lib.hid (mayD_not (g := g) J.out (fun q => by obtain ⟨q1, q2, q3, q4, q5⟩ := q; omega))
              clear h1 h2 h3
              go_wp2_with (first
                | (refine load_desc rfl (.tmp 16) rfl b (o + j * 3) rfl l[j] ck.out ?_)
                | (refine store_newD rfl (.tmp 6) (.tmp 17) rfl l[j] rfl rfl ?_))
              have V2 : Hid (DVar (wr.alloc (.cells (dcs l[j]) 48)) wr.heap.size l[j]) := Lib.hid (heap_alloc_new wr _)
              have bn := below_new wr (.cells (dcs l[j]) 48)
              have G2 := Lib.hid (GV.out.below bn)
              have B2 := Lib.hid (hbel.trans (bn.mono hbel.size))
              clear bn
              generalize wr.alloc (.cells (dcs l[j]) 48) = w2 at V2 G2 B2 ⊢
              generalize wr.heap.size = bd at V2 ⊢
              generalize l[j] = d at *
              refine wp_region_class (More w2) (by kernel_rfl) (by kernel_rfl) (More.drew _) ?_
              simp only [Act.put]
              repeat (first | go_big_quiet_skip | (go_big_quiet_want; first | (refine quiet_geo _ rfl _ _ (by rfl) g (by intro w' hw'; exact (G2.out.below hw').at) ?_; simp only [Act.put, List.setIfInBounds_toArray, List.set_cons_zero, List.set_cons_succ]; go_big_quiet_on) | (refine quiet_int _ rfl _ (by rfl) _ (by intro w' hw'; first | exact (V2.out.below hw').c0 | exact (V2.out.below hw').c1 | exact (V2.out.below hw').c2 | exact (G2.out.below hw').c2) ?_; simp only [Act.put, List.setIfInBounds_toArray, List.set_cons_zero, List.set_cons_succ]; go_big_quiet_on) | (go_big_quiet_op; first | go_big_quiet_on | (apply Exists.intro; refine ⟨fun _ _ => ?_, ?_⟩; (with_reducible exact rfl); go_big_quiet_on) | go_big_quiet_call ((intro hC; first | (with_reducible refine (DT.out _).mono ?_); exact fun e w' h => ⟨h.1, hC.on h.2⟩)))))
              refine wpQuiet_nil ?_
              intro w4 hw4
              have B4 := Lib.hid (B2.out.trans (Below.mono hw4 B2.out.size))
              clear hw4
              go_wp2
              go_ret
              exact ⟨by rw [NO.out]; rfl, B1.out.trans (B4.out.mono B1.out.size)⟩
            · have t3 : decide (l[j].i < 0) = false := decide_eq_false h3
              by_cases h4 : l[j].d < 0
              · have t4 : decide (l[j].d < 0) = true := decide_eq_true h4
                have NO := Lib.hid (mayD_not (g := g) J.out (fun q => by obtain ⟨q1, q2, q3, q4, q5⟩ := q; omega))
                clear h1 h2 h3 h4
                go_wp2_with (first
                  | (refine load_desc rfl (.tmp 16) rfl b (o + j * 3) rfl l[j] ck.out ?_)
                  | (refine store_newD rfl (.tmp 6) (.tmp 17) rfl l[j] rfl rfl ?_))
                have V2 : Hid (DVar (wr.alloc (.cells (dcs l[j]) 48)) wr.heap.size l[j]) := Lib.hid (heap_alloc_new wr _)
                have bn := below_new wr (.cells (dcs l[j]) 48)
                have G2 := Lib.hid (GV.out.below bn)
                have B2 := Lib.hid (hbel.trans (bn.mono hbel.size))
                clear bn
                generalize wr.alloc (.cells (dcs l[j]) 48) = w2 at V2 G2 B2 ⊢
                generalize wr.heap.size = bd at V2 ⊢
                generalize l[j] = d at *
                refine wp_region_class (More w2) (by kernel_rfl) (by kernel_rfl) (More.drew _) ?_
                simp only [Act.put]
                repeat (first | go_big_quiet_skip | (go_big_quiet_want; first | (refine quiet_geo _ rfl _ _ (by rfl) g (by intro w' hw'; exact (G2.out.below hw').at) ?_; simp only [Act.put, List.setIfInBounds_toArray, List.set_cons_zero, List.set_cons_succ]; go_big_quiet_on) | (refine quiet_int _ rfl _ (by rfl) _ (by intro w' hw'; first | exact (V2.out.below hw').c0 | exact (V2.out.below hw').c1 | exact (V2.out.below hw').c2 | exact (G2.out.below hw').c2) ?_; simp only [Act.put, List.setIfInBounds_toArray, List.set_cons_zero, List.set_cons_succ]; go_big_quiet_on) | (go_big_quiet_op; first | go_big_quiet_on | (apply Exists.intro; refine ⟨fun _ _ => ?_, ?_⟩; (with_reducible exact rfl); go_big_quiet_on) | go_big_quiet_call ((intro hC; first | (with_reducible refine (DT.out _).mono ?_); exact fun e w' h => ⟨h.1, hC.on h.2⟩)))))
                refine wpQuiet_nil ?_
                intro w4 hw4
                have B4 := Lib.hid (B2.out.trans (Below.mono hw4 B2.out.size))
                clear hw4
                go_wp2
                go_ret
                exact ⟨by rw [NO.out]; rfl, B1.out.trans (B4.out.mono B1.out.size)⟩
              · have t4 : decide (l[j].d < 0) = false := decide_eq_false h4
                have hw : IntKind.i64.wrap (g.ino - l[j].i) = g.ino - l[j].i := by rw [IntKind.wrap_i64]; omega
                have hr1 : -9223372036854775808 ≤ g.ino - l[j].i := by omega
                have hr2 : g.ino - l[j].i ≤ 9223372036854775807 := by omega
                by_cases h5 : g.ino - l[j].i < l[j].d
                · have t5 : decide (g.ino - l[j].i < l[j].d) = true := decide_eq_true h5
                  have NO := Lib.hid (mayD_not (g := g) J.out (fun q => by obtain ⟨q1, q2, q3, q4, q5⟩ := q; omega))
                  clear h1 h2 h3 h4 h5
                  go_wp2_with (first
                    | (refine load_desc rfl (.tmp 16) rfl b (o + j * 3) rfl l[j] ck.out ?_)
                    | (refine store_newD rfl (.tmp 6) (.tmp 17) rfl l[j] rfl rfl ?_))
                  have V2 : Hid (DVar (wr.alloc (.cells (dcs l[j]) 48)) wr.heap.size l[j]) := Lib.hid (heap_alloc_new wr _)
                  have bn := below_new wr (.cells (dcs l[j]) 48)
                  have G2 := Lib.hid (GV.out.below bn)
                  have B2 := Lib.hid (hbel.trans (bn.mono hbel.size))
                  clear bn
                  generalize wr.alloc (.cells (dcs l[j]) 48) = w2 at V2 G2 B2 ⊢
                  generalize wr.heap.size = bd at V2 ⊢
                  generalize l[j] = d at *
                  refine wp_region_class (More w2) (by kernel_rfl) (by kernel_rfl) (More.drew _) ?_
                  simp only [Act.put]
                  repeat (first | go_big_quiet_skip | (go_big_quiet_want; first | (refine quiet_geo _ rfl _ _ (by rfl) g (by intro w' hw'; exact (G2.out.below hw').at) ?_; simp only [Act.put, List.setIfInBounds_toArray, List.set_cons_zero, List.set_cons_succ]; go_big_quiet_on) | (refine quiet_int _ rfl _ (by rfl) _ (by intro w' hw'; first | exact (V2.out.below hw').c0 | exact (V2.out.below hw').c1 | exact (V2.out.below hw').c2 | exact (G2.out.below hw').c2) ?_; simp only [Act.put, List.setIfInBounds_toArray, List.set_cons_zero, List.set_cons_succ]; go_big_quiet_on) | (go_big_quiet_op; first | go_big_quiet_on | (apply Exists.intro; refine ⟨fun _ _ => ?_, ?_⟩; (with_reducible exact rfl); go_big_quiet_on) | go_big_quiet_call ((intro hC; first | (with_reducible refine (DT.out _).mono ?_); exact fun e w' h => ⟨h.1, hC.on h.2⟩)))))
                  refine wpQuiet_nil ?_
                  intro w4 hw4
                  have B4 := Lib.hid (B2.out.trans (Below.mono hw4 B2.out.size))
                  clear hw4
                  go_wp2
                  go_ret
                  exact ⟨by rw [NO.out]; rfl, B1.out.trans (B4.out.mono B1.out.size)⟩
                · have t5 : decide (g.ino - l[j].i < l[j].d) = false := decide_eq_false h5
                  have YES : Hid (okD g l[j]) := Lib.hid ⟨by omega, by omega, by omega, by omega, by omega⟩
                  clear h1 h2 h3 h4 h5
                  go_wp2_with (first
                    | (refine load_desc rfl (.tmp 16) rfl b (o + j * 3) rfl l[j] ck.out ?_)
                    | (refine store_newD rfl (.tmp 6) (.tmp 17) rfl l[j] rfl rfl ?_))
                  have V2 : Hid (DVar (wr.alloc (.cells (dcs l[j]) 48)) wr.heap.size l[j]) := Lib.hid (heap_alloc_new wr _)
                  have bn := below_new wr (.cells (dcs l[j]) 48)
                  have G2 := Lib.hid (GV.out.below bn)
                  have B2 := Lib.hid (hbel.trans (bn.mono hbel.size))
                  clear bn
                  generalize wr.alloc (.cells (dcs l[j]) 48) = w2 at V2 G2 B2 ⊢
                  generalize wr.heap.size = bd at V2 ⊢
                  generalize hdj : l[j] = d at *
                  have HDJ := Lib.hid hdj
                  clear hdj
                  refine wp_region_class (More w2) (by kernel_rfl) (by kernel_rfl) (More.drew _) ?_
                  simp only [Act.put]
                  repeat (first | go_big_quiet_skip | (go_big_quiet_want; first | (refine quiet_geo _ rfl _ _ (by rfl) g (by intro w' hw'; exact (G2.out.below hw').at) ?_; simp only [Act.put, List.setIfInBounds_toArray, List.set_cons_zero, List.set_cons_succ]; go_big_quiet_on) | (refine quiet_int _ rfl _ (by rfl) _ (by intro w' hw'; first | exact (V2.out.below hw').c0 | exact (V2.out.below hw').c1 | exact (V2.out.below hw').c2 | exact (G2.out.below hw').c2) ?_; simp only [Act.put, List.setIfInBounds_toArray, List.set_cons_zero, List.set_cons_succ]; go_big_quiet_on) | (go_big_quiet_op; first | go_big_quiet_on | (apply Exists.intro; refine ⟨fun _ _ => ?_, ?_⟩; (with_reducible exact rfl); go_big_quiet_on) | go_big_quiet_call ((intro hC; first | (with_reducible refine (DT.out _).mono ?_); exact fun e w' h => ⟨h.1, hC.on h.2⟩)))))
                  refine wpQuiet_nil ?_
                  intro w4 hw4
                  have B4 := Lib.hid (B2.out.trans (Below.mono hw4 B2.out.size))
                  clear hw4
                  go_wp2
                  go_roundw
                  case rel =>
                    refine ⟨⟨j + 1, by omega, by go_num, fun k hk e he => ?_⟩, B4.out⟩
                    rcases Nat.lt_or_ge k j with u | u
                    · exact AL.out k u e he
                    · obtain rfl : k = j := by omega
                      rw [J.out] at he
                      injection he with he
                      subst he
                      first | exact YES.out | exact HDJ.out ▸ YES.out
                  case measure => simp [intOf]; omega
      · have YES := Lib.hid (mayDB_true (mayD_all NL.out fun k hk d hd => AL.out k (by have := N.out; omega) d hd))
        go_wp2
        go_ret
        exact ⟨by rw [YES.out]; rfl, B1.out.trans (hbel.mono B1.out.size)⟩
  · have tl : ((n : Int) != g.gr) = true := by simp [hlen]
    have NO := Lib.hid (mayDB_false (g := g) (l := l) (fun q => hlen (by have := q.1; have := N.out; omega)))
    clear hlen
    go_enter Tryd.func28, Tryd.ntmps28
    go_wp2
    go_ret
    exact ⟨by rw [NO.out]; rfl, B1.out⟩
end Go.Proofs.YtmlmpflfejbbcaaDoor
namespace Go.Proofs.YtmlmpflfejbbcaaDoor
open Go.RowKit CrcM

theorem put_zero {X : Blk} {a : Nat} (h0 : X.f a = 0) (h1 : X.f (a + 1) = 0) : putB16 X a 0 = X := Blk.same fun i hi => by
  rw [putB16_f hi, p16_at]
  by_cases e1 : i = a + 1
  · subst e1; rw [if_pos rfl, h1]
  · rw [if_neg e1]
    by_cases e0 : i = a
    · subst e0; rw [if_pos rfl, h0]
    · rw [if_neg e0]
theorem rowsB_step {l : List DescV} {j : Nat} {d : DescV} (h : l[j]? = some d) (hj : j < l.length) : putB16 (putB16 (putB16 (putB16 (rowsB 0 (l.take j) .zero) (8 * j) d.b.toNat) (8 * j + 2) d.i.toNat) (8 * j + 4) d.d.toNat) (8 * j + 6) 0 = rowsB 0 (l.take (j + 1)) .zero := by
  rw [rowsB_take h]
  have hl : (l.take j).length = j := by rw [List.length_take]; omega
  refine put_zero (X := putD (rowsB 0 (l.take j) .zero) j d) ?_ ?_
  · rw [putD_off (by omega), rowsB_off _ _ _ _ (by omega)]; rfl
  · rw [putD_off (by omega), rowsB_off _ _ _ _ (by omega)]; rfl
set_option maxRecDepth 100000 in
set_option maxHeartbeats 2000000 in
theorem descsOf_any (A : Option Addr) (n c : Nat) (l : List DescV) (w : World) (hn : n = l.length) (hl : DRow w A l) (hs : ∀ d ∈ l, d.Small) (h31 : l.length ≤ 31) (hE : Env w) :
    Calls Tryd.prog 29 #[.slice A n c] w fun e w' => e = .returned (.agg (arr (descsB l))) ∧ Below w.heap.size w w' := by
  have hz := fun W => zero_blk W
  have hzp := fun W => zero_page W
  have hzd := fun W => zero_desc W
  have b1 := below_new w (.cells (arr .zero) 29)
  have b2 := below_new (w.alloc (.cells (arr .zero) 29)) (.cells (pgs .zero 0) 67)
  have q1 : BVar (w.alloc (.cells (arr .zero) 29)) w.heap.size .zero := heap_alloc_new w _
  have q2 : PVar ((w.alloc (.cells (arr .zero) 29)).alloc (.cells (pgs .zero 0) 67)) (w.heap.size + 1) .zero 0 := heap_alloc2_new w _ _
  have N1 := Lib.hid (q1.below b2)
  have P1 := Lib.hid q2
  have B1 := Lib.hid (b1.trans (b2.mono (by simp)))
  have HL := Lib.hid hl
  have SM := Lib.hid hs
  have N := Lib.hid hn
  have HE := Lib.hid hE
  have hmost : n ≤ 31 := by omega
  clear b1 b2 q1 q2 hl hs hn hE h31
  go_enter Tryd.func29, Tryd.ntmps29
  go_wp2_with fail
  generalize (w.alloc (.cells (arr .zero) 29)).alloc (.cells (pgs .zero 0) 67) = w1 at N1 P1 B1 ⊢
  go_loopw [8] (fun i wr => ∃ j : Nat, j ≤ n ∧ i = .int .i64 j ∧ PVar wr (w.heap.size + 1) (rowsB 0 (l.take j) .zero) (8 * j) ∧ Only (w.heap.size + 1) w1 wr) (fun i _ => n - (intOf i).toNat)
  case atStart => exact ⟨0, Nat.zero_le _, rfl, P1.out, Only.refl _ _⟩
  case round =>
    obtain ⟨j, hj, rfl, hpv, hon⟩ := hrel
    have PV := Lib.hid hpv
    have ON := Lib.hid hon
    clear hpv hon
    by_cases hlt : j < n
    · have hlt' : j < l.length := by have := N.out; omega
      obtain ⟨b, o, rfl, hb, hc⟩ := HL.out.mem (by omega)
      have ck : Hid (DAt wr b (o + j * 3) l[j]) := Lib.hid (ON.out.desc (by omega) (DAt.below (hc j _ (List.getElem?_eq_getElem hlt')) (B1.out.mono (Nat.le_refl _))))
      have ST := Lib.hid (rowsB_step (List.getElem?_eq_getElem hlt') hlt')
      have D := Lib.hid (SM.out l[j] (List.getElem_mem hlt'))
      have z1 : (0 : Int) ≤ j := by omega
      have z2 : (j : Int) < n := by omega
      clear hc
      generalize rowsB 0 (l.take j) .zero = Y at PV ST
      generalize l[j] = d at *
      go_wp2_with (first
        | (refine load_desc rfl (.tmp 10) rfl b (o + j * 3) rfl d ck.out ?_)
        | (refine store_newD rfl (.tmp 5) (.tmp 11) rfl d rfl rfl ?_))
      have V2 : Hid (DVar (wr.alloc (.cells (dcs d) 48)) wr.heap.size d) := Lib.hid (heap_alloc_new wr _)
      have bn := below_new wr (.cells (dcs d) 48)
      have P2 := Lib.hid (PV.out.below bn)
      have O2 := Lib.hid (ON.out.alloc (.cells (dcs d) 48))
      have LT := Lib.hid PV.out.lt
      clear bn
      generalize wr.alloc (.cells (dcs d) 48) = w2 at V2 P2 O2 ⊢
      generalize wr.heap.size = bd at V2 LT ⊢
      refine (descNums_put (w.heap.size + 1) (8 * j) bd 0 Y d w2 P2.out (by omega) V2.out.at (by have := LT.out; omega) D.out).mono ?_
      rintro e w3 ⟨rfl, hp3, ho3⟩
      rw [ST.out] at hp3
      have P3 := Lib.hid hp3
      have O3 := Lib.hid (O2.out.trans ho3)
      clear hp3 ho3
      go_wp2
      go_roundw
      case rel => exact ⟨j + 1, by omega, by go_num, P3.out, O3.out⟩
      case measure => simp [intOf]; omega
    · have e : l.take j = l := by rw [List.take_of_length_le]; have := N.out; omega
      have es : sealB (rowsB 0 (l.take j) .zero) = descsB l := by rw [e]; unfold descsB; rfl
      have ES := Lib.hid es
      have B2 := Lib.hid (B1.out.trans (ON.out.below (B := w.heap.size) (by omega) B1.out.size))
      have N2 : Hid (BVar wr w.heap.size .zero) := Lib.hid ((ON.out.block _ N1.out.lt (fun e => by injection e with e; omega)).trans N1.out)
      clear e es
      go_wp2_with fail
      refine (sealed_any (w.heap.size + 1) (8 * j) _ wr PV.out (HE.out.below B2.out)).mono ?_
      rintro e w3 ⟨rfl, ho3⟩
      rw [ES.out]
      have B3 := Lib.hid (B2.out.trans (ho3.below (B := w.heap.size) (by omega) B2.out.size))
      have N3 : Hid (BVar w3 w.heap.size .zero) := Lib.hid ((ho3.block _ N2.out.lt (fun e => by injection e with e; omega)).trans N2.out)
      clear ho3
      go_wp2_with (first
        | (refine store_row rfl (.tmp 2) (.tmp 15) rfl w.heap.size (descsB l) .zero 29 rfl rfl N3.out ?_))
      exact bodyPost_ret (v := .agg (arr (descsB l))) (results_blk Tryd.results29 _ _ w.heap.size (descsB l) _ rfl (setRow_heap _ _ _ _ _ _ N3.out)) rfl ⟨rfl, below_setRow B3.out (by omega) _⟩
theorem writeD_geo {g : GeoV} {l : List DescV} (h : ¬ May g) : writeD g l = (.zero, 50) := by unfold writeD; rw [if_pos h]
theorem writeD_arg {g : GeoV} {l : List DescV} (h : May g) (k : ¬ MayD g l) : writeD g l = (.zero, 2) := by unfold writeD; rw [if_neg (fun q => q h), if_pos k]
set_option maxRecDepth 100000 in
set_option maxHeartbeats 2000000 in
theorem pWriteD (g : GeoV) (A : Option Addr) (n c : Nat) (l : List DescV) (w : World) (hg : g.Fits) (hE : Env w) (hn : n = l.length) (hl : DRow w A l) :
    Calls Tryd.prog 13 #[.agg (gcs g), .slice A n c] w fun e w' => e = .returned (.tuple #[.agg (arr (writeD g l).1), .int .i64 (writeD g l).2]) ∧ Below w.heap.size w w' := by
  have hz := fun W => zero_blk W
  have b1 := below_new w (.cells (gcs g) 23)
  have b2 := below_new (w.alloc (.cells (gcs g) 23)) (.cells (arr .zero) 29)
  have q1 : GVar (w.alloc (.cells (gcs g) 23)) w.heap.size g := heap_alloc_new w _
  have q2 : BVar ((w.alloc (.cells (gcs g) 23)).alloc (.cells (arr .zero) 29)) (w.heap.size + 1) .zero := heap_alloc2_new w _ _
  have V1 := Lib.hid (q1.below b2)
  have N1 := Lib.hid q2
  have B1 := Lib.hid (b1.trans (b2.mono (by simp)))
  have HE := Lib.hid hE
  have HG := Lib.hid hg
  have HN := Lib.hid hn
  have HL := Lib.hid hl
  clear b1 b2 q1 q2 hE hg hn hl
  go_enter Tryd.func13, Tryd.ntmps13
  go_wp2_with (first | (refine load_geo rfl (.tmp 2) rfl w.heap.size 0 rfl g V1.out.at ?_))
  generalize (w.alloc (.cells (gcs g) 23)).alloc (.cells (arr .zero) 29) = w1 at V1 N1 B1 ⊢
  refine (pMay g w1 HG.out).mono ?_
  rintro e w2 ⟨rfl, hb⟩
  have V2 := Lib.hid (V1.out.below hb)
  have N2 := Lib.hid (N1.out.below hb)
  have B2 := Lib.hid (B1.out.trans (hb.mono B1.out.size))
  clear hb V1 N1 B1
  by_cases hm : May g
  · rw [may_true hm]
    have M := Lib.hid hm
    clear hm
    go_wp2_with (first | (refine load_geo rfl (.tmp 2) rfl w.heap.size 0 rfl g V2.out.at ?_))
    refine (mayDescs_any g A n c l w2 HG.out M.out HN.out (HL.out.below B2.out)).mono ?_
    rintro e w3 ⟨rfl, hb⟩
    have N3 := Lib.hid (N2.out.below hb)
    have B3 := Lib.hid (B2.out.trans (hb.mono B2.out.size))
    clear hb V2 N2 B2
    by_cases ho : MayD g l
    · rw [mayDB_true ho]
      have EW := Lib.hid (writeD_may M.out ho)
      have SM := Lib.hid (And.intro (ho.small M.out) (show l.length ≤ 31 by have := ho.four M.out; omega))
      clear ho
      go_wp2_with fail
      refine (descsOf_any A n c l w3 HN.out (HL.out.below B3.out) SM.out.1 SM.out.2 (HE.out.below B3.out)).mono ?_
      rintro e w4 ⟨rfl, hb⟩
      have N4 := Lib.hid (N3.out.below hb)
      have B4 := Lib.hid (B3.out.trans (hb.mono B3.out.size))
      clear hb N3 B3
      go_wp2_with (first
        | (refine store_row rfl (.tmp 4) (.tmp 18) rfl (w.heap.size + 1) (descsB l) .zero 29 rfl rfl N4.out ?_))
      exact bodyPost_ret (results_blk_err Tryd.results13 _ _ (w.heap.size + 1) (descsB l) _ _ rfl rfl (setRow_heap _ _ _ _ _ _ N4.out)) rfl ⟨by rw [EW.out], below_setRow B4.out (by omega) _⟩
    · rw [mayDB_false ho]
      have EW := Lib.hid (writeD_arg M.out ho)
      clear ho
      go_wp2_with (first
        | (refine build_zeroB rfl rfl ?_)
        | (refine store_row rfl (.tmp 4) (.tmp 16) rfl (w.heap.size + 1) .zero .zero 29 rfl rfl N3.out ?_))
      exact bodyPost_ret (results_blk_err Tryd.results13 _ _ (w.heap.size + 1) .zero _ _ rfl rfl (setRow_heap _ _ _ _ _ _ N3.out)) rfl ⟨by rw [EW.out], below_setRow B3.out (by omega) _⟩
  · rw [may_false hm]
    have EW := Lib.hid (writeD_geo (l := l) hm)
    clear hm
    go_wp2_with (first
      | (refine build_zeroB rfl rfl ?_)
      | (refine store_row rfl (.tmp 4) (.tmp 10) rfl (w.heap.size + 1) .zero .zero 29 rfl rfl N2.out ?_))
    exact bodyPost_ret (results_blk_err Tryd.results13 _ _ (w.heap.size + 1) .zero _ _ rfl rfl (setRow_heap _ _ _ _ _ _ N2.out)) rfl ⟨by rw [EW.out], below_setRow B2.out (by omega) _⟩
end Go.Proofs.YtmlmpflfejbbcaaDoor
namespace Go.Proofs.YtmlmpflfejbbcaaDoor
open Go.RowKit CrcM

/-! Descriptors that are read. -/
def dcell (X : Blk) (j i : Nat) : Int := if i < 3 * j then ((g16 X.f (8 * (i / 3) + 2 * (i % 3)) : Nat) : Int) else 0
@[irreducible] def dmk (X : Blk) (n j : Nat) : Array Value := ⟨(List.range (3 * n)).map fun i => .int .i64 (dcell X j i)⟩
theorem dmk_size (X : Blk) (n j : Nat) : (dmk X n j).size = 3 * n := by unfold dmk; simp
theorem dmk_get {X : Blk} {n j i : Nat} (h : i < 3 * n) : (dmk X n j)[i]? = some (.int .i64 (dcell X j i)) := by unfold dmk; simp [List.getElem?_range h]
theorem dmk_set {X : Blk} {n j : Nat} : (((dmk X n j).setIfInBounds (j * 3) (.int .i64 ((g16 X.f (8 * j) : Nat) : Int))).setIfInBounds (j * 3 + 1) (.int .i64 ((g16 X.f (8 * j + 2) : Nat) : Int))).setIfInBounds (j * 3 + 2) (.int .i64 ((g16 X.f (8 * j + 4) : Nat) : Int)) = dmk X n (j + 1) := by
  apply Array.ext_getElem?
  intro i
  by_cases hi : i < 3 * n
  · rw [dmk_get hi]
    by_cases e2 : i = j * 3 + 2
    · subst e2
      rw [Array.getElem?_setIfInBounds_self_of_lt (by simp [dmk_size]; omega)]
      unfold dcell
      rw [if_pos (by omega), show 8 * ((j * 3 + 2) / 3) + 2 * ((j * 3 + 2) % 3) = 8 * j + 4 by omega]
    · rw [Array.getElem?_setIfInBounds_ne (by omega)]
      by_cases e1 : i = j * 3 + 1
      · subst e1
        rw [Array.getElem?_setIfInBounds_self_of_lt (by simp [dmk_size]; omega)]
        unfold dcell
        rw [if_pos (by omega), show 8 * ((j * 3 + 1) / 3) + 2 * ((j * 3 + 1) % 3) = 8 * j + 2 by omega]
      · rw [Array.getElem?_setIfInBounds_ne (by omega)]
        by_cases e0 : i = j * 3
        · subst e0
          rw [Array.getElem?_setIfInBounds_self_of_lt (by simp [dmk_size]; omega)]
          unfold dcell
          rw [if_pos (by omega), show 8 * ((j * 3) / 3) + 2 * ((j * 3) % 3) = 8 * j by omega]
        · rw [Array.getElem?_setIfInBounds_ne (by omega), dmk_get hi]
          unfold dcell
          by_cases q : i < 3 * j
          · rw [if_pos q, if_pos (by omega)]
          · rw [if_neg q, if_neg (by omega)]
  · rw [Array.getElem?_eq_none (by simp [dmk_size]; omega), Array.getElem?_eq_none (by rw [dmk_size]; omega)]
theorem desc_row3 : (Tryd.prog.info? 48).map (fun i => (i.zero, i.size, i.bytes)) = some (some (.agg #[.int .i64 0, .int .i64 0, .int .i64 0]), 3, 24) := by kernel_rfl
theorem make_descs (X : Blk) (n : Nat) (hn : n ≤ 1000) (w : World) :
    (Instr.makeSlice 27 (.int .i64 (n : Int)) (.int .i64 (n : Int))).run Tryd.prog w = .ok (.slice (some ⟨w.heap.size, 0, none⟩) n n) (w.alloc (.cells (dmk X n 0) 48)) := by
  obtain ⟨i, hi, hzz⟩ := Option.map_eq_some_iff.1 desc_row3
  simp only [Prod.mk.injEq] at hzz
  obtain ⟨hz, hs, hb⟩ := hzz
  have hr := run_make (P := Tryd.prog) w 27 48 i _ Tryd.underlying27 hi hz .i64 .i64 n n (by omega) (Int.le_refl _) (by rw [hb]; omega) (by omega)
  rw [hr, Int.toNat_natCast, hs]
  have e : madeCells (Value.agg #[.int .i64 0, .int .i64 0, .int .i64 0]).cells (n * 3) = dmk X n 0 := by
    apply Array.ext_getElem?
    intro j
    unfold madeCells
    rw [Array.getElem?_map]
    by_cases hj : j < n * 3
    · rw [Array.getElem?_range, if_pos hj, dmk_get (by omega)]
      unfold dcell
      rw [if_neg (by omega)]
      simp only [Value.cells, Option.map_some]
      have h3 : j % 3 = 0 ∨ j % 3 = 1 ∨ j % 3 = 2 := by omega
      rcases h3 with h | h | h <;> simp [h]
    · rw [Array.getElem?_range, if_neg (by omega), Array.getElem?_eq_none (by rw [dmk_size]; omega)]
      rfl
  rw [e]
/-- The row that is filled. -/
def LVar (w : World) (b : Nat) (X : Blk) (n j : Nat) : Prop := w.heap[b]? = some (.cells (dmk X n j) 48 (0, 0))
section
variable {w w' : World} {b : Nat} {X : Blk} {n j : Nat}
theorem LVar.lt (h : LVar w b X n j) : b < w.heap.size := (Array.getElem?_eq_some_iff.1 h).1
theorem LVar.below (h : LVar w b X n j) (hb : Below w.heap.size w w') : LVar w' b X n j := (hb.block b h.lt).trans h
theorem LVar.at (h : LVar w b X n j) {k : Nat} (hk : k < n) : DAt w b (k * 3) ⟨dcell X j (k * 3), dcell X j (k * 3 + 1), dcell X j (k * 3 + 2)⟩ := fun i v hv => by
  rw [dcs_eq] at hv
  rw [cell_of_row w b _ _ _ _ h]
  match i, hv with
  | 0, hv => rw [dmk_get (by omega)]; exact hv
  | 1, hv => rw [dmk_get (by omega)]; exact hv
  | 2, hv => rw [dmk_get (by omega)]; exact hv
theorem LVar.set (h : LVar w b X n j) : LVar (((w.setCell ⟨b, j * 3, none⟩ (.int .i64 ((g16 X.f (8 * j) : Nat) : Int))).setCell ⟨b, j * 3 + 1, none⟩ (.int .i64 ((g16 X.f (8 * j + 2) : Nat) : Int))).setCell ⟨b, j * 3 + 2, none⟩ (.int .i64 ((g16 X.f (8 * j + 4) : Nat) : Int))) b X n (j + 1) := by
  unfold LVar at *
  simp [World.setCell, Array.getElem?_modify, h]
  exact dmk_set
theorem descsOf_fits (x : Blk) (n : Nat) : ∀ d ∈ descsOf x n, d.Fits ∧ d.Small := fun d hd => by
  unfold descsOf at hd
  rw [List.mem_map] at hd
  obtain ⟨k, _, rfl⟩ := hd
  have h0 := g16_lt x.lt (8 * k); have h2 := g16_lt x.lt (8 * k + 2); have h4 := g16_lt x.lt (8 * k + 4)
  unfold descOf
  refine ⟨⟨?_, ?_, ?_⟩, ⟨?_, ?_, ?_, ?_, ?_, ?_⟩⟩ <;> (try unfold I64) <;> simp only <;> omega
theorem LVar.own (h : LVar w b X n n) (hn : n ≤ 1000) {base : Nat} (hb : base ≤ b) : DOwn w base (some ⟨b, 0, none⟩) (descsOf X n) := by
  refine ⟨⟨by rw [descsOf_length]; omega, fun d hd => (descsOf_fits X n d hd).1, fun _ => ⟨b, 0, rfl, h.lt, fun k d hd => ?_⟩⟩, fun _ => ⟨b, 0, _, _, rfl, hb, h⟩⟩
  have hk : k < n := by
    rcases Nat.lt_or_ge k (descsOf X n).length with q | q
    · rwa [descsOf_length] at q
    · rw [List.getElem?_eq_none q] at hd; cases hd
  rw [descsOf_get hk] at hd
  injection hd with hd
  subst hd
  have := h.at hk
  rw [Nat.zero_add]
  unfold dcell at this
  rw [if_pos (by omega), if_pos (by omega), if_pos (by omega), show 8 * (k * 3 / 3) + 2 * (k * 3 % 3) = 8 * k by omega, show 8 * ((k * 3 + 1) / 3) + 2 * ((k * 3 + 1) % 3) = 8 * k + 2 by omega, show 8 * ((k * 3 + 2) / 3) + 2 * ((k * 3 + 2) % 3) = 8 * k + 4 by omega] at this
  exact this
end
/-- What is read holds all that is fixed just if to write it again makes the block. -/
theorem again_descs (x : Blk) {n : Nat} (hn : n ≤ 31) : descsB (descsOf x n) = x ↔ (∀ k, k < n → g16 x.f (8 * k + 6) = 0) ∧ Sealed x ∧ ∀ i, 8 * n ≤ i → i < 252 → x.f i = 0 := by
  have hI := descsB_is (l := descsOf x n) (fun d hd => (descsOf_fits x n d hd).2) (by rw [descsOf_length]; exact hn)
  constructor
  · intro h
    rw [h] at hI
    exact ⟨fun k hk => hI.six k (by rw [descsOf_length]; exact hk), hI.sum, fun i h1 h2 => hI.noughts i (by rw [descsOf_length]; exact h1) h2⟩
  · intro ⟨a, b, c⟩
    refine hI.same ⟨fun k d hd => ?_, fun k hk => a k (by rw [descsOf_length] at hk; exact hk), fun i h1 h2 => c i (by rw [descsOf_length] at h1; exact h1) h2, b⟩
    have hk : k < n := by
      rcases Nat.lt_or_ge k (descsOf x n).length with q | q
      · rwa [descsOf_length] at q
      · rw [List.getElem?_eq_none q] at hd; cases hd
    rw [descsOf_get hk] at hd
    exact Option.some.inj hd
theorem readD_geo {g : GeoV} {x : Blk} (h : ¬ May g) : readD g x = ([], 50) := by unfold readD; rw [if_pos h]
theorem readD_bad {g : GeoV} {x : Blk} (h : May g) (k : ¬ DescsOK g x) : readD g x = ([], 60) := by unfold readD; rw [if_neg (fun q => q h), if_pos k]
/-- What ReadDescs keeps in memory. -/
structure RG (w0 : World) (g : GeoV) (X : Blk) (w : World) : Prop where
  low : Below w0.heap.size w0 w
  geo : GVar w w0.heap.size g
  blk : BVar w (w0.heap.size + 1) X
theorem RG.below {w0 w w' : World} {g : GeoV} {X : Blk} (h : RG w0 g X w) (hb : Below w.heap.size w w') : RG w0 g X w' := ⟨h.low.trans (hb.mono h.low.size), h.geo.below hb, h.blk.below hb⟩
theorem RG.only2 {w0 w w' : World} {g : GeoV} {X : Blk} {p b : Nat} (h : RG w0 g X w) (ho : Only2 p b w w') (hp : w0.heap.size + 2 ≤ p) (hb : w0.heap.size + 2 ≤ b) : RG w0 g X w' :=
  ⟨h.low.trans (ho.low (by omega) (by omega) h.low.size), (ho.2.2.2.2 _ h.geo.lt (by omega) (by omega)).trans h.geo, (ho.2.2.2.2 _ h.blk.lt (by omega) (by omega)).trans h.blk⟩
set_option maxRecDepth 100000 in
set_option maxHeartbeats 4000000 in
theorem pReadD (g : GeoV) (X : Blk) (w : World) (hg : g.Fits) (hE : Env w) :
    Calls Tryd.prog 19 #[.agg (gcs g), .agg (arr X)] w fun e w' => ∃ A n c, e = .returned (.tuple #[.slice A n c, .int .i64 (readD g X).2]) ∧ n = (readD g X).1.length ∧ n ≤ c ∧ c ≤ 1000 ∧ DOwn w' w.heap.size A (readD g X).1 ∧ Below w.heap.size w w' := by
  have hz := fun W => zero_blk W
  have hzp := fun W => zero_page W
  have b1 := below_new w (.cells (gcs g) 23)
  have b2 := below_new (w.alloc (.cells (gcs g) 23)) (.cells (arr X) 29)
  have q1 : GVar (w.alloc (.cells (gcs g) 23)) w.heap.size g := heap_alloc_new w _
  have q2 : BVar ((w.alloc (.cells (gcs g) 23)).alloc (.cells (arr X) 29)) (w.heap.size + 1) X := heap_alloc2_new w _ _
  have R1 : Hid (RG w g X ((w.alloc (.cells (gcs g) 23)).alloc (.cells (arr X) 29))) := Lib.hid ⟨b1.trans (b2.mono (by simp)), q1.below b2, q2⟩
  have HE := Lib.hid hE
  have HG := Lib.hid hg
  clear b1 b2 q1 q2 hE hg
  go_enter Tryd.func19, Tryd.ntmps19
  go_wp2_with (first | (refine load_geo rfl (.tmp 2) rfl w.heap.size 0 rfl g R1.out.geo.at ?_))
  generalize (w.alloc (.cells (gcs g) 23)).alloc (.cells (arr X) 29) = w1 at R1 ⊢
  refine (pMay g w1 HG.out).mono ?_
  rintro e w2 ⟨rfl, hb⟩
  have R2 := Lib.hid (R1.out.below hb)
  clear hb R1
  by_cases hm : May g
  · rw [may_true hm]
    obtain ⟨n, hn⟩ := Int.eq_ofNat_of_zero_le (show 0 ≤ g.gr by have := hm.1; omega)
    have hn4 : 1 ≤ n ∧ n ≤ 4 := by have := hm.1; have := hm.2.1; omega
    have hnn : g.gr.toNat = n := by omega
    have HNN := Lib.hid hnn
    have cG := R2.out.geo.c0
    have CG := Lib.hid hn
    rw [hn] at cG
    have hmk := fun W => make_descs X n (by omega) W
    have M := Lib.hid hm
    clear hm hn hnn
    go_upto_region 4 with fail
    have bn := below_new w2 (.cells (dmk X n 0) 48)
    have L3 : Hid (LVar (w2.alloc (.cells (dmk X n 0) 48)) w2.heap.size X n 0) := Lib.hid (heap_alloc_new w2 _)
    have R3 := Lib.hid (R2.out.below bn)
    have Z2 : w.heap.size + 2 ≤ w2.heap.size := R2.out.blk.lt
    clear bn R2
    generalize w2.alloc (.cells (dmk X n 0) 48) = w3 at L3 R3 ⊢
    generalize w2.heap.size = lb at L3 Z2 ⊢
    go_wp2_with (first
      | (refine load_blk rfl (.tmp 3) rfl (w.heap.size + 1) 0 rfl X R3.out.blk.at ?_)
      | (refine build_page rfl (.tmp 15) rfl X rfl ?_)
      | (refine store_newP rfl (.tmp 7) (.tmp 16) rfl X rfl rfl ?_))
    have bn := below_new w3 (.cells (pgs X 0) 67)
    have P4 := Lib.hid (show PVar (w3.alloc (.cells (pgs X 0) 67)) w3.heap.size X 0 from heap_alloc_new w3 _)
    have L4 := Lib.hid (L3.out.below bn)
    have R4 := Lib.hid (R3.out.below bn)
    have Z : Hid (w.heap.size + 2 ≤ lb ∧ lb < w3.heap.size) := Lib.hid ⟨Z2, L3.out.lt⟩
    clear bn R3 L3 Z2
    generalize w3.alloc (.cells (pgs X 0) 67) = w4 at P4 L4 R4 ⊢
    generalize w3.heap.size = p at P4 Z ⊢
    go_loopw [19] (fun i wr => ∃ j : Nat, j ≤ n ∧ i = .int .i64 j ∧ LVar wr lb X n j ∧ PVar wr p X (8 * j) ∧ Only2 p lb w4 wr) (fun i _ => n - (intOf i).toNat)
    case atStart => exact ⟨0, Nat.zero_le _, rfl, L4.out, P4.out, Only2.below (Below.refl _ _)⟩
    case round =>
      obtain ⟨j, hj, rfl, hlv, hpv, hon⟩ := hrel
      have LV := Lib.hid hlv
      have PV := Lib.hid hpv
      have ON := Lib.hid hon
      clear hlv hpv hon
      by_cases hlt : j < n
      · have z1 : (0 : Int) ≤ j := by omega
        have z2 : (j : Int) < n := by omega
        go_wp2_with fail
        refine (descNums_get p (8 * j) lb (j * 3) X _ wr PV.out (by omega) (LV.out.at hlt) (fun i => frozen_of LV.out i) (by have := Z.out; omega)).mono ?_
        rintro e w5 ⟨rfl, hp5, ho5⟩
        have hne : lb ≠ p := by have := Z.out; omega
        have P5 := Lib.hid hp5
        have L5 : Hid (LVar w5 lb X n (j + 1)) := Lib.hid ((ho5.block lb LV.out.set.lt (fun e => hne (Option.some.inj e))).trans LV.out.set)
        have O5 : Hid (Only2 p lb w4 w5) := Lib.hid ((((ON.out.trans (Only2.set p lb _ _ _)).trans (Only2.set p lb _ _ _)).trans (Only2.set p lb _ _ _)).trans (Only2.of ho5))
        clear hp5 ho5 hne
        go_wp2
        go_roundw
        case rel => exact ⟨j + 1, by omega, by go_num, L5.out, P5.out, O5.out⟩
        case measure => simp [intOf]; omega
      obtain rfl : j = n := by omega
      have RW : Hid (RG w g X wr) := Lib.hid (R4.out.only2 ON.out (by have := Z.out; omega) Z.out.1)
      have DR := Lib.hid (show DRow wr (some ⟨lb, 0, none⟩) (descsOf X j) from (LV.out.own (by omega) (base := 0) (Nat.zero_le _)).row)
      have DO := Lib.hid (fun W (hC : More wr W) => descsOf_any (some ⟨lb, 0, none⟩) j j (descsOf X j) W (descsOf_length X j).symm (DR.out.below hC) (fun d hd => (descsOf_fits X j d hd).2) (by rw [descsOf_length]; omega) (HE.out.below (RW.out.below hC).low))
      have MD := Lib.hid (fun W (hC : More wr W) => mayDescs_any g (some ⟨lb, 0, none⟩) j j (descsOf X j) W HG.out M.out (descsOf_length X j).symm (DR.out.below hC))
      have heq := fun W => equalIn_blk (descsB (descsOf X j)) X W
      have hgd := blk_guard
      clear ON PV P4 L4 R4 hlt hmk
      by_cases hh : descsB (descsOf X j) = X
      · rw [decide_eq_true hh] at heq
        have HH := Lib.hid ((again_descs X (by omega)).1 hh)
        clear hh
        by_cases ho : MayD g (descsOf X j)
        · rw [mayDB_true ho] at MD
          have EW := Lib.hid (readD_may M.out (x := X) (by
            have := HNN.out
            rw [← this] at HH ho
            exact ⟨HH.out.1, HH.out.2.1, HH.out.2.2, ho⟩))
          rw [HNN.out] at EW
          clear ho
          go_wp2_with fail
          refine wp_region_class (More wr) (by kernel_rfl) (by kernel_rfl) (More.drew _) ?_
          repeat (first | go_big_quiet_skip | (go_big_quiet_want; first | (refine quiet_geo _ rfl _ _ (by rfl) g (by intro w' hw'; exact (RW.out.below hw').geo.at) ?_; simp only [Act.put, List.setIfInBounds_toArray, List.set_cons_zero, List.set_cons_succ]; go_big_quiet_on) | (refine quiet_load _ rfl _ _ (by rfl) X (by intro w' hw'; exact (RW.out.below hw').blk.at) ?_; simp only [Act.put, List.setIfInBounds_toArray, List.set_cons_zero, List.set_cons_succ]; go_big_quiet_on) | (go_big_quiet_op; first | go_big_quiet_on | (apply Exists.intro; refine ⟨fun _ _ => ?_, ?_⟩; (with_reducible exact rfl); go_big_quiet_on) | go_big_quiet_call ((intro hC; (first | (with_reducible refine (DO.out _ hC).mono ?_) | (with_reducible refine (MD.out _ hC).mono ?_)); exact fun e w' h => ⟨h.1, hC.on h.2⟩)))))
          refine wpQuiet_nil ?_
          intro w5 hw5
          have LB := Lib.hid (RW.out.low.trans (Below.mono hw5 RW.out.low.size))
          have OW := Lib.hid (show DOwn w5 w.heap.size (some ⟨lb, 0, none⟩) (descsOf X j) from (LV.out.below hw5).own (by omega) (by have := Z.out; omega))
          clear hw5
          go_wp2
          go_ret2
          rw [EW.out]
          exact ⟨_, j, j, rfl, (descsOf_length X j).symm, Nat.le_refl _, by omega, OW.out, LB.out⟩
        · rw [mayDB_false ho] at MD
          have EW := Lib.hid (readD_bad M.out (x := X) (fun q => ho (by have := q.2.2.2; rwa [HNN.out] at this)))
          clear ho
          go_wp2_with fail
          refine wp_region_class (More wr) (by kernel_rfl) (by kernel_rfl) (More.drew _) ?_
          repeat (first | go_big_quiet_skip | (go_big_quiet_want; first | (refine quiet_geo _ rfl _ _ (by rfl) g (by intro w' hw'; exact (RW.out.below hw').geo.at) ?_; simp only [Act.put, List.setIfInBounds_toArray, List.set_cons_zero, List.set_cons_succ]; go_big_quiet_on) | (refine quiet_load _ rfl _ _ (by rfl) X (by intro w' hw'; exact (RW.out.below hw').blk.at) ?_; simp only [Act.put, List.setIfInBounds_toArray, List.set_cons_zero, List.set_cons_succ]; go_big_quiet_on) | (go_big_quiet_op; first | go_big_quiet_on | (apply Exists.intro; refine ⟨fun _ _ => ?_, ?_⟩; (with_reducible exact rfl); go_big_quiet_on) | go_big_quiet_call ((intro hC; (first | (with_reducible refine (DO.out _ hC).mono ?_) | (with_reducible refine (MD.out _ hC).mono ?_)); exact fun e w' h => ⟨h.1, hC.on h.2⟩)))))
          refine wpQuiet_nil ?_
          intro w5 hw5
          have LB := Lib.hid (RW.out.low.trans (Below.mono hw5 RW.out.low.size))
          have OW := Lib.hid (show DOwn w5 w.heap.size (some ⟨lb, 0, none⟩) (descsOf X j) from (LV.out.below hw5).own (by omega) (by have := Z.out; omega))
          clear hw5
          go_wp2
          go_ret2
          rw [EW.out]
          exact ⟨none, 0, 0, rfl, rfl, Nat.le_refl _, by omega, ⟨DRow.nil _ _, fun h => absurd h (by simp)⟩, LB.out⟩
      · rw [decide_eq_false hh] at heq
        have EW := Lib.hid (readD_bad M.out (x := X) (fun q => hh ((again_descs X (by omega)).2 (by
          obtain ⟨a, b, c, _⟩ := q
          rw [HNN.out] at a c
          exact ⟨a, b, c⟩))))
        clear hh
        go_wp2_with fail
        refine wp_region_class (More wr) (by kernel_rfl) (by kernel_rfl) (More.drew _) ?_
        repeat (first | go_big_quiet_skip | (go_big_quiet_want; first | (refine quiet_geo _ rfl _ _ (by rfl) g (by intro w' hw'; exact (RW.out.below hw').geo.at) ?_; simp only [Act.put, List.setIfInBounds_toArray, List.set_cons_zero, List.set_cons_succ]; go_big_quiet_on) | (refine quiet_load _ rfl _ _ (by rfl) X (by intro w' hw'; exact (RW.out.below hw').blk.at) ?_; simp only [Act.put, List.setIfInBounds_toArray, List.set_cons_zero, List.set_cons_succ]; go_big_quiet_on) | (go_big_quiet_op; first | go_big_quiet_on | (apply Exists.intro; refine ⟨fun _ _ => ?_, ?_⟩; (with_reducible exact rfl); go_big_quiet_on) | go_big_quiet_call ((intro hC; (first | (with_reducible refine (DO.out _ hC).mono ?_) | (with_reducible refine (MD.out _ hC).mono ?_)); exact fun e w' h => ⟨h.1, hC.on h.2⟩)))))
        refine wpQuiet_nil ?_
        intro w5 hw5
        have LB := Lib.hid (RW.out.low.trans (Below.mono hw5 RW.out.low.size))
        have OW := Lib.hid (show DOwn w5 w.heap.size (some ⟨lb, 0, none⟩) (descsOf X j) from (LV.out.below hw5).own (by omega) (by have := Z.out; omega))
        clear hw5
        go_wp2
        go_ret2
        rw [EW.out]
        exact ⟨none, 0, 0, rfl, rfl, Nat.le_refl _, by omega, ⟨DRow.nil _ _, fun h => absurd h (by simp)⟩, LB.out⟩
  · rw [may_false hm]
    have EW := Lib.hid (readD_geo (x := X) hm)
    clear hm
    go_wp2
    go_ret2
    rw [EW.out]
    exact ⟨none, 0, 0, rfl, rfl, Nat.le_refl _, by omega, ⟨DRow.nil _ _, fun h => absurd h (by simp)⟩, R2.out.low⟩
end Go.Proofs.YtmlmpflfejbbcaaDoor
