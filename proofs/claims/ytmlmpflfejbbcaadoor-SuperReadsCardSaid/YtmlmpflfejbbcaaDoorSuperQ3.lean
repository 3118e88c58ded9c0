import Derived.Test.YtmlmpflfejbbcaaDoorSuperQ2
import Derived.Test.YtmlmpflfejbbcaaDoorVals
namespace Go.Proofs.YtmlmpflfejbbcaaDoor
open Go.RowKit CrcM

theorem short_at (X : Blk) (a : Nat) (ai : Int) (h : ai = (a : Int)) (ha : a + 2 ≤ 256) (W : World) : Calls Tryd.prog 35 #[.agg (arr X), .int .i64 ai] W fun e w' => e = .returned (.int .i64 ((g16 X.f a : Nat) : Int)) ∧ Below W.heap.size W w' := by subst h; exact rshort_any X a W ha
theorem long_at (X : Blk) (a : Nat) (ai : Int) (h : ai = (a : Int)) (ha : a + 4 ≤ 256) (W : World) : Calls Tryd.prog 34 #[.agg (arr X), .int .i64 ai] W fun e w' => e = .returned (.int .u32 ((g32 X.f a : Nat) : Int)) ∧ Below W.heap.size W w' := by subst h; exact rlong_any X a W ha
theorem sum_at (X : Blk) (W : World) (b : Nat) (h : BVar W b X) : Calls Tryd.prog 36 #[.slice (some ⟨b, 0, none⟩) 252 256] W fun e w' => e = .returned (.int .u32 ((sumB X : Nat) : Int)) ∧ Below W.heap.size W w' :=
  (rSum_any (some ⟨b, 0, none⟩) 252 256 X.f W (by omega) (h.row0 (by omega))).mono fun _ _ ⟨e, q⟩ => ⟨e, q ▸ Below.refl _ _⟩
/-- Are so many bytes of a block, from a place on, noughts? -/
def ZB (X : Blk) (a n : Nat) (z : Bool) : Prop := (z = true ∧ ∀ i, i < n → X.f (a + i) = 0) ∨ (z = false ∧ ∃ j, j < n ∧ 0 < X.f (a + j))
theorem zb_yes2 {X : Blk} {a n : Nat} (h : ∀ i, i < n → X.f (a + i) = 0) : ZB X a n true := .inl ⟨rfl, h⟩
theorem zb_no {X : Blk} {a n : Nat} (h : ¬ ∀ i, i < n → X.f (a + i) = 0) : ZB X a n false := by
  obtain ⟨j, hj⟩ := Classical.not_forall.1 h
  obtain ⟨h1, h2⟩ := Classical.not_imp.1 hj
  exact .inr ⟨rfl, j, h1, by omega⟩
theorem zeros_at (X : Blk) (W : World) (b a n c : Nat) (z : Bool) (hz : ZB X a n z) (hn : a + n ≤ 256) (h : BVar W b X) : Calls Tryd.prog 37 #[.slice (some ⟨b, a, none⟩) n c] W fun e w' => e = .returned (.bool z) ∧ Below W.heap.size W w' := by
  rcases hz with ⟨rfl, hz⟩ | ⟨rfl, j, hj, hz⟩
  · exact (rZero_yes _ n c _ W (by omega) (h.row hn) hz).mono fun _ _ ⟨e, q⟩ => ⟨e, q ▸ Below.refl _ _⟩
  · exact (rZero_no _ n c _ W j (by omega) (h.row hn) hj hz).mono fun _ _ ⟨e, q⟩ => ⟨e, q ▸ Below.refl _ _⟩
theorem zero_at (X : Blk) (W : World) (b : Nat) (z : Bool) (hz : ZB X 20 232 z) (h : BVar W b X) : Calls Tryd.prog 37 #[.slice (some ⟨b, 20, none⟩) 232 236] W fun e w' => e = .returned (.bool z) ∧ Below W.heap.size W w' := zeros_at X W b 20 232 236 z hz (by omega) h
/-- The values of the region that reads the geometry. -/
def rdV (X : Blk) (s : Nat) : Nat → Value → World → Prop
  | 0, v, _ => v = .agg (arr X)
  | 1, v, _ => v = .int .i64 ((g16 X.f 8 : Nat) : Int)
  | 2, v, _ => v = .agg (arr X)
  | 3, v, _ => v = .int .i64 ((g16 X.f 10 : Nat) : Int)
  | 4, v, _ => v = .agg (arr X)
  | 5, v, _ => v = .int .i64 ((g16 X.f 12 : Nat) : Int)
  | 6, v, _ => v = .agg (arr X)
  | 7, v, _ => v = .int .i64 ((g16 X.f 14 : Nat) : Int)
  | 8, v, _ => v = .agg (gcs (geoOf X))
  | _, v, w => ∃ b, v = .pointer (some ⟨b, 0, none⟩) ∧ s ≤ b ∧ GVar w b .zero
def rdD : Nat → Tmp
  | 0 => 31 | 1 => 32 | 2 => 33 | 3 => 34 | 4 => 35 | 5 => 36 | 6 => 37 | 7 => 38 | 8 => 39 | _ => 4
theorem rdV_below (X : Blk) (s : Nat) (i : Nat) (v : Value) (w w' : World) (h : rdV X s i v w) (hb : Below w.heap.size w w') : rdV X s i v w' := by
  unfold rdV at h ⊢
  split at h <;> first | exact h | (obtain ⟨b, h1, h2, h3⟩ := h; exact ⟨b, h1, h2, h3.below hb⟩)
theorem zero_geoQ (w : World) : (zeroValue 23).run Tryd.prog w = .ok (.agg (gcs .zero)) w := by
  have h : (Tryd.prog.info? 23).map (fun i => (i.zero, i.size)) = some (some (.agg #[.int .i64 0, .int .i64 0, .int .i64 0, .int .i64 0]), 4) := by kernel_rfl
  rw [(zero_of_info h).1 w, gcs_eq]; rfl
theorem geo_built (a b c d : Int) : Tryd.prog.built 23 [(0, .int .i64 a), (1, .int .i64 b), (2, .int .i64 c), (3, .int .i64 d)] = some (gcs ⟨a, b, c, d⟩) := by rw [gcs_eq]; kernel_rfl
theorem gcs_oneQ (g : GeoV) : (gcs g).all (·.oneCell') = true := by rw [gcs_eq]; simp [Value.oneCell']
theorem gcs_countQ (g : GeoV) : (gcs g).size = 4 := by rw [gcs_eq]; rfl
theorem store_rowG {ops : Array Oper} {rest : List Oper} {op : Oper} {a : Act} {w : World} {Q : Exit → Act → World → Prop} (hgd : op.guard = none) (x y : Operand) (ho : op.op = .store 23 x y) (b : Nat) (g r : GeoV) (hx : a.eval x = .pointer (some ⟨b, 0, none⟩)) (hy : a.eval y = .agg (gcs g)) (hb : GVar w b r)
    (h : wpList Tryd.prog ops Q rest (a.put op.dst undef) (w.setRow b (gcs g))) : wpList Tryd.prog ops Q (op :: rest) a w := by
  refine wpList_plain hgd fun _ hK => ?_
  unfold Oper.wp execOp
  simp only [ho, hx, hy, Instr.storeAt, Instr.sureAddr, Sem.run_bind, Sem.run_pure, Result.andThen_ok, run_storeVar_row w b 23 23 (gcs r) (gcs g) hb (by rw [gcs_countQ]; exact geo_size4) (by rw [gcs_countQ, gcs_countQ]) (gcs_oneQ g)]
  exact hK _ _ h
theorem op_blk {o : Oper} {a : Act} {w : World} {K : Act → World → Prop} {Q : Exit → Act → World → Prop} (x : Operand) (ho : o.op = .load 29 x) (b off : Nat) (hx : a.eval x = .pointer (some ⟨b, off, none⟩)) (X : Blk) (hc : At w b off X)
    (hk : K (a.put o.dst (.agg (arr X))) w) : o.wp Tryd.prog a w K Q :=
  wp_load_mid 29 x ho b off hx (arr X).toList _ hc Tryd.underlying29 rfl (by rw [arr_length]; exact blk_size) (by simpa using hk)
set_option maxRecDepth 100000 in
set_option maxHeartbeats 8000000 in
theorem rRead (X : Blk) (w : World) :
    Calls Tryd.prog 17 #[.agg (arr X)] w fun e w' => e = .returned (.tuple #[.agg (scs (readS X).1), .int .i64 (readS X).2]) ∧ Below w.heap.size w w' := by
  have hzs := fun W => zero_super W
  have hzg := fun W => zero_geoQ W
  have b1 := below_new w (.cells (arr X) 29)
  have b2 := below_new (w.alloc (.cells (arr X) 29)) (.cells (scs .zero) 26)
  have q1 : BVar (w.alloc (.cells (arr X) 29)) w.heap.size X := heap_alloc_new w _
  have q2 : SVar ((w.alloc (.cells (arr X) 29)).alloc (.cells (scs .zero) 26)) (w.heap.size + 1) .zero := heap_alloc2_new w _ _
  have V1 := Lib.hid (q1.below b2)
  have N1 := Lib.hid q2
  have B1 := Lib.hid (b1.trans (b2.mono (by simp)))
  clear b1 b2 q1 q2
  have CL0 := Lib.hid (long_at X 0 0 rfl (by omega))
  have CL252 := Lib.hid (long_at X 252 252 rfl (by omega))
  have CL16 := Lib.hid (long_at X 16 16 rfl (by omega))
  have CS4 := Lib.hid (short_at X 4 4 rfl (by omega))
  have CS6 := Lib.hid (short_at X 6 6 rfl (by omega))
  have CS8 := Lib.hid (short_at X 8 8 rfl (by omega))
  have CS10 := Lib.hid (short_at X 10 10 rfl (by omega))
  have CS12 := Lib.hid (short_at X 12 12 rfl (by omega))
  have CS14 := Lib.hid (short_at X 14 14 rfl (by omega))
  go_enter Tryd.func17, Tryd.ntmps17
  go_upto_region 1 with fail
  generalize (w.alloc (.cells (arr X) 29)).alloc (.cells (scs .zero) 26) = w1 at V1 N1 B1 ⊢
  have CM := Lib.hid (fun W (hC : More w1 W) => sum_at X W w.heap.size (V1.out.below hC))
  by_cases h1 : g32 X.f 0 = 827216465
  rotate_left
  · have t1 : (((g32 X.f 0 : Nat) : Int) != 827216465) = true := by simp; omega
    have EW := Lib.hid (readS_head (x := X) (fun q => h1 q.1))
    clear h1
    go_wp2_with fail
    refine wp_region_class (More w1) (by kernel_rfl) (by kernel_rfl) (More.drew _) ?_
    repeat (first | go_big_quiet_skip | (go_big_quiet_want; first | (refine quiet_load _ rfl _ _ (by rfl) X (by intro w' hw'; exact (V1.out.below hw').at) ?_; simp only [Act.put, List.setIfInBounds_toArray, List.set_cons_zero, List.set_cons_succ]; go_big_quiet_on) | (go_big_quiet_op; first | go_big_quiet_on | (apply Exists.intro; refine ⟨fun _ _ => ?_, ?_⟩; (with_reducible exact rfl); go_big_quiet_on) | go_big_quiet_call ((intro hC; (first | (with_reducible refine (CL0.out _).mono ?_) | (with_reducible refine (CS4.out _).mono ?_) | (with_reducible refine (CS6.out _).mono ?_) | (with_reducible refine (CL252.out _).mono ?_) | (with_reducible refine (CM.out _ hC).mono ?_)); exact fun e w' h => ⟨h.1, hC.on h.2⟩)))))
    refine wpQuiet_nil ?_
    intro w4 hw4
    have V4 := Lib.hid (V1.out.below hw4)
    have N4 := Lib.hid (N1.out.below hw4)
    have B4 := Lib.hid (B1.out.trans (Below.mono hw4 B1.out.size))
    clear hw4
    go_wp2_with (first
      | (refine build_zeroS rfl rfl ?_)
      | (refine store_rowS rfl (.tmp 2) (.tmp 30) rfl (w.heap.size + 1) .zero .zero rfl rfl N4.out ?_))
    exact bodyPost_ret (results_super_err Tryd.results17 _ _ (w.heap.size + 1) .zero _ rfl rfl (N4.out.row _)) rfl ⟨by rw [EW.out], below_setRow B4.out (by omega) _⟩
  have t1 : (((g32 X.f 0 : Nat) : Int) != 827216465) = false := by simp; omega
  by_cases h2 : g16 X.f 4 = 1
  rotate_left
  · have t2 : (((g16 X.f 4 : Nat) : Int) != 1) = true := by simp; omega
    have EW := Lib.hid (readS_head (x := X) (fun q => h2 q.2.1))
    clear h1 h2
    go_wp2_with fail
    refine wp_region_class (More w1) (by kernel_rfl) (by kernel_rfl) (More.drew _) ?_
    repeat (first | go_big_quiet_skip | (go_big_quiet_want; first | (refine quiet_load _ rfl _ _ (by rfl) X (by intro w' hw'; exact (V1.out.below hw').at) ?_; simp only [Act.put, List.setIfInBounds_toArray, List.set_cons_zero, List.set_cons_succ]; go_big_quiet_on) | (go_big_quiet_op; first | go_big_quiet_on | (apply Exists.intro; refine ⟨fun _ _ => ?_, ?_⟩; (with_reducible exact rfl); go_big_quiet_on) | go_big_quiet_call ((intro hC; (first | (with_reducible refine (CL0.out _).mono ?_) | (with_reducible refine (CS4.out _).mono ?_) | (with_reducible refine (CS6.out _).mono ?_) | (with_reducible refine (CL252.out _).mono ?_) | (with_reducible refine (CM.out _ hC).mono ?_)); exact fun e w' h => ⟨h.1, hC.on h.2⟩)))))
    refine wpQuiet_nil ?_
    intro w4 hw4
    have V4 := Lib.hid (V1.out.below hw4)
    have N4 := Lib.hid (N1.out.below hw4)
    have B4 := Lib.hid (B1.out.trans (Below.mono hw4 B1.out.size))
    clear hw4
    go_wp2_with (first
      | (refine build_zeroS rfl rfl ?_)
      | (refine store_rowS rfl (.tmp 2) (.tmp 30) rfl (w.heap.size + 1) .zero .zero rfl rfl N4.out ?_))
    exact bodyPost_ret (results_super_err Tryd.results17 _ _ (w.heap.size + 1) .zero _ rfl rfl (N4.out.row _)) rfl ⟨by rw [EW.out], below_setRow B4.out (by omega) _⟩
  have t2 : (((g16 X.f 4 : Nat) : Int) != 1) = false := by simp; omega
  by_cases h3 : g16 X.f 6 = 256
  rotate_left
  · have t3 : (((g16 X.f 6 : Nat) : Int) != 256) = true := by simp; omega
    have EW := Lib.hid (readS_head (x := X) (fun q => h3 q.2.2.1))
    clear h1 h2 h3
    go_wp2_with fail
    refine wp_region_class (More w1) (by kernel_rfl) (by kernel_rfl) (More.drew _) ?_
    repeat (first | go_big_quiet_skip | (go_big_quiet_want; first | (refine quiet_load _ rfl _ _ (by rfl) X (by intro w' hw'; exact (V1.out.below hw').at) ?_; simp only [Act.put, List.setIfInBounds_toArray, List.set_cons_zero, List.set_cons_succ]; go_big_quiet_on) | (go_big_quiet_op; first | go_big_quiet_on | (apply Exists.intro; refine ⟨fun _ _ => ?_, ?_⟩; (with_reducible exact rfl); go_big_quiet_on) | go_big_quiet_call ((intro hC; (first | (with_reducible refine (CL0.out _).mono ?_) | (with_reducible refine (CS4.out _).mono ?_) | (with_reducible refine (CS6.out _).mono ?_) | (with_reducible refine (CL252.out _).mono ?_) | (with_reducible refine (CM.out _ hC).mono ?_)); exact fun e w' h => ⟨h.1, hC.on h.2⟩)))))
    refine wpQuiet_nil ?_
    intro w4 hw4
    have V4 := Lib.hid (V1.out.below hw4)
    have N4 := Lib.hid (N1.out.below hw4)
    have B4 := Lib.hid (B1.out.trans (Below.mono hw4 B1.out.size))
    clear hw4
    go_wp2_with (first
      | (refine build_zeroS rfl rfl ?_)
      | (refine store_rowS rfl (.tmp 2) (.tmp 30) rfl (w.heap.size + 1) .zero .zero rfl rfl N4.out ?_))
    exact bodyPost_ret (results_super_err Tryd.results17 _ _ (w.heap.size + 1) .zero _ rfl rfl (N4.out.row _)) rfl ⟨by rw [EW.out], below_setRow B4.out (by omega) _⟩
  have t3 : (((g16 X.f 6 : Nat) : Int) != 256) = false := by simp; omega
  by_cases h4 : g32 X.f 252 = sumB X
  rotate_left
  · have t4 : (((g32 X.f 252 : Nat) : Int) != ((sumB X : Nat) : Int)) = true := by simp; omega
    have EW := Lib.hid (readS_head (x := X) (fun q => h4 q.2.2.2.1))
    clear h1 h2 h3 h4
    go_wp2_with fail
    refine wp_region_class (More w1) (by kernel_rfl) (by kernel_rfl) (More.drew _) ?_
    repeat (first | go_big_quiet_skip | (go_big_quiet_want; first | (refine quiet_load _ rfl _ _ (by rfl) X (by intro w' hw'; exact (V1.out.below hw').at) ?_; simp only [Act.put, List.setIfInBounds_toArray, List.set_cons_zero, List.set_cons_succ]; go_big_quiet_on) | (go_big_quiet_op; first | go_big_quiet_on | (apply Exists.intro; refine ⟨fun _ _ => ?_, ?_⟩; (with_reducible exact rfl); go_big_quiet_on) | go_big_quiet_call ((intro hC; (first | (with_reducible refine (CL0.out _).mono ?_) | (with_reducible refine (CS4.out _).mono ?_) | (with_reducible refine (CS6.out _).mono ?_) | (with_reducible refine (CL252.out _).mono ?_) | (with_reducible refine (CM.out _ hC).mono ?_)); exact fun e w' h => ⟨h.1, hC.on h.2⟩)))))
    refine wpQuiet_nil ?_
    intro w4 hw4
    have V4 := Lib.hid (V1.out.below hw4)
    have N4 := Lib.hid (N1.out.below hw4)
    have B4 := Lib.hid (B1.out.trans (Below.mono hw4 B1.out.size))
    clear hw4
    go_wp2_with (first
      | (refine build_zeroS rfl rfl ?_)
      | (refine store_rowS rfl (.tmp 2) (.tmp 30) rfl (w.heap.size + 1) .zero .zero rfl rfl N4.out ?_))
    exact bodyPost_ret (results_super_err Tryd.results17 _ _ (w.heap.size + 1) .zero _ rfl rfl (N4.out.row _)) rfl ⟨by rw [EW.out], below_setRow B4.out (by omega) _⟩
  have t4 : (((g32 X.f 252 : Nat) : Int) != ((sumB X : Nat) : Int)) = false := by simp; omega
  by_cases h5 : ∀ i, i < 232 → X.f (20 + i) = 0
  rotate_left
  · have CZ := Lib.hid (fun W (hC : More w1 W) => zero_at X W w.heap.size false (zb_no h5) (V1.out.below hC))
    have EW := Lib.hid (readS_head (x := X) (fun q => h5 fun i hi => q.2.2.2.2 (20 + i) (by omega) (by omega)))
    clear h1 h2 h3 h4 h5
    go_wp2_with fail
    refine wp_region_class (More w1) (by kernel_rfl) (by kernel_rfl) (More.drew _) ?_
    repeat (first | go_big_quiet_skip | (go_big_quiet_want; first | (refine quiet_load _ rfl _ _ (by rfl) X (by intro w' hw'; exact (V1.out.below hw').at) ?_; simp only [Act.put, List.setIfInBounds_toArray, List.set_cons_zero, List.set_cons_succ]; go_big_quiet_on) | (go_big_quiet_op; first | go_big_quiet_on | (apply Exists.intro; refine ⟨fun _ _ => ?_, ?_⟩; (with_reducible exact rfl); go_big_quiet_on) | go_big_quiet_call ((intro hC; (first | (with_reducible refine (CL0.out _).mono ?_) | (with_reducible refine (CS4.out _).mono ?_) | (with_reducible refine (CS6.out _).mono ?_) | (with_reducible refine (CL252.out _).mono ?_) | (with_reducible refine (CM.out _ hC).mono ?_) | (with_reducible refine (CZ.out _ hC).mono ?_)); exact fun e w' h => ⟨h.1, hC.on h.2⟩)))))
    refine wpQuiet_nil ?_
    intro w4 hw4
    have V4 := Lib.hid (V1.out.below hw4)
    have N4 := Lib.hid (N1.out.below hw4)
    have B4 := Lib.hid (B1.out.trans (Below.mono hw4 B1.out.size))
    clear hw4
    go_wp2_with (first
      | (refine build_zeroS rfl rfl ?_)
      | (refine store_rowS rfl (.tmp 2) (.tmp 30) rfl (w.heap.size + 1) .zero .zero rfl rfl N4.out ?_))
    exact bodyPost_ret (results_super_err Tryd.results17 _ _ (w.heap.size + 1) .zero _ rfl rfl (N4.out.row _)) rfl ⟨by rw [EW.out], below_setRow B4.out (by omega) _⟩
  have CZ := Lib.hid (fun W (hC : More w1 W) => zero_at X W w.heap.size true (zb_yes2 h5) (V1.out.below hC))
  have HH := Lib.hid (show HeadOK X from ⟨h1, h2, h3, h4, fun i q1 q2 => by have := h5 (i - 20) (by omega); rwa [show 20 + (i - 20) = i by omega] at this⟩)
  clear h1 h2 h3 h4 h5
  go_wp2_with fail
  refine wp_region_class (More w1) (by kernel_rfl) (by kernel_rfl) (More.drew _) ?_
  repeat (first | go_big_quiet_skip | (go_big_quiet_want; first | (refine quiet_load _ rfl _ _ (by rfl) X (by intro w' hw'; exact (V1.out.below hw').at) ?_; simp only [Act.put, List.setIfInBounds_toArray, List.set_cons_zero, List.set_cons_succ]; go_big_quiet_on) | (go_big_quiet_op; first | go_big_quiet_on | (apply Exists.intro; refine ⟨fun _ _ => ?_, ?_⟩; (with_reducible exact rfl); go_big_quiet_on) | go_big_quiet_call ((intro hC; (first | (with_reducible refine (CL0.out _).mono ?_) | (with_reducible refine (CS4.out _).mono ?_) | (with_reducible refine (CS6.out _).mono ?_) | (with_reducible refine (CL252.out _).mono ?_) | (with_reducible refine (CM.out _ hC).mono ?_) | (with_reducible refine (CZ.out _ hC).mono ?_)); exact fun e w' h => ⟨h.1, hC.on h.2⟩)))))
  refine wpQuiet_nil ?_
  intro w4 hw4
  have V4 := Lib.hid (V1.out.below hw4)
  have N4 := Lib.hid (N1.out.below hw4)
  have B4 := Lib.hid (B1.out.trans (Below.mono hw4 B1.out.size))
  clear hw4
  clear V1 N1 B1 CZ CM
  go_upto_region 3 with fail
  refine wp_region_vals (n := 10) rdD (rdV X w4.heap.size) (by kernel_rfl) (by kernel_rfl) (by kernel_rfl) (by kernel_rfl) (by kernel_rfl) (rdV_below X w4.heap.size) ?_ ?_
  · intro i o a w5 hi ho hk hb hdep
    have V5 := Lib.hid (show BVar w5 w.heap.size X from BVar.below (w := w4.drew) V4.out hb)
    have p1 : a.eval (.tmp 1) = .pointer (some ⟨w.heap.size, 0, none⟩) := (hk.eval (by decide)).trans rfl
    have hsz : w4.heap.size ≤ w5.heap.size := hb.size
    match i, ho with
    | 0, ho =>
      cases ho
      exact op_blk (.tmp 1) rfl w.heap.size 0 p1 X V5.out.at ⟨_, rfl, rfl, Below.refl _ _⟩
    | 1, ho =>
      cases ho
      have e1 : a.eval (.tmp 31) = .agg (arr X) := hdep ⟨0, .data⟩ (by simp) rfl
      refine wp_enter (f := 35) (args := #[.agg (arr X), .int .i64 8]) ?_ ((CS8.out w5).mono fun e y h => ⟨_, h.1, _, rfl, rfl, h.2⟩)
      have e2 : a.eval (.func 35) = .func (.func 35) #[] #[] := rfl
      have e3 : a.eval (.const (.int .i64 8)) = .int .i64 8 := rfl
      generalize a.eval = ev at e1 e2 e3 ⊢
      go_simp
    | 2, ho =>
      cases ho
      exact op_blk (.tmp 1) rfl w.heap.size 0 p1 X V5.out.at ⟨_, rfl, rfl, Below.refl _ _⟩
    | 3, ho =>
      cases ho
      have e1 : a.eval (.tmp 33) = .agg (arr X) := hdep ⟨2, .data⟩ (by simp) rfl
      refine wp_enter (f := 35) (args := #[.agg (arr X), .int .i64 10]) ?_ ((CS10.out w5).mono fun e y h => ⟨_, h.1, _, rfl, rfl, h.2⟩)
      have e2 : a.eval (.func 35) = .func (.func 35) #[] #[] := rfl
      have e3 : a.eval (.const (.int .i64 10)) = .int .i64 10 := rfl
      generalize a.eval = ev at e1 e2 e3 ⊢
      go_simp
    | 4, ho =>
      cases ho
      exact op_blk (.tmp 1) rfl w.heap.size 0 p1 X V5.out.at ⟨_, rfl, rfl, Below.refl _ _⟩
    | 5, ho =>
      cases ho
      have e1 : a.eval (.tmp 35) = .agg (arr X) := hdep ⟨4, .data⟩ (by simp) rfl
      refine wp_enter (f := 35) (args := #[.agg (arr X), .int .i64 12]) ?_ ((CS12.out w5).mono fun e y h => ⟨_, h.1, _, rfl, rfl, h.2⟩)
      have e2 : a.eval (.func 35) = .func (.func 35) #[] #[] := rfl
      have e3 : a.eval (.const (.int .i64 12)) = .int .i64 12 := rfl
      generalize a.eval = ev at e1 e2 e3 ⊢
      go_simp
    | 6, ho =>
      cases ho
      exact op_blk (.tmp 1) rfl w.heap.size 0 p1 X V5.out.at ⟨_, rfl, rfl, Below.refl _ _⟩
    | 7, ho =>
      cases ho
      have e1 : a.eval (.tmp 37) = .agg (arr X) := hdep ⟨6, .data⟩ (by simp) rfl
      refine wp_enter (f := 35) (args := #[.agg (arr X), .int .i64 14]) ?_ ((CS14.out w5).mono fun e y h => ⟨_, h.1, _, rfl, rfl, h.2⟩)
      have e2 : a.eval (.func 35) = .func (.func 35) #[] #[] := rfl
      have e3 : a.eval (.const (.int .i64 14)) = .int .i64 14 := rfl
      generalize a.eval = ev at e1 e2 e3 ⊢
      go_simp
    | 8, ho =>
      cases ho
      have e1 : a.eval (.tmp 32) = .int .i64 ((g16 X.f 8 : Nat) : Int) := hdep ⟨1, .data⟩ (by simp) rfl
      have e2 : a.eval (.tmp 34) = .int .i64 ((g16 X.f 10 : Nat) : Int) := hdep ⟨3, .data⟩ (by simp) rfl
      have e3 : a.eval (.tmp 36) = .int .i64 ((g16 X.f 12 : Nat) : Int) := hdep ⟨5, .data⟩ (by simp) rfl
      have e4 : a.eval (.tmp 38) = .int .i64 ((g16 X.f 14 : Nat) : Int) := hdep ⟨7, .data⟩ (by simp) rfl
      exact wp_build 23 #[(0, .tmp 32), (1, .tmp 34), (2, .tmp 36), (3, .tmp 38)] rfl (by simp [e1, e2, e3, e4, geo_built]) ⟨_, rfl, by simp [e1, e2, e3, e4, geo_built]; rfl, Below.refl _ _⟩
    | 9, ho =>
      cases ho
      refine wp_value (v := .pointer (some ⟨w5.heap.size, 0, none⟩)) (w' := w5.alloc (.cells (gcs .zero) 23)) ?_ ⟨_, rfl, ⟨_, rfl, hsz, heap_alloc_new w5 _⟩, below_new _ _⟩
      clear hdep p1 hk
      generalize a.eval = ev
      go_simp
  · intro a w5 hk hb hv
    obtain ⟨x, hx, ea⟩ := hk.lit2 58 rfl
    have V5 := Lib.hid (show BVar w5 w.heap.size X from BVar.below (w := w4.drew) V4.out hb)
    have N5 := Lib.hid (show SVar w5 (w.heap.size + 1) .zero from SVar.below (w := w4.drew) N4.out hb)
    have B5 := Lib.hid (show Below w.heap.size w w5 from (show Below w.heap.size w w4.drew from ⟨B4.out.os, B4.out.tape, B4.out.output, B4.out.size, B4.out.block⟩).trans (hb.mono B4.out.size))
    obtain ⟨b, h9, hsb, hg⟩ : ∃ b, a.eval (.tmp 4) = .pointer (some ⟨b, 0, none⟩) ∧ w4.heap.size ≤ b ∧ GVar w5 b .zero := hv 9 (by decide)
    have h0 := hv 0 (by decide)
    rw [show rdD 0 = 31 from rfl, hx] at h0
    have h1 := hv 1 (by decide)
    rw [show rdD 1 = 32 from rfl, hx] at h1
    have h2 := hv 2 (by decide)
    rw [show rdD 2 = 33 from rfl, hx] at h2
    have h3 := hv 3 (by decide)
    rw [show rdD 3 = 34 from rfl, hx] at h3
    have h4 := hv 4 (by decide)
    rw [show rdD 4 = 35 from rfl, hx] at h4
    have h5 := hv 5 (by decide)
    rw [show rdD 5 = 36 from rfl, hx] at h5
    have h6 := hv 6 (by decide)
    rw [show rdD 6 = 37 from rfl, hx] at h6
    have h7 := hv 7 (by decide)
    rw [show rdD 7 = 38 from rfl, hx] at h7
    have h8 := hv 8 (by decide)
    rw [show rdD 8 = 39 from rfl, hx] at h8
    rw [hx] at h9
    replace ea : a = { tmps := #[Value.agg (arr X), Value.pointer (some ⟨w.heap.size, 0, none⟩), Value.pointer (some ⟨w.heap.size + 1, 0, none⟩), Value.int IntKind.i64 0, x 4, Value.agg (arr X), Value.int IntKind.u32 ((g32 X.f 0 : Nat) : Int), Value.bool false, Value.bool false, Value.agg (arr X), Value.int IntKind.i64 ((g16 X.f 4 : Nat) : Int), Value.bool false, Value.bool false, Value.bool false, Value.agg (arr X), Value.int IntKind.i64 ((g16 X.f 6 : Nat) : Int), Value.bool false, Value.bool false, Value.bool false, Value.agg (arr X), Value.int IntKind.u32 ((g32 X.f 252 : Nat) : Int), Value.slice (some ⟨w.heap.size, 0, none⟩) 252 256, Value.int IntKind.u32 ((sumB X : Nat) : Int), Value.bool false, Value.bool false, Value.bool false, Value.slice (some ⟨w.heap.size, 20, none⟩) 232 236, Value.bool true, Value.bool false, Value.bool false, undef, x 31, x 32, x 33, x 34, x 35, x 36, x 37, x 38, x 39, undef, undef, undef, undef, undef, undef, undef, undef, undef, undef, undef, undef, undef, undef, undef, undef, undef, undef], defers := [] } := ea
    replace h0 : x 31 = .agg (arr X) := h0
    replace h1 : x 32 = .int .i64 ((g16 X.f 8 : Nat) : Int) := h1
    replace h2 : x 33 = .agg (arr X) := h2
    replace h3 : x 34 = .int .i64 ((g16 X.f 10 : Nat) : Int) := h3
    replace h4 : x 35 = .agg (arr X) := h4
    replace h5 : x 36 = .int .i64 ((g16 X.f 12 : Nat) : Int) := h5
    replace h6 : x 37 = .agg (arr X) := h6
    replace h7 : x 38 = .int .i64 ((g16 X.f 14 : Nat) : Int) := h7
    replace h8 : x 39 = .agg (gcs (geoOf X)) := h8
    rw [h0, h1, h2, h3, h4, h5, h6, h7, h8, h9] at ea
    subst ea
    have Z := Lib.hid (show w.heap.size + 2 ≤ b from Nat.le_trans N4.out.lt hsb)
    have HG := Lib.hid hg
    clear hk hb hv hx h0 h1 h2 h3 h4 h5 h6 h7 h8 h9 hsb hg x V4 N4 B4
    simp only [List.drop_succ_cons, List.drop_zero]
    have G6 : Hid (GVar (w5.setRow b (gcs (geoOf X))) b (geoOf X)) := Lib.hid (setRow_heap _ _ _ _ _ _ HG.out)
    have V6 : Hid (BVar (w5.setRow b (gcs (geoOf X))) w.heap.size X) := Lib.hid ((setRow_other w5 b w.heap.size _ (by have := Z.out; omega)).trans V5.out)
    have N6 : Hid (SVar (w5.setRow b (gcs (geoOf X))) (w.heap.size + 1) .zero) := Lib.hid ((setRow_other w5 b (w.heap.size + 1) _ (by have := Z.out; omega)).trans N5.out)
    have B6 := Lib.hid (below_setRow B5.out (by have := Z.out; omega) (g := b) (gcs (geoOf X)))
    go_wp2_with (first
      | (refine store_rowG rfl (.tmp 4) (.tmp 39) rfl b (geoOf X) .zero rfl rfl HG.out ?_)
      | (refine load_geo rfl (.tmp 4) rfl b 0 rfl (geoOf X) G6.out.at ?_))
    clear HG V5 N5 B5
    generalize w5.setRow b (gcs (geoOf X)) = w6 at G6 V6 N6 B6 ⊢
    refine (rMay (geoOf X) w6).mono ?_
    rintro e w7 ⟨rfl, hb⟩
    have G7 := Lib.hid (G6.out.below hb)
    have V7 := Lib.hid (V6.out.below hb)
    have N7 := Lib.hid (N6.out.below hb)
    have B7 := Lib.hid (B6.out.trans (hb.mono B6.out.size))
    clear hb G6 V6 N6 B6
    by_cases hm : May (geoOf X)
    · rw [may_true hm]
      have M := Lib.hid hm
      have hbd : 0 ≤ (geoOf X).gr * (geoOf X).ino ∧ (geoOf X).gr * (geoOf X).ino ≤ 256 := by
        obtain ⟨h1, h2, h3, h4, h5, h6, h7, h8, h9, h10, h11⟩ := hm
        exact ⟨Int.mul_nonneg (by omega) (by omega), by have := Int.mul_le_mul h2 h6 (by omega) (by omega); omega⟩
      clear hm
      have ho4 := g32_lt X.lt 16
      have wm : IntKind.i64.wrap ((geoOf X).gr * (geoOf X).ino) = (geoOf X).gr * (geoOf X).ino := by rw [IntKind.wrap_i64]; omega
      have wm1 : -9223372036854775808 ≤ (geoOf X).gr * (geoOf X).ino := by omega
      have wm2 : (geoOf X).gr * (geoOf X).ino ≤ 9223372036854775807 := by omega
      have wo : IntKind.i64.wrap ((g32 X.f 16 : Nat) : Int) = ((g32 X.f 16 : Nat) : Int) := by rw [IntKind.wrap_i64]; omega
      by_cases ho : ((g32 X.f 16 : Nat) : Int) ≤ (geoOf X).gr * (geoOf X).ino
      · have t1 : decide ((geoOf X).gr * (geoOf X).ino < ((g32 X.f 16 : Nat) : Int)) = false := decide_eq_false (by omega)
        have EW := Lib.hid (readS_yes HH.out M.out ho)
        clear ho hbd
        go_wp2_with fail
        refine wp_region_class (More w7) (by kernel_rfl) (by kernel_rfl) (More.drew _) ?_
        repeat (first | go_big_quiet_skip | (go_big_quiet_want; first | (refine quiet_int _ rfl _ (by rfl) _ (by intro w' hw'; first | exact (G7.out.below hw').c0 | exact (G7.out.below hw').c2) ?_; simp only [Act.put, List.setIfInBounds_toArray, List.set_cons_zero, List.set_cons_succ]; go_big_quiet_on) | (refine quiet_load _ rfl _ _ (by rfl) X (by intro w' hw'; exact (V7.out.below hw').at) ?_; simp only [Act.put, List.setIfInBounds_toArray, List.set_cons_zero, List.set_cons_succ]; go_big_quiet_on) | (go_big_quiet_op; first | go_big_quiet_on | (apply Exists.intro; refine ⟨fun _ _ => ?_, ?_⟩; (with_reducible exact rfl); go_big_quiet_on) | go_big_quiet_call ((intro hC; (with_reducible refine (CL16.out _).mono ?_); exact fun e w' h => ⟨h.1, hC.on h.2⟩)))))
        refine wpQuiet_nil ?_
        intro w8 hw8
        have G8 := Lib.hid (G7.out.below hw8)
        have V8 := Lib.hid (V7.out.below hw8)
        have N8 := Lib.hid (N7.out.below hw8)
        have B8 := Lib.hid (B7.out.trans (Below.mono hw8 B7.out.size))
        clear hw8
        clear wm wm1 wm2 wo t1
        go_wp2_with fail
        refine wp_region_class_tail (More w8) 3 (by kernel_rfl) (by kernel_rfl) (More.drew _) ?_
        simp only [List.take_succ_cons, List.take_zero, List.drop_succ_cons, List.drop_zero]
        repeat (first | go_big_quiet_skip | (go_big_quiet_want; first | (refine quiet_geo _ rfl _ _ (by rfl) (geoOf X) (by intro w' hw'; exact (G8.out.below hw').at) ?_; simp only [Act.put, List.setIfInBounds_toArray, List.set_cons_zero, List.set_cons_succ]; go_big_quiet_on) | (refine quiet_load _ rfl _ _ (by rfl) X (by intro w' hw'; exact (V8.out.below hw').at) ?_; simp only [Act.put, List.setIfInBounds_toArray, List.set_cons_zero, List.set_cons_succ]; go_big_quiet_on) | (go_big_quiet_op; first | go_big_quiet_on | (apply Exists.intro; refine ⟨fun _ _ => ?_, ?_⟩; (with_reducible exact rfl); go_big_quiet_on) | go_big_quiet_call ((intro hC; (with_reducible refine (CL16.out _).mono ?_); exact fun e w' h => ⟨h.1, hC.on h.2⟩)))))
        refine wpQuiet_nil ?_
        intro w9 hw9
        have N9 := Lib.hid (N8.out.below hw9)
        have B9 := Lib.hid (B8.out.trans (Below.mono hw9 B8.out.size))
        clear hw9
        go_wp2_with (first
          | (refine build_super rfl (.tmp 54) (.tmp 56) rfl (geoOf X) (g32 X.f 16) rfl rfl ?_)
          | (refine store_rowS rfl (.tmp 2) (.tmp 57) rfl (w.heap.size + 1) (superOf X) .zero rfl rfl N9.out ?_))
        exact bodyPost_ret (results_super_err Tryd.results17 _ _ (w.heap.size + 1) (superOf X) _ rfl rfl (N9.out.row _)) rfl ⟨by rw [EW.out], below_setRow B9.out (by omega) _⟩
      · have t1 : decide ((geoOf X).gr * (geoOf X).ino < ((g32 X.f 16 : Nat) : Int)) = true := decide_eq_true (by omega)
        have EW := Lib.hid (readS_orphan HH.out M.out ho)
        clear ho hbd
        go_wp2_with fail
        refine wp_region_class (More w7) (by kernel_rfl) (by kernel_rfl) (More.drew _) ?_
        repeat (first | go_big_quiet_skip | (go_big_quiet_want; first | (refine quiet_int _ rfl _ (by rfl) _ (by intro w' hw'; first | exact (G7.out.below hw').c0 | exact (G7.out.below hw').c2) ?_; simp only [Act.put, List.setIfInBounds_toArray, List.set_cons_zero, List.set_cons_succ]; go_big_quiet_on) | (refine quiet_load _ rfl _ _ (by rfl) X (by intro w' hw'; exact (V7.out.below hw').at) ?_; simp only [Act.put, List.setIfInBounds_toArray, List.set_cons_zero, List.set_cons_succ]; go_big_quiet_on) | (go_big_quiet_op; first | go_big_quiet_on | (apply Exists.intro; refine ⟨fun _ _ => ?_, ?_⟩; (with_reducible exact rfl); go_big_quiet_on) | go_big_quiet_call ((intro hC; (with_reducible refine (CL16.out _).mono ?_); exact fun e w' h => ⟨h.1, hC.on h.2⟩)))))
        refine wpQuiet_nil ?_
        intro w8 hw8
        have G8 := Lib.hid (G7.out.below hw8)
        have V8 := Lib.hid (V7.out.below hw8)
        have N8 := Lib.hid (N7.out.below hw8)
        have B8 := Lib.hid (B7.out.trans (Below.mono hw8 B7.out.size))
        clear hw8
        clear wm wm1 wm2 wo t1
        go_wp2_with (first
          | (refine build_zeroS rfl rfl ?_)
          | (refine store_rowS rfl (.tmp 2) (.tmp 53) rfl (w.heap.size + 1) .zero .zero rfl rfl N8.out ?_))
        exact bodyPost_ret (results_super_err Tryd.results17 _ _ (w.heap.size + 1) .zero _ rfl rfl (N8.out.row _)) rfl ⟨by rw [EW.out], below_setRow B8.out (by omega) _⟩
    · rw [may_false hm]
      have EW := Lib.hid (readS_geo HH.out hm)
      clear hm
      go_wp2_with (first
        | (refine build_zeroS rfl rfl ?_)
        | (refine store_rowS rfl (.tmp 2) (.tmp 43) rfl (w.heap.size + 1) .zero .zero rfl rfl N7.out ?_))
      exact bodyPost_ret (results_super_err Tryd.results17 _ _ (w.heap.size + 1) .zero _ rfl rfl (N7.out.row _)) rfl ⟨by rw [EW.out], below_setRow B7.out (by omega) _⟩
end Go.Proofs.YtmlmpflfejbbcaaDoor
