import Derived.Test.YtjiooadakklmlaaJbM2
import Derived.Test.YtjiooadakklmlaaBVar
import Derived.Test.YtjiooadakklmlaaLow
import Derived.Test.YtjiooadakklmlaaNums4
import Derived.Test.YtjiooadakklmlaaFillR
import Derived.Deep.RegionWith
import Derived.Deep.CutBlock
namespace Go.Proofs.Ytjiooadakklmlaa
open Go.RowKit

/-! The document's own: numbers of a block, how it begins, its kind, copies. -/
set_option maxHeartbeats 1000000 in
theorem rAt (X : Blk) (k : Nat) (w : World) (hk : k + 4 ≤ 256) : Calls Try.prog 48 #[.agg (arr X), .int .i64 (k : Int)] w fun e w' => e = .returned (.int .u32 ((g32 X.f k : Nat) : Int)) ∧ Below w.heap.size w w' := by
  have V := Lib.hid (show BVar (w.alloc (.cells (arr X) 28)) w.heap.size X from heap_alloc_new w _)
  have B := Lib.hid (below_new w (.cells (arr X) 28))
  have CG := Lib.hid fun W (h : BVar W w.heap.size X) => rGet32_yes (some ⟨w.heap.size, 0, none⟩) 256 256 (k : Int) X.f W (by omega) (h.row0 (Nat.le_refl _)) (by omega) (by omega)
  simp only [Int.toNat_natCast] at CG
  generalize g32 X.f k = v at CG ⊢
  go_enter Try.func48, Try.ntmps48
  go_upto_region 1 with fail
  generalize w.alloc (.cells (arr X) 28) = w1 at V B ⊢
  go_wp2_with (go_at_call 65; with_reducible refine (CG.out _ V.out).mono ?_; rintro e w2 ⟨rfl, d, rfl⟩)
  go_ret
  exact ⟨rfl, low_drewN B.out d⟩
theorem rNum (X : Blk) (k : Nat) (w : World) (hk : k < 64) : Calls Try.prog 48 #[.agg (arr X), .int .i64 ((4 * k : Nat) : Int)] w fun e w' => e = .returned (.int .u32 ((num X k : Nat) : Int)) ∧ Below w.heap.size w w' := rAt X (4 * k) w (by omega)
theorem rSeq (s : Nat) (w : World) : Calls Try.prog 39 #[.int .u32 (s : Int)] w fun e w' => e = .returned (.bool (decide (MaySeq s))) ∧ w' = w := by
  by_cases h1 : 1 ≤ s
  rotate_left
  · have m : decide (MaySeq s) = false := decide_eq_false fun q => h1 q.pos
    have d1 : decide ((1 : Int) ≤ (s : Int)) = false := by simp; omega
    have e1 : ¬ (1 : Int) ≤ (s : Int) := by omega
    rw [m]
    clear m h1
    go_enter Try.func39, Try.ntmps39
    go_wp2
    go_ret
    exact ⟨rfl, rfl⟩
  have d1 : decide ((1 : Int) ≤ (s : Int)) = true := by simp; omega
  have e1 : (1 : Int) ≤ (s : Int) := by omega
  by_cases h2 : s ≤ 2147483648
  · have m : decide (MaySeq s) = true := decide_eq_true ⟨h1, h2⟩
    have d2 : decide ((s : Int) ≤ 2147483648) = true := by simp; omega
    have e2 : (s : Int) ≤ 2147483648 := by omega
    rw [m]
    clear m h1 h2
    go_enter Try.func39, Try.ntmps39
    go_wp2
    go_ret
    exact ⟨rfl, rfl⟩
  · have m : decide (MaySeq s) = false := decide_eq_false fun q => h2 q.le
    have d2 : decide ((s : Int) ≤ 2147483648) = false := by simp; omega
    have e2 : ¬ (s : Int) ≤ 2147483648 := by omega
    rw [m]
    clear m h1 h2
    go_enter Try.func39, Try.ntmps39
    go_wp2
    go_ret
    exact ⟨rfl, rfl⟩
set_option maxHeartbeats 2000000 in
theorem rBegins (X : Blk) (k : Nat) (w : World) : Calls Try.prog 47 #[.agg (arr X), .int .u32 (k : Int)] w fun e w' => e = .returned (.bool (decide (Begins X k))) ∧ Below w.heap.size w w' := by
  have V := Lib.hid (show BVar (w.alloc (.cells (arr X) 28)) w.heap.size X from heap_alloc_new w _)
  have B := Lib.hid (below_new w (.cells (arr X) 28))
  have C0 : Hid (∀ W, Calls Try.prog 48 #[.agg (arr X), .int .i64 0] W fun e w' => e = .returned (.int .u32 ((num X 0 : Nat) : Int)) ∧ Below W.heap.size W w') := Lib.hid fun W => rNum X 0 W (by omega)
  have C1 : Hid (∀ W, Calls Try.prog 48 #[.agg (arr X), .int .i64 4] W fun e w' => e = .returned (.int .u32 ((num X 1 : Nat) : Int)) ∧ Below W.heap.size W w') := Lib.hid fun W => rNum X 1 W (by omega)
  have C2 : Hid (∀ W, Calls Try.prog 48 #[.agg (arr X), .int .i64 8] W fun e w' => e = .returned (.int .u32 ((num X 2 : Nat) : Int)) ∧ Below W.heap.size W w') := Lib.hid fun W => rNum X 2 W (by omega)
  have CS := Lib.hid fun W => rSeq (num X 2) W
  have E : Hid (decide (Begins X k) = (decide (num X 0 = 1280199249) && (decide (num X 1 = k) && decide (MaySeq (num X 2))))) := Lib.hid (by
    rw [Bool.eq_iff_iff]
    simp only [Bool.and_eq_true, decide_eq_true_iff]
    exact ⟨fun h => ⟨h.magic, h.kind, h.seq⟩, fun h => ⟨h.1, h.2.1, h.2.2⟩⟩)
  generalize num X 0 = n0 at C0 E
  generalize num X 1 = n1 at C1 E
  generalize num X 2 = n2 at C2 CS E
  obtain ⟨sq, hsq⟩ : ∃ sq, decide (MaySeq n2) = sq := ⟨_, rfl⟩
  rw [hsq] at CS E
  clear hsq
  by_cases h0 : n0 = 1280199249
  rotate_left
  · have t0 : (((n0 : Nat) : Int) == 1280199249) = false := by rw [beq_eq_false_iff_ne]; omega
    have E2 := Lib.hid (show decide (Begins X k) = false by rw [E.out, decide_eq_false h0]; rfl)
    clear h0 E
    go_enter Try.func47, Try.ntmps47
    go_upto_region 1 with fail
    generalize w.alloc (.cells (arr X) 28) = w1 at V B ⊢
    go_wp2_with (first
      | (refine load_blk rfl (.tmp 2) rfl w.heap.size 0 rfl X V.out.at ?_)
      | (go_at_call 48; with_reducible refine (C0.out _).mono ?_; rintro e w2 ⟨rfl, hb⟩))
    go_ret
    exact ⟨by rw [E2.out]; rfl, low_go B.out hb⟩
  have t0 : (((n0 : Nat) : Int) == 1280199249) = true := by rw [beq_iff_eq]; omega
  have T0 := Lib.hid h0
  clear h0
  by_cases h1 : n1 = k
  rotate_left
  · have t1 : (((n1 : Nat) : Int) == (k : Int)) = false := by rw [beq_eq_false_iff_ne]; omega
    have E2 := Lib.hid (show decide (Begins X k) = false by rw [E.out, decide_eq_false h1, Bool.false_and, Bool.and_false])
    clear h1 E
    go_enter Try.func47, Try.ntmps47
    go_upto_region 1 with fail
    generalize w.alloc (.cells (arr X) 28) = w1 at V B ⊢
    go_wp2_with (first
      | (refine load_blk rfl (.tmp 2) rfl w.heap.size 0 rfl X V.out.at ?_)
      | (go_at_call 48; with_reducible refine (C0.out _).mono ?_; rintro e w2 ⟨rfl, hb⟩; have V2 := Lib.hid (V.out.below hb))
      | (refine load_blk_w (by with_unfolding_all rfl) (.tmp 2) rfl w.heap.size 0 rfl X V2.out.at ?_)
      | (go_at_call 48; with_reducible refine (C1.out _).mono ?_; rintro e w3 ⟨rfl, hc⟩))
    go_ret
    exact ⟨by rw [E2.out]; rfl, low_go (low_go B.out hb) hc⟩
  have t1 : (((n1 : Nat) : Int) == (k : Int)) = true := by rw [beq_iff_eq]; omega
  have E2 := Lib.hid (show decide (Begins X k) = sq by rw [E.out, decide_eq_true h1, decide_eq_true T0.out, Bool.true_and, Bool.true_and])
  clear h1 E T0
  go_enter Try.func47, Try.ntmps47
  go_upto_region 1 with fail
  generalize w.alloc (.cells (arr X) 28) = w1 at V B ⊢
  go_wp2_with (first
    | (refine load_blk rfl (.tmp 2) rfl w.heap.size 0 rfl X V.out.at ?_)
    | (go_at_call 48; with_reducible refine (C0.out _).mono ?_; rintro e w2 ⟨rfl, hb⟩; have V2 := Lib.hid (V.out.below hb))
    | (refine load_blk_w (by with_unfolding_all rfl) (.tmp 2) rfl w.heap.size 0 rfl X V2.out.at ?_)
    | (go_at_call 48; with_reducible refine (C1.out _).mono ?_; rintro e w3 ⟨rfl, hc⟩; have V3 := Lib.hid (V2.out.below hc))
    | (refine load_blk_w (by with_unfolding_all rfl) (.tmp 2) rfl w.heap.size 0 rfl X V3.out.at ?_)
    | (go_at_call 48; with_reducible refine (C2.out _).mono ?_; rintro e w4 ⟨rfl, hd⟩)
    | (go_at_call 39; with_reducible refine (CS.out _).mono ?_; rintro e w5 ⟨rfl, rfl⟩))
  go_ret
  exact ⟨by rw [E2.out]; rfl, low_go (low_go (low_go B.out hb) hc) hd⟩
theorem row_heap (w : World) (b : Nat) (X Y : Blk) (h : BVar w b Y) : (w.setRow b (arr X)).heap[b]? = some (.cells (arr X) 28 (0, 0)) := by
  unfold BVar at h
  unfold World.setRow
  simp [Array.getElem?_modify, h]
theorem row_low {w0 w : World} (h : Below w0.heap.size w0 w) {r : Nat} (hr : w0.heap.size ≤ r) (cs : Array Value) : Below w0.heap.size w0 (w.setRow r cs) :=
  ⟨h.os, h.tape, h.output, by simp [World.setRow]; exact h.size, fun j hj => by
    unfold World.setRow
    simp only [Array.getElem?_modify]
    rw [if_neg (by omega)]
    exact h.block j hj⟩
theorem res_blk2 {fn : Func} {p u : Tmp} (h : fn.results = #[.cell p 28, .tmp u]) (tmps : Array Value) (w : World) (g : Nat) (X : Blk) (v : Value) (t : TypeId) (hp : tmps.getD p undef = .pointer (some ⟨g, 0, none⟩)) (hu : tmps.getD u undef = v) (hg : w.heap[g]? = some (.cells (arr X) t (0, 0))) :
    (results fn tmps).run Try.prog w = .ok (.tuple #[.agg (arr X), v]) w := by
  rw [results_blk_tmp h tmps w g X t hp hg, hu]
set_option maxHeartbeats 1000000 in
theorem rUnescape (X : Blk) (w : World) : Calls Try.prog 34 #[.agg (arr X)] w fun e w' => e = .returned (.agg (arr (unescB X))) ∧ Below w.heap.size w w' := by
  have hz := fun W => zero_blk W
  have V := Lib.hid (show BVar ((w.alloc (.cells (arr X) 28)).alloc (.cells (arr .zero) 28)) w.heap.size X from BVar.below (heap_alloc_new w _) (below_new _ _))
  have R := Lib.hid (show BVar ((w.alloc (.cells (arr X) 28)).alloc (.cells (arr .zero) 28)) (w.heap.size + 1) .zero from heap_alloc2_new w _ _)
  have B := Lib.hid (show Below w.heap.size w ((w.alloc (.cells (arr X) 28)).alloc (.cells (arr .zero) 28)) from low_go (below_new w _) (below_new _ _))
  have CP : Hid (∀ W, BVar W w.heap.size X → Calls Try.prog 53 #[.slice (some ⟨w.heap.size, 0, none⟩) 256 256, .int .i64 0, .int .u32 1280199249] W fun e w' => e = .returned (.bool true) ∧ BVar w' w.heap.size (unescB X) ∧ Only w.heap.size W w') := Lib.hid fun W h => rput32_b w.heap.size 0 1280199249 X W h (by omega) (by omega)
  go_enter Try.func34, Try.ntmps34
  go_upto_region 1 with fail
  generalize (w.alloc (.cells (arr X) 28)).alloc (.cells (arr .zero) 28) = w1 at V R B ⊢
  clear hz
  go_upto_region 2 with (go_at_call 53; with_reducible refine (CP.out _ V.out).mono ?_; rintro e w2 ⟨rfl, hv, ho⟩)
  have V2 := Lib.hid hv
  have R2 := Lib.hid (ho.blk (by omega) R.out)
  have B2 := Lib.hid (low_only B.out ho (Nat.le_refl _))
  clear hv ho CP V R B
  go_wp2_with (first
    | (refine load_blk rfl (.tmp 1) rfl w.heap.size 0 rfl (unescB X) V2.out.at ?_)
    | (refine store_row rfl (.tmp 2) (.tmp 5) rfl (w.heap.size + 1) (unescB X) .zero 28 rfl rfl R2.out ?_))
  exact bodyPost_ret (results_blk Try.results34 _ _ (w.heap.size + 1) (unescB X) _ rfl (row_heap _ _ _ _ R2.out)) rfl ⟨rfl, row_low B2.out (by omega) _⟩
theorem jb_set {w : World} {b : Nat} {X : Blk} (h : BVar w b X) (k v : Nat) (hv : v < 256) : BVar (w.setCell ⟨b, k, none⟩ (.int .u8 ((v : Nat) : Int))) b (X.set k v hv) := by
  unfold BVar at *
  rw [heap_setCell_same w b k _ _ _ h, arr_set]
theorem put0_set (X : Blk) : (((X.set 0 0 (by omega)).set 1 0 (by omega)).set 2 0 (by omega)).set 3 0 (by omega) = putB32 X 0 0 := Blk.same fun j hj => by
  rw [putB32_f hj, p32_at]
  unfold Blk.set
  simp only [Blk.of_f hj]
set_option maxHeartbeats 2000000 in
theorem rEscape (X : Blk) (w : World) : Calls Try.prog 32 #[.agg (arr X)] w fun e w' => e = .returned (.tuple #[.agg (arr (escB X).1), .bool (escB X).2]) ∧ Below w.heap.size w w' := by
  have hz := fun W => zero_blk W
  have V := Lib.hid (show BVar ((w.alloc (.cells (arr X) 28)).alloc (.cells (arr .zero) 28)) w.heap.size X from BVar.below (heap_alloc_new w _) (below_new _ _))
  have R := Lib.hid (show BVar ((w.alloc (.cells (arr X) 28)).alloc (.cells (arr .zero) 28)) (w.heap.size + 1) .zero from heap_alloc2_new w _ _)
  have B := Lib.hid (show Below w.heap.size w ((w.alloc (.cells (arr X) 28)).alloc (.cells (arr .zero) 28)) from low_go (below_new w _) (below_new _ _))
  have C0 : Hid (∀ W, Calls Try.prog 48 #[.agg (arr X), .int .i64 0] W fun e w' => e = .returned (.int .u32 ((num X 0 : Nat) : Int)) ∧ Below W.heap.size W w') := Lib.hid fun W => rNum X 0 W (by omega)
  by_cases h : num X 0 = magic
  · have t0 : (((num X 0 : Nat) : Int) != 1280199249) = false := by rw [bne_eq_false_iff_eq, h]; rfl
    have E := Lib.hid (esc_yes h)
    generalize num X 0 = n0 at C0 t0
    clear h
    go_enter Try.func32, Try.ntmps32
    go_upto_region 1 with fail
    generalize (w.alloc (.cells (arr X) 28)).alloc (.cells (arr .zero) 28) = w1 at V R B ⊢
    clear hz
    go_upto_region 3 with (first
      | (refine load_blk rfl (.tmp 1) rfl w.heap.size 0 rfl X V.out.at ?_)
      | (go_at_call 48; with_reducible refine (C0.out _).mono ?_; rintro e w2 ⟨rfl, hb⟩))
    have V2 := Lib.hid (V.out.below hb)
    have R2 := Lib.hid (R.out.below hb)
    have B2 := Lib.hid (low_go B.out hb)
    clear hb V R B C0 t0
    have fz : ∀ i, w2.frozen? ⟨w.heap.size, i, none⟩ = false := fun i => by
      have := V2.out
      unfold BVar at this
      simp [World.frozen?, this]
    have z0 := fz 0
    have z1 := fz 1
    have z2 := fz 2
    have z3 := fz 3
    have c0 := V2.out.at.cell (i := 0) (by omega)
    have c1 := V2.out.at.cell (i := 1) (by omega)
    have c2 := V2.out.at.cell (i := 2) (by omega)
    have c3 := V2.out.at.cell (i := 3) (by omega)
    have V3' := Lib.hid (jb_set (jb_set (jb_set (jb_set V2.out 0 0 (by omega)) 1 0 (by omega)) 2 0 (by omega)) 3 0 (by omega))
    rw [put0_set] at V3'
    have O3' := Lib.hid ((((Only.set w2 w.heap.size 0 (.int .u8 ((0 : Nat) : Int))).trans (Only.set _ w.heap.size 1 (.int .u8 ((0 : Nat) : Int)))).trans (Only.set _ w.heap.size 2 (.int .u8 ((0 : Nat) : Int)))).trans (Only.set _ w.heap.size 3 (.int .u8 ((0 : Nat) : Int))))
    go_upto_region 4 with fail
    have V3 : Hid (BVar ((((w2.setCell ⟨w.heap.size, 0, none⟩ (.int .u8 0)).setCell ⟨w.heap.size, 1, none⟩ (.int .u8 0)).setCell ⟨w.heap.size, 2, none⟩ (.int .u8 0)).setCell ⟨w.heap.size, 3, none⟩ (.int .u8 0)) w.heap.size (putB32 X 0 0)) := V3'
    have O3 : Hid (Only w.heap.size w2 ((((w2.setCell ⟨w.heap.size, 0, none⟩ (.int .u8 0)).setCell ⟨w.heap.size, 1, none⟩ (.int .u8 0)).setCell ⟨w.heap.size, 2, none⟩ (.int .u8 0)).setCell ⟨w.heap.size, 3, none⟩ (.int .u8 0))) := O3'
    clear V3' O3' c0 c1 c2 c3 z0 z1 z2 z3 fz
    generalize (((w2.setCell ⟨w.heap.size, 0, none⟩ (.int .u8 0)).setCell ⟨w.heap.size, 1, none⟩ (.int .u8 0)).setCell ⟨w.heap.size, 2, none⟩ (.int .u8 0)).setCell ⟨w.heap.size, 3, none⟩ (.int .u8 0) = w3 at V3 O3 ⊢
    have R3 := Lib.hid (O3.out.blk (by omega) R2.out)
    have B3 := Lib.hid (low_only B2.out O3.out (Nat.le_refl _))
    go_wp2_with (first
      | (refine load_blk rfl (.tmp 1) rfl w.heap.size 0 rfl (putB32 X 0 0) V3.out.at ?_)
      | (refine store_row rfl (.tmp 2) (.tmp 12) rfl (w.heap.size + 1) (putB32 X 0 0) .zero 28 rfl rfl R3.out ?_))
    exact bodyPost_ret (res_blk2 Try.results32 _ _ (w.heap.size + 1) (putB32 X 0 0) (.bool true) _ rfl rfl (row_heap _ _ _ _ R3.out)) rfl ⟨by rw [E.out], row_low B3.out (by omega) _⟩
  · have t0 : (((num X 0 : Nat) : Int) != 1280199249) = true := by rw [bne_iff_ne]; intro q; exact h (by show num X 0 = 1280199249; omega)
    have E := Lib.hid (esc_no h)
    generalize num X 0 = n0 at C0 t0
    clear h
    go_enter Try.func32, Try.ntmps32
    go_upto_region 1 with fail
    generalize (w.alloc (.cells (arr X) 28)).alloc (.cells (arr .zero) 28) = w1 at V R B ⊢
    clear hz
    go_wp2_with (first
      | (refine load_blk rfl (.tmp 1) rfl w.heap.size 0 rfl X V.out.at ?_)
      | (go_at_call 48; with_reducible refine (C0.out _).mono ?_; rintro e w2 ⟨rfl, hb⟩; have V2 := Lib.hid (V.out.below hb); have R2 := Lib.hid (R.out.below hb); have B2 := Lib.hid (low_go B.out hb); clear hb)
      | (refine load_blk rfl (.tmp 1) rfl w.heap.size 0 rfl X V2.out.at ?_)
      | (refine store_row rfl (.tmp 2) (.tmp 7) rfl (w.heap.size + 1) X .zero 28 rfl rfl R2.out ?_))
    exact bodyPost_ret (res_blk2 Try.results32 _ _ (w.heap.size + 1) X (.bool false) _ rfl rfl (row_heap _ _ _ _ R2.out)) rfl ⟨by rw [E.out], row_low B2.out (by omega) _⟩
set_option maxHeartbeats 2000000 in
theorem rKind (X : Blk) (w : World) : Calls Try.prog 26 #[.agg (arr X)] w fun e w' => e = .returned (.tuple #[.int .u8 (((kindOf X).1 : Nat) : Int), .int .u32 (((kindOf X).2 : Nat) : Int)]) ∧ Below w.heap.size w w' := by
  have V := Lib.hid (show BVar (w.alloc (.cells (arr X) 28)) w.heap.size X from heap_alloc_new w _)
  have B := Lib.hid (below_new w (.cells (arr X) 28))
  have CB := Lib.hid fun k W => rBegins X k W
  have C2 : Hid (∀ W, Calls Try.prog 48 #[.agg (arr X), .int .i64 8] W fun e w' => e = .returned (.int .u32 ((num X 2 : Nat) : Int)) ∧ Below W.heap.size W w') := Lib.hid fun W => rNum X 2 W (by omega)
  go_enter Try.func26, Try.ntmps26
  go_upto_region 1 with fail
  generalize w.alloc (.cells (arr X) 28) = w1 at V B ⊢
  go_wp2_with fail
  go_loopw [4] (fun kv wr => ∃ k : Nat, 1 ≤ k ∧ k ≤ 5 ∧ kv = .int .u32 (k : Int) ∧ Hid (BVar wr w.heap.size X) ∧ Hid (Below w.heap.size w wr) ∧ Hid (∀ j, 1 ≤ j → j < k → ¬ Begins X j)) (fun kv _ => 5 - (intOf kv).toNat)
  case atStart => exact ⟨1, by omega, by omega, rfl, V, B, Lib.hid fun j h1 h2 => by omega⟩
  case round =>
    obtain ⟨k, k1, k5, rfl, V2, B2, N⟩ := hrel
    clear V B
    by_cases hk : k ≤ 4
    · have g1 : decide ((k : Int) ≤ 4) = true := by simp; omega
      have g2 : (k : Int) ≤ 4 := by omega
      have CK := Lib.hid (CB.out k)
      by_cases hb : Begins X k
      · rw [decide_eq_true hb] at CK
        have E := Lib.hid (kind_of hb k1 hk)
        have w8 : IntKind.u8.wrap (k : Int) = (k : Int) := by rw [IntKind.wrap_u8]; omega
        generalize num X 2 = n2 at C2 E
        clear hb CB N
        go_wp2_with (first
          | (refine load_blk rfl (.tmp 1) rfl w.heap.size 0 rfl X V2.out.at ?_)
          | (go_at_call 47; with_reducible refine (CK.out _).mono ?_; rintro e w3 ⟨rfl, hb⟩; have V3 := Lib.hid (V2.out.below hb))
          | (refine load_blk rfl (.tmp 1) rfl w.heap.size 0 rfl X V3.out.at ?_)
          | (go_at_call 48; with_reducible refine (C2.out _).mono ?_; rintro e w4 ⟨rfl, hc⟩))
        go_ret2
        exact ⟨by rw [E.out]; rfl, low_go (low_go B2.out hb) hc⟩
      · rw [decide_eq_false hb] at CK
        have N2 : Hid (∀ j, 1 ≤ j → j < k + 1 → ¬ Begins X j) := Lib.hid fun j h1 h2 => by
          by_cases q : j = k
          · subst q; exact hb
          · exact N.out j h1 (by omega)
        have w32 : IntKind.u32.wrap ((k : Int) + 1) = (k : Int) + 1 := by rw [IntKind.wrap_u32]; omega
        clear hb
        go_wp2_with (first
          | (refine load_blk rfl (.tmp 1) rfl w.heap.size 0 rfl X V2.out.at ?_)
          | (go_at_call 47; with_reducible refine (CK.out _).mono ?_; rintro e w3 ⟨rfl, hb⟩; have V3 := Lib.hid (V2.out.below hb); have B3 := Lib.hid (low_go B2.out hb); clear hb))
        go_roundw
        case rel => exact ⟨k + 1, by omega, by omega, by congr 1, V3, B3, N2⟩
        case measure => simp [intOf]; omega
    · obtain rfl : k = 5 := by omega
      have E := Lib.hid (kind_not (X := X) (fun j h1 h4 => N.out j h1 (by omega)))
      go_wp2_with fail
      go_ret2
      exact ⟨by rw [E.out]; rfl, B2.out⟩
end Go.Proofs.Ytjiooadakklmlaa
