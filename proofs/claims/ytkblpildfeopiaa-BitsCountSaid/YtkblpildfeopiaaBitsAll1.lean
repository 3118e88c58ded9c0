import Derived.Test.YtkblpildfeopiaaBitsAll0
import Derived.Deep.RegionHeld3
namespace Go.Proofs.Ytkblpildfeopiaa
open Go.RowKit Go.Shelf Go.BigFrame
attribute [local go_sem] Oper.semAt_some

set_option maxRecDepth 100000 in
set_option maxHeartbeats 2000000 in
theorem bitsCount_in (hS : BitsSays) (hA : AllSays) (F : Fence) (m : Nat) (hW : F = Fence.wide) (hF : ∀ f, F.fn f) (hro : F.round = none) (hm : 6 ≤ m) (lift : Lift F) (X : Blk) (n : Int) (w : World) (h1 : I64 n) :
    CallsIn F m Try.prog 7 #[.agg (arr X), .int .i64 n] w fun e w' => e = .returned (.bool true) ∧ Below w.heap.size w w' := by
  have hm1 : 1 ≤ m := by omega
  have HS := Lib.hid hS
  have HA := Lib.hid hA
  have HL := Lib.hid lift
  have H1 := Lib.hid h1
  have HF := Lib.hid hF
  have HW := Lib.hid hW
  clear hW
  clear hS hA lift h1
  have hnil := all_nil
  have b0 : Hid ((((w.alloc (.cells (arr X) 23)).alloc (.cells #[.int .i64 n] 3)).alloc (.cells #[.bool false] 4)).heap[w.heap.size]? = some (.cells (arr X) 23 (0, 0))) := Lib.hid (by
    rw [heap_alloc_old _ _ (by simp; omega), heap_alloc_old _ _ (by simp), heap_alloc_new])
  have b1 : Hid ((((w.alloc (.cells (arr X) 23)).alloc (.cells #[.int .i64 n] 3)).alloc (.cells #[.bool false] 4)).heap[w.heap.size + 1]? = some (.cells #[.int .i64 n] 3 (0, 0))) := Lib.hid (by
    have e : (w.alloc (.cells (arr X) 23)).heap.size = w.heap.size + 1 := by simp
    rw [heap_alloc_old _ _ (by simp), ← e, heap_alloc_new])
  have b2 : Hid ((((w.alloc (.cells (arr X) 23)).alloc (.cells #[.int .i64 n] 3)).alloc (.cells #[.bool false] 4)).heap[w.heap.size + 1 + 1]? = some (.cells #[.bool false] 4 (0, 0))) := Lib.hid (by
    have e : ((w.alloc (.cells (arr X) 23)).alloc (.cells #[.int .i64 n] 3)).heap.size = w.heap.size + 1 + 1 := by simp
    rw [← e, heap_alloc_new])
  have B0 : Hid (Below w.heap.size w (((w.alloc (.cells (arr X) 23)).alloc (.cells #[.int .i64 n] 3)).alloc (.cells #[.bool false] 4))) := Lib.hid ((((Below.refl _ w).alloc (Nat.le_refl _) _).alloc (by simp) _).alloc (by simp; omega) _)
  have S0 : Hid ((((w.alloc (.cells (arr X) 23)).alloc (.cells #[.int .i64 n] 3)).alloc (.cells #[.bool false] 4)).heap.size = w.heap.size + 3) := Lib.hid (by simp)
  refine callsIn_of_wp_marks Try.func7 rfl (hF _) ?_ hro
  simp only [Try.ntmps7, List.size_toArray, List.length_cons, List.length_nil, Nat.reduceAdd, Nat.reduceSub, Array.replicate_succ, Array.replicate_zero, List.push_toArray, List.append_toArray, List.nil_append, List.cons_append]
  have V0 : Hid (Var (((w.alloc (.cells (arr X) 23)).alloc (.cells #[.int .i64 n] 3)).alloc (.cells #[.bool false] 4)) w.heap.size X) := b0
  gi_wp2_with (first
    | (gi_at_call 22; refine (HL.out _ _ _ _ _ (bAwake_any HS.out _)).mono ?_; rintro e w2 ⟨rfl, hb⟩; have V2 := Lib.hid (V0.out.below hb))
    | (refine load_blk_in rfl (.tmp 2) rfl w.heap.size 0 rfl X V2.out.at ?_))
  generalize ((w.alloc (.cells (arr X) 23)).alloc (.cells #[.int .i64 n] 3)).alloc (.cells #[.bool false] 4) = w1 at b0 b1 b2 B0 S0 V0 hb
  have B2 := Lib.hid (B0.out.trans (hb.mono B0.out.size))
  have r1 := Lib.hid ((hb.block (w.heap.size + 1) (by rw [S0.out]; omega)).trans b1.out)
  have r2 := Lib.hid ((hb.block (w.heap.size + 1 + 1) (by rw [S0.out]; omega)).trans b2.out)
  have S2 : Hid (w.heap.size + 3 ≤ w2.heap.size) := Lib.hid (by rw [← S0.out]; exact hb.size)
  clear b0 b1 b2 B0 S0 V0 hb
  refine (HL.out _ _ _ _ _ (HA.out.all X w2)).mono ?_
  rintro e w3 ⟨lb, rfl, hb, hst⟩
  have ST := Lib.hid hst
  have B3 := Lib.hid (B2.out.trans (hb.mono B2.out.size))
  have r13 := Lib.hid ((hb.block (w.heap.size + 1) (by have := S2.out; omega)).trans r1.out)
  have r23 := Lib.hid ((hb.block (w.heap.size + 1 + 1) (by have := S2.out; omega)).trans r2.out)
  have V3 := Lib.hid (V2.out.below hb)
  have S3 : Hid (w.heap.size + 3 ≤ w3.heap.size) := Lib.hid (Nat.le_trans S2.out hb.size)
  clear hst hb B2 r1 r2 V2 S2
  gi_wp2
  have hb0 : Below w3.heap.size w3 (w3.alloc (.cells #[.int .i64 0] 3)) := (Below.refl _ _).alloc (Nat.le_refl _) _
  have K0 : Hid (Cell1 (w3.alloc (.cells #[.int .i64 0] 3)) w3.heap.size (.int .i64 0)) := Lib.hid (cell1_new w3 _ _)
  have B4 := Lib.hid (B3.out.trans (hb0.mono B3.out.size))
  have Q1 := Lib.hid ((hb0.block (w.heap.size + 1) (by have := S3.out; omega)).trans r13.out)
  have Q2 := Lib.hid ((hb0.block (w.heap.size + 1 + 1) (by have := S3.out; omega)).trans r23.out)
  have V4 := Lib.hid (V3.out.below hb0)
  have hst := ST.out F (m - 1) (w3.alloc (.cells #[.int .i64 0] 3)) HF.out hro (by omega) HL.out hb0
  have Z4 : Hid (w3.heap.size ≤ (w3.alloc (.cells #[.int .i64 0] 3)).heap.size) := Lib.hid hb0.size
  clear ST B3 r13 r23 V3 hb0
  generalize w3.alloc (.cells #[.int .i64 0] 3) = W0 at K0 B4 Q1 Q2 V4 hst Z4 ⊢
  generalize w3.heap.size = g at K0 hst Z4 S3 ⊢
  have NV : Hid (w.heap.size < g) := Lib.hid (by have := S3.out; omega)
  have NQ : Hid (w.heap.size + 1 < g) := Lib.hid (by have := S3.out; omega)
  have NR : Hid (w.heap.size + 1 + 1 < g) := Lib.hid (by have := S3.out; omega)
  refine wpIn_rangeFunc_ownG hro hm1 (gf := 26) (lb := lb) rfl (hF _) (enters_of Try.func26 (by kernel_rfl) rfl)
    hst belowK_t (belowK_b Z4.out) (Below.refl _ _) (fun _ => rfl)
    (fun pre W => Cell1 W g (.int .i64 ((pre.countP (fun t : Nat => decide (((nib t : Nat) : Int) < n)) : Nat) : Int)) ∧ Below g W0 W)
    (fun c pre _ => c = .ret ∧ ∃ ini x, pre = ini ++ [x] ∧ hasI X ((nib x : Nat) : Int) = false)
    (OwnFrom.and (_root_.Go.Own.from (cell1_own g _) _) (ownFrom_below Z4.out Z4.out))
    (fun _ _ _ _ _ hs _ _ => hs)
    ⟨K0.out, Below.refl _ _⟩
    (fun x => { tmps := #[Value.agg (arr X), Value.int .i64 n, Value.pointer (some ⟨w.heap.size, 0, none⟩), Value.pointer (some ⟨w.heap.size + 1, 0, none⟩), Value.pointer (some ⟨w.heap.size + 1 + 1, 0, none⟩), Value.func (.func 26) #[] lb, Value.pointer (some ⟨g, 0, none⟩), Value.int .i64 ((nib x : Nat) : Int), Value.bool true, Value.bool false, Value.agg (arr X), Value.func (.func 26) #[] lb, Value.func (.func 26) #[] lb, Value.bool false, Value.func (.func 26) #[] lb, Value.int .i64 ((nib x : Nat) : Int), undef, undef, undef, undef, undef, undef, undef, undef, undef, undef, undef, undef, undef, undef], defers := [] }) ?assign ?body ?done ?stop
  case assign =>
    intro l x W K hK
    gi_wp2
    exact hK
  case body =>
    rintro l pre x W ⟨hc, hB⟩ hlen
    have hcnt : pre.countP (fun t : Nat => decide (((nib t : Nat) : Int) < n)) ≤ 2048 := Nat.le_trans List.countP_le_length (Nat.le_of_lt (Nat.lt_of_lt_of_le hlen (ones_le X)))
    have HC := Lib.hid hc
    have HB := Lib.hid hB
    have VW := Lib.hid (V4.out.below' hB NV.out)
    have q1 := cell_of_one' ((hB.block (w.heap.size + 1) NQ.out).trans Q1.out)
    have rB := Lib.hid ((hB.block (w.heap.size + 1 + 1) NR.out).trans Q2.out)
    have q2 := cell_of_one' rB.out
    have f2 := World.frozen?_row rB.out
    have hsn : (pre ++ [x]).countP (fun t : Nat => decide (((nib t : Nat) : Int) < n)) = pre.countP (fun t : Nat => decide (((nib t : Nat) : Int) < n)) + if ((nib x : Nat) : Int) < n then 1 else 0 := by
      rw [List.countP_append]
      by_cases h : ((nib x : Nat) : Int) < n <;> simp [h]
    have HSN := Lib.hid hsn
    have hx := nib_lt x
    have hm2 : 1 ≤ m - 1 - 1 := by omega
    have x64 : Hid (I64 ((nib x : Nat) : Int)) := Lib.hid (i64_nat (by omega))
    clear hsn hlen
    obtain ⟨y, hy⟩ : ∃ y, nib x = y := ⟨_, rfl⟩
    rw [hy] at hx x64 HSN ⊢
    have HY := Lib.hid hy
    clear hy
    obtain ⟨cn, hcn⟩ : ∃ cn, pre.countP (fun t : Nat => decide (((nib t : Nat) : Int) < n)) = cn := ⟨_, rfl⟩
    rw [hcn] at HC HSN hcnt hc
    clear hcn
    cases hh : hasI X (y : Nat)
    · have CH : Hid (∀ W, Calls Try.prog 11 #[.agg (arr X), .int .i64 (y : Nat)] W fun e w' => e = .returned (.bool false) ∧ Below W.heap.size W w') := Lib.hid fun W => (HS.out.has X (y : Nat) W x64.out).mono fun e w' q => ⟨by rw [q.1, hh], q.2⟩
      have HH := Lib.hid hh
      clear hh
      gi_wp2_with (first | (refine load_blk_in rfl (.tmp 2) rfl w.heap.size 0 rfl X VW.out.at ?_) | (gi_at_call 11; refine (CallsIn.inRound l (HL.out _ _ _ _ _ (CH.out W))).mono ?_; rintro e w' ⟨rfl, hb⟩; have q2' := cell_of_one' ((hb.block (w.heap.size + 1 + 1) (Nat.lt_of_lt_of_le NR.out (Nat.le_trans Z4.out HB.out.size))).trans rB.out); have f2' := World.frozen?_row ((hb.block (w.heap.size + 1 + 1) (Nat.lt_of_lt_of_le NR.out (Nat.le_trans Z4.out HB.out.size))).trans rB.out)))
      exact ⟨(keepsFrom_below hb).trans ((KeepsOthers.setCell _ _ _).from _), rfl, pre, x, rfl, by rw [HY.out]; exact HH.out⟩
    · have CH : Hid (∀ W, Calls Try.prog 11 #[.agg (arr X), .int .i64 (y : Nat)] W fun e w' => e = .returned (.bool true) ∧ Below W.heap.size W w') := Lib.hid fun W => (HS.out.has X (y : Nat) W x64.out).mono fun e w' q => ⟨by rw [q.1, hh], q.2⟩
      clear hh
      by_cases hlt : (y : Int) < n
      · have t1 : decide ((y : Int) < n) = true := decide_eq_true hlt
        have HE : Hid ((pre ++ [x]).countP (fun t : Nat => decide (((nib t : Nat) : Int) < n)) = cn + 1) := Lib.hid (by rw [HSN.out, if_pos hlt])
        clear hlt HSN
        gi_wp2_with (first | (refine load_blk_in rfl (.tmp 2) rfl w.heap.size 0 rfl X VW.out.at ?_) | (gi_at_call 11; refine (CallsIn.inRound l (HL.out _ _ _ _ _ (CH.out W))).mono ?_; rintro e w' ⟨rfl, hb⟩; have q1' := cell_of_one' ((hb.block (w.heap.size + 1) (Nat.lt_of_lt_of_le NQ.out (Nat.le_trans Z4.out HB.out.size))).trans ((HB.out.block (w.heap.size + 1) NQ.out).trans Q1.out)); have hcw := HC.out.below hb; have c3 := hcw.1; have f3 := hcw.2))
        have hbg := hb.mono (Nat.le_trans Z4.out HB.out.size)
        exact ⟨(keepsFrom_below hb).trans ((KeepsOthers.setCell _ _ _).from _), hbg.setCell (p := ⟨g, 0, none⟩) (Nat.le_refl _) _, ⟨by rw [HE.out]; exact hcw.set _, (HB.out.trans hbg).setCell (p := ⟨g, 0, none⟩) (Nat.le_refl _) _⟩⟩
      · have t1 : decide ((y : Int) < n) = false := decide_eq_false hlt
        have HE : Hid ((pre ++ [x]).countP (fun t : Nat => decide (((nib t : Nat) : Int) < n)) = cn) := Lib.hid (by rw [HSN.out, if_neg hlt]; rfl)
        clear hlt HSN
        gi_wp2_with (first | (refine load_blk_in rfl (.tmp 2) rfl w.heap.size 0 rfl X VW.out.at ?_) | (gi_at_call 11; refine (CallsIn.inRound l (HL.out _ _ _ _ _ (CH.out W))).mono ?_; rintro e w' ⟨rfl, hb⟩; have q1' := cell_of_one' ((hb.block (w.heap.size + 1) (Nat.lt_of_lt_of_le NQ.out (Nat.le_trans Z4.out HB.out.size))).trans ((HB.out.block (w.heap.size + 1) NQ.out).trans Q1.out)); have hcw := HC.out.below hb))
        have hbg := hb.mono (Nat.le_trans Z4.out HB.out.size)
        exact ⟨keepsFrom_below hb, hbg, ⟨by rw [HE.out]; exact hcw, HB.out.trans hbg⟩⟩
  case done =>
    rintro D ys W hD rfl ⟨hc, hB⟩ hK
    have hcc : (allOnes X).countP (fun t : Nat => decide (((nib t : Nat) : Int) < n)) = countI X n := by
      rw [← ones_countI]
      refine List.countP_congr fun t ht => ?_
      rw [nib_of ((all_mem X t).1 ht).1]
    rw [hcc] at hc
    have hle : countI X n ≤ 2048 := Nat.le_trans (countN_le X _) (lim_le n)
    have HB := Lib.hid hB
    have HC := Lib.hid hc
    have HK := Lib.hid hK
    have VW := Lib.hid (V4.out.below' hB NV.out)
    have q1 := cell_of_one' ((hB.block (w.heap.size + 1) NQ.out).trans Q1.out)
    have rB := Lib.hid ((hB.block (w.heap.size + 1 + 1) NR.out).trans Q2.out)
    have q2 := cell_of_one' rB.out
    have f2 := World.frozen?_row rB.out
    have q3 := hc.1
    have te : (((countI X n : Nat) : Int) == ((countI X n : Nat) : Int)) = true := by simp
    clear hc hB hK hcc
    gi_wp2
    have LG := Lib.hid HC.out.lt
    have LR : Hid (w.heap.size + 1 + 1 < W.heap.size) := Lib.hid (by have := LG.out; have := NR.out; omega)
    have hW := HW.out
    subst hW
    refine wpIn_wide.2 ?_
    refine wp_region_class_tail (More W) 5 (by kernel_rfl) (by kernel_rfl) (More.drew _) ?_
    simp only [List.take_succ_cons, List.take_zero, List.drop_succ_cons, List.drop_zero]
    repeat (first | go_big_quiet_skip | (go_big_quiet_want; first | (refine quiet_load _ rfl _ _ rfl _ (by intro w' hw'; exact (VW.out.below hw').at) ?_; simp only [Act.put, List.setIfInBounds_toArray, List.set_cons_zero, List.set_cons_succ]; go_big_quiet_on) | (refine quiet_int _ rfl _ rfl _ (by intro w' hw'; first | exact cell_below q1 hw' | exact cell_below q3 hw') ?_; simp only [Act.put, List.setIfInBounds_toArray, List.set_cons_zero, List.set_cons_succ]; go_big_quiet_on) | (go_big_quiet_op; first | go_big_quiet_on | (apply Exists.intro; refine ⟨fun _ _ => ?_, ?_⟩; (with_reducible exact rfl); go_big_quiet_on) | go_big_quiet_call ((intro hC; first | (with_reducible refine (HS.out.count X n _ H1.out).mono ?_); exact fun e w' h => ⟨h.1, hC.on h.2⟩)))))
    refine wpQuiet_nil ?_
    intro w' hw'
    have q2' := cell_below q2 hw'
    have f2' := frozen_below f2 q2 hw'
    have hKw : w'.heap[D]? = some (.deferred (some [])) := (hw'.block D (by
      rcases Nat.lt_or_ge D W.heap.size with r | r
      · exact r
      · have := HK.out; rw [Array.getElem?_eq_none r] at this; cases this)).trans HK.out
    have HK2 := Lib.hid ((KeepsOthers.setCell w' ⟨w.heap.size + 1 + 1, 0, none⟩ (.bool true)).same D _ hKw rfl)
    have HWB := Lib.hid hw'
    clear hw' hKw HK
    go_wp2
    gi_wp2
    refine ⟨by simp, .inl ⟨_, _, rfl, run_takeDeferred HK2.out, ?_⟩⟩
    have hc5 := cell_kept (World.cell?_setCell_same' w' ⟨w.heap.size + 1 + 1, 0, none⟩ (.bool true) (by rw [q2']; rfl)) (grownBy_putObj' _ D (.deferred none)) (fun r e => by cases e; exact ⟨_, HK2.out, rfl⟩)
    have BT : Below w.heap.size w w' := B4.out.trans ((HB.out.mono (by have := S3.out; omega)).trans (Below.mono HWB.out (by have := B4.out.size; have := HB.out.size; omega)))
    refine ⟨.bool true, ?_, rfl, (BT.setCell (p := ⟨w.heap.size + 1 + 1, 0, none⟩) (by show w.heap.size ≤ w.heap.size + 1 + 1; omega) _).trans (belowK_b (w := w) (Nat.le_refl _) _ D _ _ (by have := B4.out.size; omega) HK2.out rfl rfl)⟩
    simp [results, Try.f7, go_sem, hc5]
  case stop =>
    rintro D c' pre W hD ⟨k, hk, rfl⟩ ⟨_, ini, x, he, hx⟩ hK
    exfalso
    have hm : x ∈ (allOnes X).take k := by rw [he]; simp
    have hm2 := (all_mem X x).1 (List.mem_of_mem_take hm)
    rw [nib_of hm2.1, hasI_nat hm2.1, hm2.2] at hx
    cases hx

set_option maxHeartbeats 400000 in
theorem bitsCount_any (hS : BitsSays) (hA : AllSays) (X : Blk) (n : Int) (w : World) (h1 : I64 n) :
    Calls Try.prog 7 #[.agg (arr X), .int .i64 n] w fun e w' => e = .returned (.bool true) ∧ Below w.heap.size w w' :=
  callsIn_wide.1 (bitsCount_in hS hA Fence.wide 6 rfl (fun _ => trivial) rfl (Nat.le_refl _) (fun _ _ _ _ _ h => callsIn_wide.2 h) X n w h1)
end Go.Proofs.Ytkblpildfeopiaa
