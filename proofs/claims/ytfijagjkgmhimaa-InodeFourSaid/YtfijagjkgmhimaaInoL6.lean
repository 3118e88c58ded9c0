import Derived.Test.YtfijagjkgmhimaaInoF
namespace Go.Proofs.Ytfijagjkgmhimaa
open Go.RowKit

set_option maxRecDepth 100000 in
set_option maxHeartbeats 8000000 in
theorem inodeFour_any (hS : ISays) (x y z v : InoV) (from_ : Int) (w : World) (_f0 : -9223372036854775808 ≤ from_) (_f1 : from_ ≤ 9223372036854775807) (hx : x.Fits) (hy : y.Fits) (hz' : z.Fits) (hv' : v.Fits) :
    Calls Try.prog 8 #[.agg (ics x), .agg (ics y), .agg (ics z), .agg (ics v), .int .i64 from_] w fun e w' => e = .returned (.bool true) ∧ Below w.heap.size w w' := by
  have hz := fun W => zero_blk W
  have hzi := fun W => zero_ino W
  have HS := Lib.hid hS
  have FIT : Hid (∀ k, (fourV x y z v k).Fits) := Lib.hid fun k => by
    match k with
    | 0 => exact hx
    | 1 => exact hy
    | 2 => exact hz'
    | k + 3 => exact hv'
  have FX := Lib.hid hx
  have CA := Lib.hid fun W => iAwake_any hS W
  clear hS hx hy hz' hv'
  obtain ⟨w1, e1⟩ : ∃ w1, (((w.alloc (.cells (ics x) 27)).alloc (.cells (ics y) 27)).alloc (.cells (ics z) 27)).alloc (.cells (ics v) 27) = w1 := ⟨_, rfl⟩
  have q0 : IVar (w.alloc (.cells (ics x) 27)) w.heap.size x := heap_alloc_new w _
  have q1 : IVar ((w.alloc (.cells (ics x) 27)).alloc (.cells (ics y) 27)) (w.heap.size + 1) y := heap_alloc2_new w _ _
  have q2 : IVar (((w.alloc (.cells (ics x) 27)).alloc (.cells (ics y) 27)).alloc (.cells (ics z) 27)) (w.heap.size + 1 + 1) z := by
    have := heap_alloc2_new (w.alloc (.cells (ics x) 27)) (.cells (ics y) 27) (.cells (ics z) 27)
    rwa [World.size_alloc] at this
  have q3 : IVar w1 (w.heap.size + 1 + 1 + 1) v := by
    rw [← e1]
    have := heap_alloc2_new ((w.alloc (.cells (ics x) 27)).alloc (.cells (ics y) 27)) (.cells (ics z) 27) (.cells (ics v) 27)
    rwa [World.size_alloc, World.size_alloc] at this
  have X1 : Hid (IVar w1 w.heap.size x) := Lib.hid (by rw [← e1]; exact ((q0.below (below_new _ _)).below (below_new _ _)).below (below_new _ _))
  have Y1 : Hid (IVar w1 (w.heap.size + 1) y) := Lib.hid (by rw [← e1]; exact (q1.below (below_new _ _)).below (below_new _ _))
  have Z1 : Hid (IVar w1 (w.heap.size + 1 + 1) z) := Lib.hid (by rw [← e1]; exact q2.below (below_new _ _))
  have V1 := Lib.hid q3
  have B1 : Hid (Below w.heap.size w w1) := Lib.hid (by rw [← e1]; exact low_go (low_go (low_go (below_new w _) (below_new _ _)) (below_new _ _)) (below_new _ _))
  clear q0 q1 q2 q3
  go_enter Try.func8, Try.ntmps8
  go_upto_region 1 with fail
  clear e1
  go_upto_region 3 with (go_at_call 16; with_reducible refine (CA.out _).mono ?_; rintro e' w2 ⟨rfl, hb⟩)
  have X2 := Lib.hid (X1.out.below hb)
  have Y2 := Lib.hid (Y1.out.below hb)
  have Z2 := Lib.hid (Z1.out.below hb)
  have V2 := Lib.hid (V1.out.below hb)
  have B2 := Lib.hid (low_go B1.out hb)
  clear hb X1 Y1 Z1 V1 CA B1
  go_upto_region 4 with (first
    | (refine load_ino rfl (.tmp 5) rfl w.heap.size 0 rfl x X2.out.at ?_)
    | (refine load_ino rfl (.tmp 6) rfl (w.heap.size + 1) 0 rfl y Y2.out.at ?_)
    | (refine load_ino rfl (.tmp 7) rfl (w.heap.size + 1 + 1) 0 rfl z Z2.out.at ?_)
    | (refine load_ino rfl (.tmp 8) rfl (w.heap.size + 1 + 1 + 1) 0 rfl v V2.out.at ?_)
    | (refine build_four rfl (.tmp 21) (.tmp 22) (.tmp 23) (.tmp 24) rfl x y z v rfl rfl rfl rfl ?_))
  have bn := below_new w2 (.cells (lcs x y z v) 27)
  have X3 := Lib.hid (X2.out.below bn)
  have L3 := Lib.hid (show LVar (w2.alloc (.cells (lcs x y z v) 27)) w2.heap.size x y z v from LVar.row (heap_alloc_new w2 _))
  have N3 := Lib.hid X2.out.lt
  have B3 := Lib.hid (low_go B2.out bn)
  clear bn X2 Y2 Z2 V2 B2
  generalize w2.alloc (.cells (lcs x y z v) 27) = w3 at X3 L3 B3 ⊢
  generalize w2.heap.size = gl at L3 N3 ⊢
  obtain ⟨m, e0, m0, m1⟩ := tmod_low from_
  obtain ⟨fr, e2, f3⟩ : ∃ fr : Nat, (m + 4).tmod 4 = (fr : Int) ∧ fr < 4 := ⟨((m + 4) % 4).toNat, by rw [Int.tmod_eq_emod_of_nonneg (by omega)]; omega, by omega⟩
  have e1 : IntKind.i64.wrap (m + 4) = m + 4 := by rw [IntKind.wrap_i64]; omega
  go_upto_region 6 with fail
  clear e0 e1 e2 m0 m1
  have bn := below_new w3 (.cells (arr .zero) 23)
  have P : Hid (FK x y z v w gl w3.heap.size .zero (w3.alloc (.cells (arr .zero) 23))) := Lib.hid ⟨X3.out.below bn, L3.out.keep (bn.block _ L3.out.lt), heap_alloc_new w3 _, ⟨N3.out, L3.out.lt⟩, low_go B3.out bn⟩
  clear bn X3 L3 N3 B3
  generalize w3.alloc (.cells (arr .zero) 23) = w4 at P ⊢
  generalize w3.heap.size = gb at P ⊢
  go_wp2_with fail
  go_loopw [13] (fun iv wr => ∃ i : Nat, i ≤ 4 ∧ iv = .int .i64 i ∧ ∃ B, FK x y z v w gl gb B wr ∧ Tells (fourV x y z v) fr i B) (fun iv _ => 4 - (intOf iv).toNat)
  case atStart => exact ⟨0, Nat.zero_le _, rfl, .zero, P.out, tells_0 _ _⟩
  case round =>
    obtain ⟨i, hi, rfl, B, hfk, ht⟩ := hrel
    have P4 := Lib.hid hfk
    have T4 := Lib.hid ht
    clear hfk ht P
    by_cases hlt : i < 4
    · have T5 := Lib.hid (tells_succ T4.out FIT.out)
      have hq : (fr + i) % 4 < 4 := Nat.mod_lt _ (by omega)
      have e3 : IntKind.i64.wrap ((fr : Int) + (i : Int)) = (fr : Int) + (i : Int) := by rw [IntKind.wrap_i64]; omega
      have e4 : ((fr : Int) + (i : Int)).tmod 4 = (((fr + i) % 4 : Nat) : Int) := by rw [Int.tmod_eq_emod_of_nonneg (by omega)]; omega
      generalize (fr + i) % 4 = kk at T5 hq e4
      go_upto_region 10 with fail
      clear e3 e4
      obtain ⟨u, eu⟩ : ∃ u, fourV x y z v kk = u := ⟨_, rfl⟩
      have FU : Hid u.Fits := Lib.hid (by rw [← eu]; exact FIT.out kk)
      have PM := Lib.hid (put_ok_may (B := B) hq FU.out)
      rw [eu] at T5
      obtain ⟨⟨D, e⟩, x1⟩ : ∃ p, putI B ((64 * kk : Nat) : Int) u = p := ⟨_, rfl⟩
      rw [x1] at T5 PM
      have CP : Hid (∀ W, BVar W gb B → Calls Try.prog 10 #[.pointer (some ⟨gb, 0, none⟩), .int .i64 (64 * (kk : Int)), .agg (ics u)] W fun e' w' => e' = .returned (.int .i64 e) ∧ BVar w' gb D ∧ Only gb W w') := Lib.hid fun W h => by
        have := HS.out.put gb B ((64 * kk : Nat) : Int) u W h (by omega) (by omega) FU.out
        rwa [x1, show ((64 * kk : Nat) : Int) = 64 * (kk : Int) by omega] at this
      have CM := Lib.hid fun W => HS.out.may u W FU.out
      have LU : Hid (∀ W C, FK x y z v w gl gb C W → IAt W gl (kk * 16) u) := Lib.hid fun W C h => by rw [← eu]; exact h.il kk hq
      have g0 : (0 : Int) ≤ (kk : Int) := by omega
      have g4 : (kk : Int) < 4 := by omega
      have w64 : IntKind.i64.wrap (64 * (kk : Int)) = 64 * (kk : Int) := by rw [IntKind.wrap_i64]; omega
      clear x1 eu
      refine wp_region_inv (n := 13) foD (foV gl kk u e (mayB u)) (One 6 (fun C => FK x y z v w gl gb C) B D) (by kernel_rfl) (by kernel_rfl) (by kernel_rfl) (by kernel_rfl) (by kernel_rfl) ⟨P4.out.drewN 1⟩ ?_ ?_
      · intro j o a w5 seen hj ho hsz hk hs hun hdep
        have p11 : a.eval (.tmp 11) = .slice (some ⟨gl, 0, none⟩) 4 4 := (hk.eval (by decide)).trans rfl
        have p12 : a.eval (.tmp 12) = .pointer (some ⟨gb, 0, none⟩) := (hk.eval (by decide)).trans rfl
        have p14 : a.eval (.tmp 14) = .int .i64 (kk : Int) := (hk.eval (by decide)).trans rfl
        have hsz : seen.size = 14 := hsz
        match j, ho with
        | 0, ho =>
          cases ho
          exact op_move (.tmp 14) rfl p14 ⟨_, rfl, rfl, hs.other (by decide) fun _ h => h⟩
        | 1, ho =>
          cases ho
          have h0 : a.eval (.tmp 38) = .int .i64 (kk : Int) := (hdep ⟨0, .data⟩ (by simp) rfl).2
          have h1 : a.eval (.const (.int .i64 64)) = .int .i64 64 := rfl
          refine wp_value (v := .int .i64 (64 * (kk : Int))) (w' := w5) ?_ ⟨_, rfl, rfl, hs.other (by decide) fun _ h => h⟩
          clear hdep hk hs hun
          generalize a.eval = ev at h0 h1 ⊢
          go_simp
          try exact w64
        | 2, ho =>
          cases ho
          exact op_move (.tmp 11) rfl p11 ⟨_, rfl, rfl, hs.other (by decide) fun _ h => h⟩
        | 3, ho =>
          cases ho
          exact op_move (.tmp 14) rfl p14 ⟨_, rfl, rfl, hs.other (by decide) fun _ h => h⟩
        | 4, ho =>
          cases ho
          have h0 : a.eval (.tmp 40) = .slice (some ⟨gl, 0, none⟩) 4 4 := (hdep ⟨2, .data⟩ (by simp) rfl).2
          have h1 : a.eval (.tmp 41) = .int .i64 (kk : Int) := (hdep ⟨3, .data⟩ (by simp) rfl).2
          refine wp_value (v := .pointer (some ⟨gl, kk * 16, none⟩)) (w' := w5) ?_ ⟨_, rfl, rfl, hs.other (by decide) fun _ h => h⟩
          clear hdep hk hs hun
          generalize a.eval = ev at h0 h1 ⊢
          go_simp
        | 5, ho =>
          cases ho
          have h0 : a.eval (.tmp 42) = .pointer (some ⟨gl, kk * 16, none⟩) := (hdep ⟨4, .data⟩ (by simp) rfl).2
          exact op_ino (.tmp 42) rfl gl (kk * 16) h0 u (LU.out _ _ hs.is) ⟨_, rfl, rfl, hs.other (by decide) fun _ h => h⟩
        | 6, ho =>
          cases ho
          have h0 : a.eval (.tmp 39) = .int .i64 (64 * (kk : Int)) := (hdep ⟨1, .data⟩ (by simp) rfl).2
          have h1 : a.eval (.tmp 43) = .agg (ics u) := (hdep ⟨5, .data⟩ (by simp) rfl).2
          have hu := hs.fst hun
          exact op_call3 rfl p12 h0 h1 put_enters (CP.out w5 hu.ib) (fun w' hw => ⟨_, rfl, rfl, One.fst' (by omega) (hu.put hw.2 hw.1)⟩)
        | 7, ho =>
          cases ho
          have h0 : a.eval (.tmp 44) = .int .i64 e := (hdep ⟨6, .data⟩ (by simp) rfl).2
          have h1 : a.eval (.const (.int .i64 0)) = .int .i64 0 := rfl
          refine wp_value (v := .bool (e == 0)) (w' := w5) ?_ ⟨_, rfl, rfl, hs.other (by decide) fun _ h => h⟩
          clear hdep hk hs hun
          generalize a.eval = ev at h0 h1 ⊢
          go_simp
        | 8, ho =>
          cases ho
          exact op_move (.tmp 11) rfl p11 ⟨_, rfl, rfl, hs.other (by decide) fun _ h => h⟩
        | 9, ho =>
          cases ho
          exact op_move (.tmp 14) rfl p14 ⟨_, rfl, rfl, hs.other (by decide) fun _ h => h⟩
        | 10, ho =>
          cases ho
          have h0 : a.eval (.tmp 46) = .slice (some ⟨gl, 0, none⟩) 4 4 := (hdep ⟨8, .data⟩ (by simp) rfl).2
          have h1 : a.eval (.tmp 47) = .int .i64 (kk : Int) := (hdep ⟨9, .data⟩ (by simp) rfl).2
          refine wp_value (v := .pointer (some ⟨gl, kk * 16, none⟩)) (w' := w5) ?_ ⟨_, rfl, rfl, hs.other (by decide) fun _ h => h⟩
          clear hdep hk hs hun
          generalize a.eval = ev at h0 h1 ⊢
          go_simp
        | 11, ho =>
          cases ho
          have h0 : a.eval (.tmp 48) = .pointer (some ⟨gl, kk * 16, none⟩) := (hdep ⟨10, .data⟩ (by simp) rfl).2
          exact op_ino (.tmp 48) rfl gl (kk * 16) h0 u (LU.out _ _ hs.is) ⟨_, rfl, rfl, hs.other (by decide) fun _ h => h⟩
        | 12, ho =>
          cases ho
          have h0 : a.eval (.tmp 49) = .agg (ics u) := (hdep ⟨11, .data⟩ (by simp) rfl).2
          exact op_call1 rfl h0 may_enters (CM.out w5) (fun w' hw => ⟨_, rfl, rfl, hs.other (by decide) fun _ h => h.below hw⟩)
      · intro a w5 hk hs hv
        obtain ⟨xx, hx, ea⟩ := hk.lit2 86 rfl
        have h7 : a.eval (.tmp 45) = .bool (e == 0) := hv 7 (by decide)
        have h12 : a.eval (.tmp 50) = .bool (mayB u) := hv 12 (by decide)
        rw [hx] at h7 h12
        rw [PM.out] at h7
        replace ea : a = { tmps := #[.agg (ics x), .agg (ics y), .agg (ics z), .agg (ics v), .int .i64 (fr : Int), .pointer (some ⟨w.heap.size, 0, none⟩), .pointer (some ⟨w.heap.size + 1, 0, none⟩), .pointer (some ⟨w.heap.size + 1 + 1, 0, none⟩), .pointer (some ⟨w.heap.size + 1 + 1 + 1, 0, none⟩), undef, u10, .slice (some ⟨gl, 0, none⟩) 4 4, .pointer (some ⟨gb, 0, none⟩), .int .i64 (i : Int), .int .i64 (kk : Int), undef, undef, undef, undef, .bool true, .bool false, .agg (ics x), .agg (ics y), .agg (ics z), .agg (ics v), .slice (some ⟨gl, 0, none⟩) 4 4, .int .i64 from_, .int .i64 m, .int .i64 (m + 4), .int .i64 (fr : Int), .int .i64 (i : Int), .bool (decide ((i : Int) < 4)), u32, u33, .int .i64 (fr : Int), .int .i64 (i : Int), .int .i64 ((fr : Int) + (i : Int)), .int .i64 (kk : Int), xx 38, xx 39, xx 40, xx 41, xx 42, xx 43, xx 44, xx 45, xx 46, xx 47, xx 48, xx 49, xx 50, u51, undef, undef, undef, undef, undef, undef, undef, undef, undef, undef, undef, undef, undef, undef, undef, undef, undef, undef, undef, undef, undef, undef, undef, undef, undef, undef, undef, undef, undef, undef, undef, undef, undef, undef], defers := [] } := ea
        rw [h7, h12] at ea
        subst ea
        have P5 : Hid (FK x y z v w gl gb D w5) := Lib.hid hs.is
        clear hk hs hv hx h7 h12 P4 CP CM LU w64
        simp only [List.drop_succ_cons, List.drop_zero]
        obtain ⟨mb, hmb⟩ : ∃ mb, mayB u = mb := ⟨_, rfl⟩
        rw [hmb]
        have hne : (mb != mb) = false := by simp
        go_wp2
        go_roundw
        case rel => exact ⟨i + 1, by omega, by congr 1, D, P5.out, T5.out⟩
        case measure => simp [intOf]; omega
    · have T4 : Hid (Tells (fourV x y z v) fr 4 B) := Lib.hid (by have := T4.out; rwa [show i = 4 by omega] at this)
      have t4 : decide ((i : Int) < 4) = false := by simp; omega
      clear hlt hi
      have PU1 : putI B 256 x = (B, 2) := putI_place (by decide)
      have PU2 : putI B (-64) x = (B, 2) := putI_place (by decide)
      have CP1 : Hid (∀ W, BVar W gb B → Calls Try.prog 10 #[.pointer (some ⟨gb, 0, none⟩), .int .i64 256, .agg (ics x)] W fun e' w' => e' = .returned (.int .i64 2) ∧ BVar w' gb B ∧ Only gb W w') := Lib.hid fun W h => by have := HS.out.put gb B 256 x W h (by decide) (by decide) FX.out; rwa [PU1] at this
      have CP2 : Hid (∀ W, BVar W gb B → Calls Try.prog 10 #[.pointer (some ⟨gb, 0, none⟩), .int .i64 (-64), .agg (ics x)] W fun e' w' => e' = .returned (.int .i64 2) ∧ BVar w' gb B ∧ Only gb W w') := Lib.hid fun W h => by have := HS.out.put gb B (-64) x W h (by decide) (by decide) FX.out; rwa [PU2] at this
      have CGK : Hid (∀ (k : Nat), k < 4 → ∀ W, Calls Try.prog 14 #[.agg (arr B), .int .i64 (64 * (k : Int))] W fun e' w' => e' = .returned (.tuple #[.agg (ics (if mayB (fourV x y z v k) = true then fourV x y z v k else .zero)), .int .i64 0]) ∧ Below W.heap.size W w') := Lib.hid fun k hk W => by
        have := HS.out.get B ((64 * k : Nat) : Int) W (by omega) (by omega)
        rwa [tells_4 T4.out hk, show ((64 * k : Nat) : Int) = 64 * (k : Int) by omega] at this
      have hg2 := ino_guard
      clear PU1 PU2 T4
      go_wp2_with fail
      go_loopw [15] (fun kv wr => ∃ k : Nat, k ≤ 4 ∧ kv = .int .i64 k ∧ FK x y z v w gl gb B wr) (fun kv _ => 4 - (intOf kv).toNat)
      case atStart => exact ⟨0, Nat.zero_le _, rfl, P4.out⟩
      case round =>
        obtain ⟨k, hk, rfl, hfk⟩ := hrel
        have P5 := Lib.hid hfk
        clear hfk P4
        by_cases hkt : k < 4
        · obtain ⟨u, eu⟩ : ∃ u, fourV x y z v k = u := ⟨_, rfl⟩
          have FU : Hid u.Fits := Lib.hid (by rw [← eu]; exact FIT.out k)
          have CG1 := Lib.hid (CGK.out k hkt)
          have CM := Lib.hid fun W => HS.out.may u W FU.out
          have LU : Hid (∀ W C, FK x y z v w gl gb C W → IAt W gl (k * 16) u) := Lib.hid fun W C h => by rw [← eu]; exact h.il k hkt
          rw [eu] at CG1
          clear eu
          have g0 : (0 : Int) ≤ (k : Int) := by omega
          have g4 : (k : Int) < 4 := by omega
          have w64 : IntKind.i64.wrap (64 * (k : Int)) = 64 * (k : Int) := by rw [IntKind.wrap_i64]; omega
          obtain ⟨G, hG⟩ : ∃ G, (if mayB u = true then u else InoV.zero) = G := ⟨_, rfl⟩
          rw [hG] at CG1
          have HG := Lib.hid hG
          clear hG
          go_upto_region 16 with (first
            | (refine load_blk rfl (.tmp 12) rfl gb 0 rfl B P5.out.ib.at ?_)
            | (go_at_call 14; with_reducible refine (CG1.out _).mono ?_; rintro e' w5 ⟨rfl, hb⟩)
            | (refine store_newI rfl (.tmp 16) (.tmp 61) rfl G rfl rfl ?_))
          have bn := below_new w5 (.cells (ics G) 27)
          have P6 := Lib.hid ((P5.out.below hb).below bn)
          have G6 := Lib.hid (show IVar (w5.alloc (.cells (ics G) 27)) w5.heap.size G from heap_alloc_new w5 _)
          clear hb bn P5 CG1 w64
          generalize w5.alloc (.cells (ics G) 27) = w6 at P6 G6 ⊢
          generalize w5.heap.size = b16 at G6 ⊢
          go_upto_region 17 with (first
            | (refine load_ino rfl (.tmp 65) rfl gl (k * 16) rfl u (LU.out _ _ P6.out) ?_)
            | (refine store_newI rfl (.tmp 18) (.tmp 66) rfl u rfl rfl ?_))
          have bn := below_new w6 (.cells (ics u) 27)
          have P7 := Lib.hid (P6.out.below bn)
          have G7 := Lib.hid (G6.out.below bn)
          have U7 := Lib.hid (show IVar (w6.alloc (.cells (ics u) 27)) w6.heap.size u from heap_alloc_new w6 _)
          have Z7 : Hid (gl < w6.heap.size ∧ gb < w6.heap.size ∧ b16 < w6.heap.size ∧ w.heap.size < w6.heap.size) := Lib.hid ⟨P6.out.il.lt, P6.out.ib.lt, G6.out.lt, P6.out.ix.lt⟩
          clear bn P6 G6 LU
          generalize w6.alloc (.cells (ics u) 27) = w7 at P7 G7 U7 ⊢
          generalize w6.heap.size = b18 at U7 Z7 ⊢
          have he := fun W => equalIn_ino G G W
          simp only [decide_true] at he
          rcases hm : mayB u with _ | _
          · obtain rfl : G = .zero := by have := HG.out; rw [hm] at this; simpa using this.symm
            rw [hm] at CM
            clear hm HG
            go_upto_region 19 with (first
              | (refine load_ino rfl (.tmp 18) rfl b18 0 rfl u U7.out.at ?_)
              | (go_at_call 12; with_reducible refine (CM.out _).mono ?_; rintro e' w8 ⟨rfl, hb⟩; have P8 := Lib.hid (P7.out.below hb); have G8 := Lib.hid (G7.out.below hb); have U8 := Lib.hid (U7.out.below hb); clear hb P7 G7 U7)
              | (refine build_ino0 rfl rfl ?_)
              | (refine store_rowI rfl (.tmp 18) (.tmp 70) rfl b18 .zero u rfl rfl U8.out ?_))
            have O9 := Only.rowSelf b18 w8 (ics .zero)
            have P9 : Hid (FK x y z v w gl gb B (w8.setRow b18 (ics .zero))) := Lib.hid ⟨O9.ino (by have := Z7.out; omega) P8.out.ix, P8.out.il.keep (O9.block _ P8.out.il.lt (fun q => by have := Z7.out; injection q with q; omega)), O9.blk (by have := Z7.out; omega) P8.out.ib, P8.out.ne, low_only P8.out.low O9 (by have := Z7.out; omega)⟩
            have G9 : Hid (IVar (w8.setRow b18 (ics .zero)) b16 .zero) := Lib.hid (O9.ino (by have := Z7.out; omega) G8.out)
            have U9 : Hid (IVar (w8.setRow b18 (ics .zero)) b18 .zero) := Lib.hid (U8.out.row .zero)
            clear O9 P8 G8 U8
            generalize w8.setRow b18 (ics .zero) = w9 at P9 G9 U9 ⊢
            go_wp2_with (first
              | (refine load_ino_w (by with_unfolding_all rfl) (.tmp 16) rfl b16 0 rfl .zero G9.out.at ?_)
              | (refine load_ino_w (by with_unfolding_all rfl) (.tmp 18) rfl b18 0 rfl .zero U9.out.at ?_))
            go_roundw
            case rel => exact ⟨k + 1, by omega, by congr 1, P9.out⟩
            case measure => simp [intOf]; omega
          · obtain rfl : G = u := by have := HG.out; rw [hm] at this; simpa using this.symm
            rw [hm] at CM
            clear hm HG
            go_wp2_with (first
              | (refine load_ino rfl (.tmp 18) rfl b18 0 rfl G U7.out.at ?_)
              | (go_at_call 12; with_reducible refine (CM.out _).mono ?_; rintro e' w8 ⟨rfl, hb⟩; have P8 := Lib.hid (P7.out.below hb); have G8 := Lib.hid (G7.out.below hb); have U8 := Lib.hid (U7.out.below hb); clear hb P7 G7 U7)
              | (refine load_ino_w (by with_unfolding_all rfl) (.tmp 16) rfl b16 0 rfl G G8.out.at ?_)
              | (refine load_ino_w (by with_unfolding_all rfl) (.tmp 18) rfl b18 0 rfl G U8.out.at ?_))
            go_roundw
            case rel => exact ⟨k + 1, by omega, by congr 1, P8.out⟩
            case measure => simp [intOf]; omega
        · obtain rfl : k = 4 := by omega
          go_wp2_with (first
            | (refine load_ino rfl (.tmp 5) rfl w.heap.size 0 rfl x P5.out.ix.at ?_)
            | (go_at_call 10; with_reducible refine (CP1.out _ P5.out.ib).mono ?_; rintro e' w8 ⟨rfl, hv, ho⟩; have P8 := Lib.hid (P5.out.put ho hv); clear hv ho)
            | (refine load_ino_w (by with_unfolding_all rfl) (.tmp 5) rfl w.heap.size 0 rfl x P8.out.ix.at ?_)
            | (go_at_call 10; with_reducible refine (CP2.out _ P8.out.ib).mono ?_; rintro e' w9 ⟨rfl, hv, ho⟩))
          go_ret
          exact ⟨rfl, (P8.out.put ho hv).low⟩
end Go.Proofs.Ytfijagjkgmhimaa
