import Derived.Test.YtkblpildfeopiaaBitsAll1
import Derived.Test.YtkblpildfeopiaaBitsT
namespace Go.Proofs.Ytkblpildfeopiaa
open Go.RowKit Go.Shelf Go.BigFrame
attribute [local go_sem] Oper.semAt_some

def lastI (l : List Nat) : Int := match l.getLast? with
  | none => -1
  | some t => (nib t : Nat)
theorem lastI_snoc (l : List Nat) (x : Nat) : lastI (l ++ [x]) = (nib x : Nat) := by unfold lastI; simp
theorem lastI_nil : lastI [] = -1 := rfl
theorem ones_rise (X : Blk) : ∀ n, (ones X n).Pairwise (· < ·)
  | 0 => .nil
  | n + 1 => by
    rw [ones, List.pairwise_append]
    refine ⟨ones_rise X n, ?_, fun x hx y hy => ?_⟩
    · split <;> simp
    · have h1 := (ones_mem X n x).1 hx
      split at hy
      · rw [List.mem_singleton] at hy; omega
      · simp at hy
theorem all_rise (X : Blk) : (allOnes X).Pairwise (· < ·) := by unfold allOnes; exact ones_rise X 2048
/-- What comes next is above what came last, and set. -/
theorem all_next {X : Blk} {k x : Nat} {ini : List Nat} (h : (allOnes X).take k = ini ++ [x]) : lastI ini < (nib x : Nat) ∧ hasI X (nib x : Nat) = true := by
  have hm : ∀ t, t ∈ ini ++ [x] → t < 2048 ∧ bit X t = true := fun t ht => (all_mem X t).1 (List.mem_of_mem_take (by rw [h]; exact ht))
  have hp : (ini ++ [x]).Pairwise (· < ·) := by rw [← h]; exact (all_rise X).sublist (List.take_sublist _ _)
  have hx := hm x (by simp)
  refine ⟨?_, by rw [nib_of hx.1, hasI_nat hx.1]; exact hx.2⟩
  rw [nib_of hx.1]
  unfold lastI
  cases hl : ini.getLast? with
  | none => show (-1 : Int) < (x : Nat); omega
  | some t =>
    have ht : t ∈ ini := List.mem_of_getLast? hl
    have ht2 := hm t (by simp [ht])
    have hlt := (List.pairwise_append.1 hp).2.2 t ht x (by simp)
    show ((nib t : Nat) : Int) < (x : Nat)
    rw [nib_of ht2.1]
    omega
theorem lastI_range (l : List Nat) : -1 ≤ lastI l ∧ lastI l < 2048 := by
  unfold lastI
  cases l.getLast? with
  | none => exact ⟨by show (-1 : Int) ≤ -1; omega, by show (-1 : Int) < 2048; omega⟩
  | some t => have := nib_lt t; exact ⟨by show (-1 : Int) ≤ (nib t : Nat); omega, by show ((nib t : Nat) : Int) < 2048; omega⟩

theorem load_blk_on {F : Fence} {n : Nat} {ops : Array Oper} {rest : List Oper} {op : Oper} {a : Act} {w : World} {Q : Exit → Act → World → Prop} (hgd : Region.wanted op (yielded ops a.tmps) = true) (x : Operand) (ho : op.op = .load 23 x) (b o : Nat) (hx : a.eval x = .pointer (some ⟨b, o, none⟩)) (X : Blk) (hc : At w b o X)
    (h : wpListIn F n Try.prog ops Q rest (a.put op.dst (.agg (arr X))) w) : wpListIn F n Try.prog ops Q (op :: rest) a w := by
  refine wpListIn_step fun K hK => ?_
  rw [if_pos hgd]
  have hrun : (op.semAt F.round a.eval).run Try.prog w = .ok (.value (.agg (arr X))) w := by
    rw [Oper.semAt_eq F.round a.eval op (fun c e => by rw [ho] at e; cases e)]
    unfold execOp
    have hl := doLoad_run hc
    unfold doLoad at hl
    simp only [ho, hx, hl, Sem.run_bind, Sem.run_pure, Result.andThen_ok]
  refine ⟨fun f hf => (by unfold Oper.about at hf; rw [ho] at hf; cases hf), ?_⟩
  rw [hrun]
  exact hK _ _ h

set_option maxRecDepth 100000 in
set_option maxHeartbeats 4000000 in
theorem bitsSum_in (hS : BitsSays) (hA : AllSays) (F : Fence) (m : Nat) (hW : F = Fence.wide) (hF : ∀ f, F.fn f) (hro : F.round = none) (hm : 6 ≤ m) (lift : Lift F) (X : Blk) (a b : Nat) (w : World) (h1 : a ≤ b) (h2 : b ≤ 2048) :
    CallsIn F m Try.prog 10 #[.agg (arr X), .int .i64 (a : Nat), .int .i64 (b : Nat)] w fun e w' => e = .returned (.bool true) ∧ Below w.heap.size w w' := by
  have hm1 : 1 ≤ m := by omega
  have HS := Lib.hid hS
  have HA := Lib.hid hA
  have HL := Lib.hid lift
  have HF := Lib.hid hF
  have HW := Lib.hid hW
  clear hW
  clear hS hA lift
  have hnil := all_nil
  have b0 : Hid (((w.alloc (.cells (arr X) 23)).alloc (.cells #[.bool false] 4)).heap[w.heap.size]? = some (.cells (arr X) 23 (0, 0))) := Lib.hid (heap_alloc2_old w _ _)
  have b2 : Hid (((w.alloc (.cells (arr X) 23)).alloc (.cells #[.bool false] 4)).heap[w.heap.size + 1]? = some (.cells #[.bool false] 4 (0, 0))) := Lib.hid (heap_alloc2_new w _ _)
  have B0 : Hid (Below w.heap.size w ((w.alloc (.cells (arr X) 23)).alloc (.cells #[.bool false] 4))) := Lib.hid (((Below.refl _ w).alloc (Nat.le_refl _) _).alloc (by simp) _)
  have S0 : Hid (((w.alloc (.cells (arr X) 23)).alloc (.cells #[.bool false] 4)).heap.size = w.heap.size + 2) := Lib.hid (by simp)
  have V0 : Hid (Var ((w.alloc (.cells (arr X) 23)).alloc (.cells #[.bool false] 4)) w.heap.size X) := b0
  have d1 : decide ((a : Int) < 0) = false := decide_eq_false (by omega)
  have d2 : decide ((b : Int) < (a : Int)) = false := decide_eq_false (by omega)
  have d2' : decide (b < a) = false := decide_eq_false (by omega)
  have d3 : decide ((2048 : Int) < (b : Int)) = false := decide_eq_false (by omega)
  have d3' : decide (2048 < b) = false := decide_eq_false (by omega)
  refine callsIn_of_wp_marks Try.func10 rfl (hF _) ?_ hro
  simp only [Try.ntmps10, List.size_toArray, List.length_cons, List.length_nil, Nat.reduceAdd, Nat.reduceSub, Array.replicate_succ, Array.replicate_zero, List.push_toArray, List.append_toArray, List.nil_append, List.cons_append]
  gi_wp2_with (gi_at_call 22; refine (HL.out _ _ _ _ _ (bAwake_any HS.out _)).mono ?_; rintro e w2 ⟨rfl, hb⟩; have V2 := Lib.hid (V0.out.below hb))
  generalize (w.alloc (.cells (arr X) 23)).alloc (.cells #[.bool false] 4) = w1 at b0 b2 B0 S0 V0 hb
  have B2 := Lib.hid (B0.out.trans (hb.mono B0.out.size))
  have r2 := Lib.hid ((hb.block (w.heap.size + 1) (by rw [S0.out]; omega)).trans b2.out)
  have S2 : Hid (w.heap.size + 2 ≤ w2.heap.size) := Lib.hid (by rw [← S0.out]; exact hb.size)
  clear b0 b2 B0 S0 V0 hb d1 d2 d2' d3 d3'
  gi_loopw [7, 8] (fun c i wr => ∃ k : Nat, a ≤ k ∧ k ≤ b ∧ i = .int .i64 (k : Nat) ∧ c = .int .i64 ((countN X k - countN X a : Nat) : Int) ∧ Hid (Below w.heap.size w wr) ∧ Hid (wr.heap[w.heap.size + 1]? = some (.cells #[.bool false] 4 (0, 0))) ∧ Hid (Var wr w.heap.size X) ∧ Hid (w.heap.size + 2 ≤ wr.heap.size)) (fun _ i _ => b - (intOf i).toNat)
  case atStart => exact ⟨a, Nat.le_refl _, h1, rfl, by rw [Nat.sub_self]; rfl, B2, r2, V2, S2⟩
  case round =>
    clear B2 r2 V2 S2
    obtain ⟨k, hk1, hk2, rfl, rfl, B2, r2, V2, S2⟩ := hrel
    have hcn : countN X k - countN X a ≤ 2048 := by have := countN_le X k; omega
    by_cases hlt : k < b
    · have j2 : (k : Int) < b := by omega
      have hx := hasI_nat (X := X) (i := k) (by omega)
      have CS : Hid (countN X (k + 1) - countN X a = countN X k - countN X a + if bit X k then 1 else 0) := Lib.hid (by
        have := countN_mono X a (k - a)
        rw [show a + (k - a) = k by omega] at this
        rw [countN]
        split <;> omega)
      have k64 := Lib.hid (i64_nat (n := k) (by omega))
      generalize countN X k - countN X a = cn at hcn CS ⊢
      cases hb : bit X k
      · rw [hb] at CS
        have CH : Hid (∀ W, Calls Try.prog 11 #[.agg (arr X), .int .i64 (k : Nat)] W fun e w' => e = .returned (.bool false) ∧ Below W.heap.size W w') := Lib.hid fun W => (HS.out.has X (k : Nat) W k64.out).mono fun e w' q => ⟨by rw [q.1, hx, hb], q.2⟩
        clear hx hb
        gi_wp2_with (first | (refine load_blk_in rfl (.tmp 3) rfl w.heap.size 0 rfl X V2.out.at ?_) | (gi_at_call 11; refine (HL.out _ _ _ _ _ (CH.out _)).mono ?_; rintro e w3 ⟨rfl, hb⟩))
        go_roundw
        case rel => exact ⟨k + 1, by omega, by omega, by go_num, by rw [CS.out]; rfl, Lib.hid (B2.out.trans (hb.mono B2.out.size)), Lib.hid ((hb.block _ (by have := S2.out; omega)).trans r2.out), Lib.hid (V2.out.below hb), Lib.hid (Nat.le_trans S2.out hb.size)⟩
        case measure => first | (simp [intOf]; done) | (simp [intOf]; omega)
      · rw [hb] at CS
        have CH : Hid (∀ W, Calls Try.prog 11 #[.agg (arr X), .int .i64 (k : Nat)] W fun e w' => e = .returned (.bool true) ∧ Below W.heap.size W w') := Lib.hid fun W => (HS.out.has X (k : Nat) W k64.out).mono fun e w' q => ⟨by rw [q.1, hx, hb], q.2⟩
        clear hx hb
        gi_wp2_with (first | (refine load_blk_in rfl (.tmp 3) rfl w.heap.size 0 rfl X V2.out.at ?_) | (gi_at_call 11; refine (HL.out _ _ _ _ _ (CH.out _)).mono ?_; rintro e w3 ⟨rfl, hb⟩))
        go_roundw
        case rel => exact ⟨k + 1, by omega, by omega, by go_num, by rw [CS.out]; simp, Lib.hid (B2.out.trans (hb.mono B2.out.size)), Lib.hid ((hb.block _ (by have := S2.out; omega)).trans r2.out), Lib.hid (V2.out.below hb), Lib.hid (Nat.le_trans S2.out hb.size)⟩
        case measure => first | (simp [intOf]; done) | (simp [intOf]; omega)
    · have hkb : k = b := by omega
      subst hkb
      have ka64 := Lib.hid (i64_nat (n := a) (by omega))
      have kb64 := Lib.hid (i64_nat (n := k) (by omega))
      have CB : Hid (∀ W, Calls Try.prog 15 #[.agg (arr X), .int .i64 (k : Nat)] W fun e w' => e = .returned (.int .i64 (countN X k : Nat)) ∧ Below W.heap.size W w') := Lib.hid fun W => (HS.out.count X (k : Nat) W kb64.out).mono fun e w' q => ⟨by rw [q.1]; unfold countI; rw [lim_nat (by omega)], q.2⟩
      have CA : Hid (∀ W, Calls Try.prog 15 #[.agg (arr X), .int .i64 (a : Nat)] W fun e w' => e = .returned (.int .i64 (countN X a : Nat)) ∧ Below W.heap.size W w') := Lib.hid fun W => (HS.out.count X (a : Nat) W ka64.out).mono fun e w' q => ⟨by rw [q.1]; unfold countI; rw [lim_nat (by omega)], q.2⟩
      have CE : Hid (∀ W, Calls Try.prog 15 #[.agg (arr X), .int .i64 2048] W fun e w' => e = .returned (.int .i64 ((allOnes X).length : Nat)) ∧ Below W.heap.size W w') := Lib.hid fun W => (HS.out.count X 2048 W (by unfold I64; omega)).mono fun e w' q => ⟨by rw [q.1, all_len]; rfl, q.2⟩
      have c1 := countN_le X k
      have c2 := countN_le X a
      have cm : countN X a ≤ countN X k := by
        have := countN_mono X a (k - a)
        rwa [show a + (k - a) = k by omega] at this
      generalize countN X k = yb at *
      generalize countN X a = ya at *
      gi_wp2_with (refine load_blk_in rfl (.tmp 3) rfl w.heap.size 0 rfl X V2.out.at ?_)
      refine (HL.out _ _ _ _ _ (HA.out.all X _)).mono ?_
      rintro e w3 ⟨lb, rfl, hb, hst⟩
      have ST := Lib.hid hst
      have B3 := Lib.hid (B2.out.trans (hb.mono B2.out.size))
      have r23 := Lib.hid ((hb.block (w.heap.size + 1) (by have := S2.out; omega)).trans r2.out)
      have V3 := Lib.hid (V2.out.below hb)
      have S3 : Hid (w.heap.size + 2 ≤ w3.heap.size) := Lib.hid (Nat.le_trans S2.out hb.size)
      clear hst hb B2 r2 V2 S2
      gi_wp2
      have hb0 : Below w3.heap.size w3 ((w3.alloc (.cells #[.int .i64 (-1)] 3)).alloc (.cells #[.int .i64 0] 3)) := ((Below.refl _ _).alloc (Nat.le_refl _) _).alloc (by simp) _
      have K0 : Hid (Cell1 ((w3.alloc (.cells #[.int .i64 (-1)] 3)).alloc (.cells #[.int .i64 0] 3)) w3.heap.size (.int .i64 (-1))) := Lib.hid ((cell1_new w3 _ _).below ((Below.refl _ _).alloc (Nat.le_refl _) _))
      have K1 : Hid (Cell1 ((w3.alloc (.cells #[.int .i64 (-1)] 3)).alloc (.cells #[.int .i64 0] 3)) (w3.heap.size + 1) (.int .i64 0)) := Lib.hid (by
        have := cell1_new (w3.alloc (.cells #[.int .i64 (-1)] 3)) (.int .i64 0) 3
        rwa [show (w3.alloc (.cells #[.int .i64 (-1)] 3)).heap.size = w3.heap.size + 1 by simp] at this)
      have B4 := Lib.hid (B3.out.trans (hb0.mono B3.out.size))
      have Q2 := Lib.hid ((hb0.block (w.heap.size + 1) (by have := S3.out; omega)).trans r23.out)
      have V4 := Lib.hid (V3.out.below hb0)
      have hst := ST.out F (m - 1) ((w3.alloc (.cells #[.int .i64 (-1)] 3)).alloc (.cells #[.int .i64 0] 3)) HF.out hro (by omega) HL.out hb0
      have Z4 : Hid (w3.heap.size ≤ ((w3.alloc (.cells #[.int .i64 (-1)] 3)).alloc (.cells #[.int .i64 0] 3)).heap.size) := Lib.hid hb0.size
      clear ST B3 r23 V3 hb0
      generalize (w3.alloc (.cells #[.int .i64 (-1)] 3)).alloc (.cells #[.int .i64 0] 3) = W0 at K0 K1 B4 Q2 V4 hst Z4 ⊢
      generalize w3.heap.size = g at K0 K1 hst Z4 S3 ⊢
      have NV : Hid (w.heap.size < g) := Lib.hid (by have := S3.out; omega)
      have NR : Hid (w.heap.size + 1 < g) := Lib.hid (by have := S3.out; omega)
      refine wpIn_rangeFunc_ownG hro hm1 (gf := 26) (lb := lb) rfl (hF _) (enters_of Try.func26 (by kernel_rfl) rfl)
        hst belowK_t (belowK_b Z4.out) (Below.refl _ _) (fun _ => rfl)
        (fun pre W => (Cell1 W g (.int .i64 (lastI pre)) ∧ Cell1 W (g + 1) (.int .i64 (pre.length : Nat))) ∧ Below g W0 W)
        (fun c pre _ => c = .ret ∧ ∃ ini x, pre = ini ++ [x] ∧ ((nib x : Nat) ≤ lastI ini ∨ hasI X ((nib x : Nat) : Int) = false))
        (OwnFrom.and (OwnFrom.and (_root_.Go.Own.from (cell1_own g _) _) (_root_.Go.Own.from (cell1_own (g + 1) _) _)) (ownFrom_below Z4.out Z4.out))
        (fun _ _ _ _ _ hs _ _ => hs)
        ⟨⟨K0.out, K1.out⟩, Below.refl _ _⟩
        (fun x => { tmps := #[Value.agg (arr X), Value.int .i64 (a : Nat), Value.int .i64 (k : Nat), Value.pointer (some ⟨w.heap.size, 0, none⟩), undef, undef, Value.pointer (some ⟨w.heap.size + 1, 0, none⟩), Value.int .i64 ((yb - ya : Nat) : Int), Value.int .i64 (k : Nat), Value.func (.func 26) #[] lb, Value.pointer (some ⟨g, 0, none⟩), Value.pointer (some ⟨g + 1, 0, none⟩), Value.int .i64 ((nib x : Nat) : Int), Value.bool true, Value.bool false, Value.int .i64 (a : Nat), Value.bool false, Value.bool false, Value.int .i64 (k : Nat), Value.int .i64 (a : Nat), Value.bool false, Value.bool false, Value.bool false, Value.int .i64 (k : Nat), Value.bool false, Value.bool false, Value.int .i64 (a : Nat), Value.int .i64 (k : Nat), Value.int .i64 (k : Nat), Value.bool false, u30, u31, u32, u33, u34, u35, u36, Value.agg (arr X), Value.func (.func 26) #[] lb, Value.func (.func 26) #[] lb, Value.bool false, Value.func (.func 26) #[] lb, Value.int .i64 ((nib x : Nat) : Int), undef, undef, undef, undef, undef, undef, undef, undef, undef, undef, undef, undef, undef, undef, undef, undef, undef, undef, undef, undef, undef, undef, undef, undef, undef, undef, undef], defers := [] }) ?assign ?body ?done ?stop
      case assign =>
        intro l x W K hK
        gi_wp2
        exact hK
      case body =>
        rintro l pre x W ⟨⟨hc, hc'⟩, hB⟩ hlen
        have hpl : pre.length ≤ 2048 := Nat.le_of_lt (Nat.lt_of_lt_of_le hlen (ones_le X))
        have hlr := lastI_range pre
        have HC := Lib.hid hc
        have HC' := Lib.hid hc'
        have HB := Lib.hid hB
        have VW := Lib.hid (V4.out.below' hB NV.out)
        have rB := Lib.hid ((hB.block (w.heap.size + 1) NR.out).trans Q2.out)
        have q2 := cell_of_one' rB.out
        have f2 := World.frozen?_row rB.out
        have q3 := hc.1
        have f3 := hc.2
        have hx := nib_lt x
        have hm2 : 1 ≤ m - 1 - 1 := by omega
        have x64 : Hid (I64 ((nib x : Nat) : Int)) := Lib.hid (i64_nat (by omega))
        have LS := Lib.hid (lastI_snoc pre x)
        clear hlen hc hc' hB
        obtain ⟨y, hy⟩ : ∃ y, nib x = y := ⟨_, rfl⟩
        rw [hy] at hx x64 LS ⊢
        have HY := Lib.hid hy
        clear hy
        obtain ⟨cn, hcn⟩ : ∃ cn, lastI pre = cn := ⟨_, rfl⟩
        rw [hcn] at HC hlr q3
        have HCN := Lib.hid hcn
        clear hcn
        by_cases hle : (y : Int) ≤ cn
        · have t1 : decide ((y : Int) ≤ cn) = true := decide_eq_true hle
          have HLE := Lib.hid hle
          clear hle
          gi_wp2
          exact ⟨(KeepsOthers.setCell _ _ _).from _, rfl, pre, x, rfl, .inl (by rw [HY.out, HCN.out]; exact HLE.out)⟩
        · have t1 : decide ((y : Int) ≤ cn) = false := decide_eq_false hle
          clear hle
          cases hh : hasI X (y : Nat)
          · have CH : Hid (∀ W, Calls Try.prog 11 #[.agg (arr X), .int .i64 (y : Nat)] W fun e w' => e = .returned (.bool false) ∧ Below W.heap.size W w') := Lib.hid fun W => (HS.out.has X (y : Nat) W x64.out).mono fun e w' q => ⟨by rw [q.1, hh], q.2⟩
            have HH := Lib.hid hh
            clear hh
            gi_wp2_with (first | (refine load_blk_on (by with_unfolding_all rfl) (.tmp 3) rfl w.heap.size 0 rfl X VW.out.at ?_) | (gi_at_call 11; refine (CallsIn.inRound l (HL.out _ _ _ _ _ (CH.out W))).mono ?_; rintro e w' ⟨rfl, hb⟩; have q2' := cell_of_one' ((hb.block (w.heap.size + 1) (Nat.lt_of_lt_of_le NR.out (Nat.le_trans Z4.out HB.out.size))).trans rB.out); have f2' := World.frozen?_row ((hb.block (w.heap.size + 1) (Nat.lt_of_lt_of_le NR.out (Nat.le_trans Z4.out HB.out.size))).trans rB.out)))
            exact ⟨(keepsFrom_below hb).trans ((KeepsOthers.setCell _ _ _).from _), rfl, pre, x, rfl, .inr (by rw [HY.out]; exact HH.out)⟩
          · have CH : Hid (∀ W, Calls Try.prog 11 #[.agg (arr X), .int .i64 (y : Nat)] W fun e w' => e = .returned (.bool true) ∧ Below W.heap.size W w') := Lib.hid fun W => (HS.out.has X (y : Nat) W x64.out).mono fun e w' q => ⟨by rw [q.1, hh], q.2⟩
            clear hh
            obtain ⟨pl, hl⟩ : ∃ pl, pre.length = pl := ⟨_, rfl⟩
            rw [hl] at HC' hpl
            have HLN : Hid ((pre ++ [x]).length = pl + 1) := Lib.hid (by simp [hl])
            have HLA : Hid (lastI (pre ++ [x]) = (y : Nat)) := Lib.hid LS.out
            clear hl
            gi_wp2_with (first | (refine load_blk_on (by with_unfolding_all rfl) (.tmp 3) rfl w.heap.size 0 rfl X VW.out.at ?_) | (gi_at_call 11; refine (CallsIn.inRound l (HL.out _ _ _ _ _ (CH.out W))).mono ?_; rintro e w' ⟨rfl, hb⟩; have hcw := HC.out.below hb; have hcw' := HC'.out.below hb; have c3 := hcw.1; have f3 := hcw.2; have c4 := hcw'.1; have hc6 := hcw'.other (k := g) (Nat.succ_ne_self g) (.int .i64 (y : Nat)); have c6 := hc6.1; have f6 := hc6.2))
            have hbg := hb.mono (Nat.le_trans Z4.out HB.out.size)
            have hbs := (hbg.setCell (p := ⟨g, 0, none⟩) (Nat.le_refl _) (.int .i64 (y : Nat))).setCell (p := ⟨g + 1, 0, none⟩) (Nat.le_succ g) (.int .i64 ((pl + 1 : Nat) : Int))
            exact ⟨((keepsFrom_below hb).trans ((KeepsOthers.setCell _ _ _).from _)).trans ((KeepsOthers.setCell _ _ _).from _), hbs, ⟨⟨by rw [HLA.out]; exact (hcw.set _).other (Nat.succ_ne_self g).symm _, by rw [HLN.out]; exact hc6.set _⟩, HB.out.trans hbs⟩⟩
      case done =>
        rintro D ys W hD rfl ⟨⟨hc0, hc⟩, hB⟩ hK
        have hle : (allOnes X).length ≤ 2048 := by rw [all_len]; exact countN_le X 2048
        generalize (allOnes X).length = tl at hc hle CE ⊢
        have HB := Lib.hid hB
        have HC := Lib.hid hc
        have HK := Lib.hid hK
        have VW := Lib.hid (V4.out.below' hB NV.out)
        have rB := Lib.hid ((hB.block (w.heap.size + 1) NR.out).trans Q2.out)
        have q2 := cell_of_one' rB.out
        have f2 := World.frozen?_row rB.out
        have q3 := hc.1
        have sb : ((yb : Nat) : Int) - ((ya : Nat) : Int) = ((yb - ya : Nat) : Int) := by omega
        have te : (((yb - ya : Nat) : Int) == ((yb - ya : Nat) : Int)) = true := by simp
        have te2 : (((tl : Nat) : Int) == ((tl : Nat) : Int)) = true := by simp
        clear hc hB hK hc0
        gi_wp2
        have LG := Lib.hid HC.out.lt
        have LR : Hid (w.heap.size + 1 < W.heap.size) := Lib.hid (by have := LG.out; have := NR.out; omega)
        have hW := HW.out
        subst hW
        refine wpIn_wide.2 ?_
        refine wp_region_class_tail (More W) 15 (by kernel_rfl) (by kernel_rfl) (More.drew _) ?_
        simp only [List.take_succ_cons, List.take_zero, List.drop_succ_cons, List.drop_zero]
        repeat (first | go_big_quiet_skip | (go_big_quiet_want; first | (refine quiet_load _ rfl _ _ rfl _ (by intro w' hw'; exact (VW.out.below hw').at) ?_; simp only [Act.put, List.setIfInBounds_toArray, List.set_cons_zero, List.set_cons_succ]; go_big_quiet_on) | (refine quiet_int _ rfl _ rfl _ (by intro w' hw'; exact cell_below q3 hw') ?_; simp only [Act.put, List.setIfInBounds_toArray, List.set_cons_zero, List.set_cons_succ]; go_big_quiet_on) | (go_big_quiet_op; first | go_big_quiet_on | (apply Exists.intro; refine ⟨fun _ _ => ?_, ?_⟩; (with_reducible exact rfl); go_big_quiet_on) | go_big_quiet_call ((intro hC; (first | (with_reducible refine (CB.out _).mono ?_) | (with_reducible refine (CA.out _).mono ?_) | (with_reducible refine (CE.out _).mono ?_)); exact fun e w' h => ⟨h.1, hC.on h.2⟩)))))
        refine wpQuiet_nil ?_
        intro w' hw'
        have q2' := cell_below q2 hw'
        have f2' := frozen_below f2 q2 hw'
        have hKw : w'.heap[D]? = some (.deferred (some [])) := (hw'.block D (by
          rcases Nat.lt_or_ge D W.heap.size with r | r
          · exact r
          · have := HK.out; rw [Array.getElem?_eq_none r] at this; cases this)).trans HK.out
        have HK2 := Lib.hid ((KeepsOthers.setCell w' ⟨w.heap.size + 1, 0, none⟩ (.bool true)).same D _ hKw rfl)
        have HWB := Lib.hid hw'
        clear hw' hKw HK
        go_wp2
        gi_wp2
        refine ⟨by simp, .inl ⟨_, _, rfl, run_takeDeferred HK2.out, ?_⟩⟩
        have hc5 := cell_kept (World.cell?_setCell_same' w' ⟨w.heap.size + 1, 0, none⟩ (.bool true) (by rw [q2']; rfl)) (grownBy_putObj' _ D (.deferred none)) (fun r e => by cases e; exact ⟨_, HK2.out, rfl⟩)
        have BT : Below w.heap.size w w' := B4.out.trans ((HB.out.mono (by have := S3.out; omega)).trans (Below.mono HWB.out (by have := B4.out.size; have := HB.out.size; omega)))
        refine ⟨.bool true, ?_, rfl, (BT.setCell (p := ⟨w.heap.size + 1, 0, none⟩) (by show w.heap.size ≤ w.heap.size + 1; omega) _).trans (belowK_b (w := w) (Nat.le_refl _) _ D _ _ (by have := B4.out.size; omega) HK2.out rfl rfl)⟩
        simp [results, Try.f10, go_sem, hc5]
      case stop =>
        rintro D c' pre W hD ⟨k, hk, rfl⟩ ⟨_, ini, x, he, hx⟩ hK
        exfalso
        have hn := all_next he
        rcases hx with hx | hx
        · omega
        · rw [hn.2] at hx; cases hx

set_option maxRecDepth 100000 in
set_option maxHeartbeats 1000000 in
theorem bitsSum_out (hS : BitsSays) (X : Blk) (a b : Int) (w : World) (h : a < 0 ∨ b < a ∨ 2048 < b) :
    Calls Try.prog 10 #[.agg (arr X), .int .i64 a, .int .i64 b] w fun e w' => e = .returned (.bool true) ∧ Below w.heap.size w w' := by
  have HS := Lib.hid hS
  clear hS
  have b2 : Hid (((w.alloc (.cells (arr X) 23)).alloc (.cells #[.bool false] 4)).heap[w.heap.size + 1]? = some (.cells #[.bool false] 4 (0, 0))) := Lib.hid (heap_alloc2_new w _ _)
  have B0 : Hid (Below w.heap.size w ((w.alloc (.cells (arr X) 23)).alloc (.cells #[.bool false] 4))) := Lib.hid (((Below.refl _ w).alloc (Nat.le_refl _) _).alloc (by simp) _)
  have S0 : Hid (((w.alloc (.cells (arr X) 23)).alloc (.cells #[.bool false] 4)).heap.size = w.heap.size + 2) := Lib.hid (by simp)
  by_cases ha : a < 0
  · have d1 := decide_eq_true ha
    clear h ha
    go_enter Try.func10, Try.ntmps10
    go_wp2_with fail
    generalize (w.alloc (.cells (arr X) 23)).alloc (.cells #[.bool false] 4) = w1 at b2 B0 S0 ⊢
    refine (bAwake_any HS.out w1).mono ?_
    rintro e w2 ⟨rfl, hb⟩
    have B2 := Lib.hid (B0.out.trans (hb.mono B0.out.size))
    have r2 := Lib.hid ((hb.block (w.heap.size + 1) (by rw [S0.out]; omega)).trans b2.out)
    have q2 := cell_of_one' r2.out
    have f2 := World.frozen?_row r2.out
    clear hb b2 B0 S0
    go_wp2_with fail
    exact bodyPost_ret (v := .bool true) (by simp [results, Try.f10, go_sem, World.cell?_setCell_same' w2 ⟨w.heap.size + 1, 0, none⟩ (.bool true) (by rw [q2]; rfl)]) rfl ⟨rfl, B2.out.setCell (p := ⟨w.heap.size + 1, 0, none⟩) (Nat.le_succ _) _⟩
  · have d1 := decide_eq_false ha
    by_cases hb2 : b < a
    · have d2 := decide_eq_true hb2
      clear h ha hb2
      go_enter Try.func10, Try.ntmps10
      go_wp2_with fail
      generalize (w.alloc (.cells (arr X) 23)).alloc (.cells #[.bool false] 4) = w1 at b2 B0 S0 ⊢
      refine (bAwake_any HS.out w1).mono ?_
      rintro e w2 ⟨rfl, hb⟩
      have B2 := Lib.hid (B0.out.trans (hb.mono B0.out.size))
      have r2 := Lib.hid ((hb.block (w.heap.size + 1) (by rw [S0.out]; omega)).trans b2.out)
      have q2 := cell_of_one' r2.out
      have f2 := World.frozen?_row r2.out
      clear hb b2 B0 S0
      go_wp2_with fail
      exact bodyPost_ret (v := .bool true) (by simp [results, Try.f10, go_sem, World.cell?_setCell_same' w2 ⟨w.heap.size + 1, 0, none⟩ (.bool true) (by rw [q2]; rfl)]) rfl ⟨rfl, B2.out.setCell (p := ⟨w.heap.size + 1, 0, none⟩) (Nat.le_succ _) _⟩
    · have d2 := decide_eq_false hb2
      have d3 : decide (2048 < b) = true := decide_eq_true (by omega)
      clear h ha hb2
      go_enter Try.func10, Try.ntmps10
      go_wp2_with fail
      generalize (w.alloc (.cells (arr X) 23)).alloc (.cells #[.bool false] 4) = w1 at b2 B0 S0 ⊢
      refine (bAwake_any HS.out w1).mono ?_
      rintro e w2 ⟨rfl, hb⟩
      have B2 := Lib.hid (B0.out.trans (hb.mono B0.out.size))
      have r2 := Lib.hid ((hb.block (w.heap.size + 1) (by rw [S0.out]; omega)).trans b2.out)
      have q2 := cell_of_one' r2.out
      have f2 := World.frozen?_row r2.out
      clear hb b2 B0 S0
      go_wp2_with fail
      exact bodyPost_ret (v := .bool true) (by simp [results, Try.f10, go_sem, World.cell?_setCell_same' w2 ⟨w.heap.size + 1, 0, none⟩ (.bool true) (by rw [q2]; rfl)]) rfl ⟨rfl, B2.out.setCell (p := ⟨w.heap.size + 1, 0, none⟩) (Nat.le_succ _) _⟩

theorem bitsSum_any (hS : BitsSays) (hA : AllSays) (X : Blk) (a b : Int) (w : World) :
    Calls Try.prog 10 #[.agg (arr X), .int .i64 a, .int .i64 b] w fun e w' => e = .returned (.bool true) ∧ Below w.heap.size w w' := by
  by_cases h : 0 ≤ a ∧ a ≤ b ∧ b ≤ 2048
  · obtain ⟨h0, h1, h2⟩ := h
    obtain ⟨x, rfl⟩ := Int.eq_ofNat_of_zero_le h0
    obtain ⟨y, rfl⟩ := Int.eq_ofNat_of_zero_le (Int.le_trans h0 h1)
    exact callsIn_wide.1 (bitsSum_in hS hA Fence.wide 6 rfl (fun _ => trivial) rfl (Nat.le_refl _) (fun _ _ _ _ _ h => callsIn_wide.2 h) X x y w (by omega) (by omega))
  · exact bitsSum_out hS X a b w (by omega)
end Go.Proofs.Ytkblpildfeopiaa
