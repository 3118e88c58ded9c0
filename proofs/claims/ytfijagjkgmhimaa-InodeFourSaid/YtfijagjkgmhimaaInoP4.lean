import Derived.Test.YtfijagjkgmhimaaInoP3
import Derived.Test.YtfijagjkgmhimaaIterGo
import Derived.RangeFuncNested
import Derived.RangeFuncBound
import Derived.RangeFuncCalls
import Derived.RangeFuncLeaves
import Derived.RangeFuncWrites
import Derived.Shelf.Abstract
import Derived.Shelf.RegionOpen
import Derived.Sort.BigQuietIn
import Derived.OwnWalkIn
import Derived.TacticsInMore
import Derived.LoopNIn
import Derived.LoopIn
import Derived.ControlIn
namespace Go.Proofs.Ytfijagjkgmhimaa
open Go.RowKit Go.Shelf Go.BigFrame
attribute [local go_sem] Oper.semAt_some

/-! An inode's numbers, as the program ranges over them. -/
def atN (k : Nat) : Nat := if k = 0 then 0 else if k = 1 then 2 else 4 * k - 4
def byN (k : Nat) : Nat := if k = 0 then 1 else if k = 1 then 2 else 4
def spanN (x : InoV) (k : Nat) : Array Value := #[.agg #[.int .i64 (atN k), .int .i64 (byN k)], .int .u32 (valI x k)]
theorem spanN_0 (x : InoV) : spanN x 0 = #[.agg #[.int .i64 0, .int .i64 1], .int .u32 (x.kd : Nat)] := rfl
theorem spanN_1 (x : InoV) (h : 0 ≤ x.ln) : spanN x 1 = #[.agg #[.int .i64 2, .int .i64 2], .int .u32 x.ln] := by
  unfold spanN valI
  rw [if_neg (by omega), if_pos rfl, Int.toNat_of_nonneg h]; rfl
theorem spanN_2 (x : InoV) : spanN x 2 = #[.agg #[.int .i64 4, .int .i64 4], .int .u32 (x.gen : Nat)] := rfl
theorem spanN_3 (x : InoV) (h : 0 ≤ x.sz) : spanN x 3 = #[.agg #[.int .i64 8, .int .i64 4], .int .u32 x.sz] := by
  unfold spanN valI
  rw [if_neg (by omega), if_neg (by omega), if_neg (by omega), if_pos rfl, Int.toNat_of_nonneg h]; rfl
theorem spanN_p (x : InoV) {k : Nat} (h : k < 11) : spanN x (4 + k) = #[.agg #[.int .i64 (12 + 4 * (k : Int)), .int .i64 4], .int .u32 (x.p.f k : Nat)] := by
  unfold spanN atN byN valI
  rw [if_neg (by omega), if_neg (by omega), if_neg (by omega), if_neg (by omega), if_neg (by omega), if_neg (by omega), if_neg (by omega), if_neg (by omega), if_neg (by omega), show 4 + k - 4 = k by omega, show ((4 * (4 + k) - 4 : Nat) : Int) = 12 + 4 * (k : Int) by omega]; rfl
theorem spanN_15 (x : InoV) : spanN x 15 = #[.agg #[.int .i64 56, .int .i64 4], .int .u32 (x.nx : Nat)] := rfl
theorem run_index_pts (p : Ptrs) {k : Nat} (h : k < 11) (w : World) : (Instr.index 25 (.agg (pts p)) (.int .i64 k)).run Try.prog w = .ok (.int .u32 (p.f k : Nat)) w := by
  have hk : (0 : Int) ≤ (k : Int) ∧ (k : Int) < ((11 : Nat) : Int) := by omega
  simp [Instr.index, run_underlying Try.underlying25, asIntOf, hk, pts_p p h, go_sem]
  intro q; omega
section
variable {F : Fence} {n : Nat} {ops : Array Oper} {rest : List Oper} {op : Oper} {a : Act} {w : World} {Q : Exit → Act → World → Prop}
theorem load_ino_in (hgd : op.guard = none) (x : Operand) (ho : op.op = .load 27 x) (b o : Nat) (hx : a.eval x = .pointer (some ⟨b, o, none⟩)) (g : InoV) (hc : IAt w b o g)
    (h : wpListIn F n Try.prog ops Q rest (a.put op.dst (.agg (ics g))) w) : wpListIn F n Try.prog ops Q (op :: rest) a w := by
  refine wpListIn_plain hgd fun K hK => ?_
  have hrun : (op.semAt F.round a.eval).run Try.prog w = .ok (.value (.agg (ics g))) w := by
    rw [Oper.semAt_eq F.round a.eval op (fun c e => by rw [ho] at e; cases e)]
    unfold execOp
    have hl := run_loadAt_mid (P := Try.prog) w b o 27 (ics g).toList _ hc Try.underlying27 rfl (ino_size g)
    simp only [ho, hx, hl, Sem.run_bind, Sem.run_pure, Result.andThen_ok]
  refine ⟨fun f hf => (by unfold Oper.about at hf; rw [ho] at hf; cases hf), ?_⟩
  rw [hrun]
  exact hK _ _ h
theorem load_ino_on (hgd : Region.wanted op (yielded ops a.tmps) = true) (x : Operand) (ho : op.op = .load 27 x) (b o : Nat) (hx : a.eval x = .pointer (some ⟨b, o, none⟩)) (g : InoV) (hc : IAt w b o g)
    (h : wpListIn F n Try.prog ops Q rest (a.put op.dst (.agg (ics g))) w) : wpListIn F n Try.prog ops Q (op :: rest) a w := by
  refine wpListIn_step fun K hK => ?_
  rw [if_pos hgd]
  have hrun : (op.semAt F.round a.eval).run Try.prog w = .ok (.value (.agg (ics g))) w := by
    rw [Oper.semAt_eq F.round a.eval op (fun c e => by rw [ho] at e; cases e)]
    unfold execOp
    have hl := run_loadAt_mid (P := Try.prog) w b o 27 (ics g).toList _ hc Try.underlying27 rfl (ino_size g)
    simp only [ho, hx, hl, Sem.run_bind, Sem.run_pure, Result.andThen_ok]
  refine ⟨fun f hf => (by unfold Oper.about at hf; rw [ho] at hf; cases hf), ?_⟩
  rw [hrun]
  exact hK _ _ h
theorem load_pts_in (hgd : op.guard = none) (x : Operand) (ho : op.op = .load 25 x) (b o : Nat) (hx : a.eval x = .pointer (some ⟨b, o, none⟩)) (p : Ptrs) (hc : w.rangeAt b o (pts p).toList)
    (h : wpListIn F n Try.prog ops Q rest (a.put op.dst (.agg (pts p))) w) : wpListIn F n Try.prog ops Q (op :: rest) a w := by
  refine wpListIn_plain hgd fun K hK => ?_
  have hrun : (op.semAt F.round a.eval).run Try.prog w = .ok (.value (.agg (pts p))) w := by
    rw [Oper.semAt_eq F.round a.eval op (fun c e => by rw [ho] at e; cases e)]
    unfold execOp
    have hl := run_loadAt_mid (P := Try.prog) w b o 25 (pts p).toList _ hc Try.underlying25 rfl (pts_size p)
    simp only [ho, hx, hl, Sem.run_bind, Sem.run_pure, Result.andThen_ok]
  refine ⟨fun f hf => (by unfold Oper.about at hf; rw [ho] at hf; cases hf), ?_⟩
  rw [hrun]
  exact hK _ _ h
end
set_option maxRecDepth 100000 in
set_option maxHeartbeats 2000000 in
/-- eachPtr: the eleven pointers, as long as the rounds go on. -/
theorem each_in (F : Fence) (m l : Nat) (hF : ∀ f, F.fn f) (hro : F.round = none) (hm : 1 ≤ m) (x : InoV) (J : Nat → World → Prop) (W : World) (hJ : Stays W.heap.size J)
    (hY : ∀ k W1, 4 ≤ k → k < 15 → J k W1 → YieldAt F (m - 1) Try.prog l (spanN x k) W1 fun e W' => e = .returned (.bool true) ∧ J (k + 1) W') (h0 : J 4 W) :
    CallsIn F m Try.prog 33 #[.agg (ics x), .func (.yield l) #[] #[]] W fun e W' => e = .returned (.bool true) ∧ J 15 W' := by
  have HY := Lib.hid hY
  have HJ := Lib.hid hJ
  have B1 := Lib.hid (below_new W (.cells (ics x) 27))
  have V1 := Lib.hid (show IVar (W.alloc (.cells (ics x) 27)) W.heap.size x from heap_alloc_new W _)
  have H1 := Lib.hid (hJ 4 _ _ h0 B1.out)
  clear hY hJ h0
  refine callsIn_of_wp Try.func33 rfl (hF _) ?_ hro
  simp only [Try.ntmps33, List.size_toArray, List.length_cons, List.length_nil, Nat.reduceAdd, Nat.reduceSub, Array.replicate_succ, Array.replicate_zero, List.push_toArray, List.append_toArray, List.nil_append, List.cons_append]
  gi_wp2_with (refine load_pts_in rfl (.tmp 7) rfl W.heap.size 4 rfl x.p V1.out.ptrs ?_)
  generalize W.alloc (.cells (ics x) 27) = W0 at B1 V1 H1 ⊢
  gi_loopw [9] (fun i wr => ∃ k : Nat, k ≤ 11 ∧ i = .int .i64 k ∧ J (4 + k) wr) (fun i _ => 11 - (intOf i).toNat)
  case atStart => exact ⟨0, Nat.zero_le _, rfl, H1.out⟩
  case round =>
    obtain ⟨k, hk, rfl, hJs⟩ := hrel
    by_cases hlt : k < 11
    · have hix := run_index_pts x.p hlt
      obtain ⟨fn, tmps, assign, body, hy, hR⟩ := HY.out (4 + k) wr (by omega) (by omega) hJs
      rw [spanN_p x hlt] at hy
      gi_wp2_with fail
      refine hR.mono ?_
      rintro e W3 ⟨rfl, hJ3⟩
      gi_wp2
      go_roundw
      case rel => exact ⟨k + 1, by omega, by congr 1, hJ3⟩
      case measure => simp [intOf]; omega
    · obtain rfl : k = 11 := by omega
      gi_wp2
      refine bodyPost_ret (results_tmp rfl _ _ _) rfl ?_
      exact ⟨rfl, hJs⟩
theorem numbers_any (x : InoV) (w : World) : Calls Try.prog 27 #[.agg (ics x)] w fun e w' => e = .returned (.func (.func 32) #[] #[.pointer (some ⟨w.heap.size, 0, none⟩)]) ∧ w' = w.alloc (.cells (ics x) 27) := by
  go_enter Try.func27, Try.ntmps27
  go_wp2
  go_ret
  exact ⟨rfl, rfl⟩
set_option maxRecDepth 100000 in
set_option maxHeartbeats 4000000 in
/-- The closure: all sixteen numbers, as long as the rounds go on. -/
theorem nums_in (F : Fence) (m l b0 : Nat) (hF : ∀ f, F.fn f) (hro : F.round = none) (hm : 2 ≤ m) (x : InoV) (hx : x.Fits) (hmay : MayI x) (J : Nat → World → Prop) (W : World) (hJ : Stays W.heap.size J)
    (hY : ∀ d k W1, k < 16 → J k W1 → YieldAt F d Try.prog l (spanN x k) W1 fun e W' => e = .returned (.bool true) ∧ J (k + 1) W') (hV : ∀ k W1, J k W1 → W.heap.size ≤ W1.heap.size ∧ IVar W1 b0 x) (h0 : J 0 W) :
    CallsIn F m Try.prog 32 #[.func (.yield l) #[] #[], .pointer (some ⟨b0, 0, none⟩)] W fun e W' => (∃ v, e = .returned v) ∧ J 16 W' := by
  have HY := Lib.hid hY
  have HV := Lib.hid hV
  have hs := hmay.small
  have w1 : IntKind.u32.wrap x.ln = x.ln := by rw [IntKind.wrap_u32]; omega
  have w2 : IntKind.u32.wrap x.sz = x.sz := by rw [IntKind.wrap_u32]; omega
  have hk := hx.kd
  have EP : Hid (∀ W1, J 4 W1 → CallsIn F (m - 1) Try.prog 33 #[.agg (ics x), .func (.yield l) #[] #[]] W1 fun e W' => e = .returned (.bool true) ∧ J 15 W') := Lib.hid fun W1 h1 =>
    each_in F (m - 1) l hF hro (by omega) x J W1 (fun k A B h hb => hJ k A B h (hb.mono (hV 4 _ h1).1)) (fun k W2 _ h15 h2 => hY _ k W2 (by omega) h2) h1
  have cells : Hid (∀ k W1, J k W1 → W1.cell? ⟨b0, 0, none⟩ = some (.int .u8 (x.kd : Nat)) ∧ W1.cell? ⟨b0, 1, none⟩ = some (.int .i64 x.ln) ∧ W1.cell? ⟨b0, 2, none⟩ = some (.int .u32 (x.gen : Nat)) ∧ W1.cell? ⟨b0, 3, none⟩ = some (.int .i64 x.sz) ∧ W1.cell? ⟨b0, 15, none⟩ = some (.int .u32 (x.nx : Nat))) :=
    Lib.hid fun k W1 h => ⟨(hV k W1 h).2.cell (ics_0 x), (hV k W1 h).2.cell (ics_1 x), (hV k W1 h).2.cell (ics_2 x), (hV k W1 h).2.cell (ics_3 x), (hV k W1 h).2.cell (ics_15 x)⟩
  have H0 := Lib.hid h0
  have FITS := Lib.hid hx
  clear hY hV hJ h0 hx hmay
  refine callsIn_of_wp Try.func32 rfl (hF _) ?_ hro
  simp only [Try.ntmps32, List.size_toArray, List.length_cons, List.length_nil, Nat.reduceAdd, Nat.reduceSub, Array.replicate_succ, Array.replicate_zero, List.push_toArray, List.append_toArray, List.nil_append, List.cons_append]
  have hm1 : 1 ≤ m := by omega
  obtain ⟨c0, c1, c2, c3, c15⟩ := cells.out _ W H0.out
  obtain ⟨fn, tmps, assign, body, hy, hR⟩ := HY.out (m - 1) 0 W (by omega) H0.out
  rw [spanN_0] at hy
  gi_wp2_with fail
  refine hR.mono ?_
  rintro e W1 ⟨rfl, q1⟩
  clear c0 c1 c2 c3 c15 hy hR
  obtain ⟨c0, c1, c2, c3, c15⟩ := cells.out _ W1 q1
  obtain ⟨fn, tmps, assign, body, hy, hR⟩ := HY.out (m - 1) 1 W1 (by omega) q1
  rw [spanN_1 x hs.1] at hy
  gi_wp2_with fail
  refine hR.mono ?_
  rintro e W2 ⟨rfl, q2⟩
  clear c0 c1 c2 c3 c15 hy hR
  obtain ⟨c0, c1, c2, c3, c15⟩ := cells.out _ W2 q2
  obtain ⟨fn, tmps, assign, body, hy, hR⟩ := HY.out (m - 1) 2 W2 (by omega) q2
  rw [spanN_2] at hy
  gi_wp2_with fail
  refine hR.mono ?_
  rintro e W3 ⟨rfl, q3⟩
  clear c0 c1 c2 c3 c15 hy hR
  obtain ⟨c0, c1, c2, c3, c15⟩ := cells.out _ W3 q3
  obtain ⟨fn, tmps, assign, body, hy, hR⟩ := HY.out (m - 1) 3 W3 (by omega) q3
  rw [spanN_3 x hs.2.2.1] at hy
  gi_wp2_with fail
  refine hR.mono ?_
  rintro e W4 ⟨rfl, q4⟩
  clear c0 c1 c2 c3 c15 hy hR
  have q4' : J 4 W4 := q4
  gi_wp2_with (first
    | (refine load_ino_on (by with_unfolding_all rfl) (.tmp 1) rfl b0 0 rfl x (HV.out _ _ q4).2.at ?_))
  refine (EP.out _ q4').mono ?_
  rintro e W5 ⟨rfl, q15⟩
  obtain ⟨c0, c1, c2, c3, c15⟩ := cells.out _ W5 q15
  obtain ⟨fn, tmps, assign, body, hy, hR⟩ := HY.out (m - 1) 15 W5 (by omega) q15
  rw [spanN_15] at hy
  gi_wp2_with fail
  refine hR.mono ?_
  rintro e W6 ⟨rfl, q16⟩
  gi_wp2
  refine bodyPost_end (results_none rfl _ _ _) rfl ?_
  exact ⟨⟨_, rfl⟩, q16⟩
theorem nums_iter (x : InoV) (hx : x.Fits) (hmay : MayI x) (w : World) (b0 m : Nat) (hm : 2 ≤ m) (V : IVar w b0 x) : IterGo Fence.wide m Try.prog 32 #[.pointer (some ⟨b0, 0, none⟩)] 16 (spanN x) b0 w := by
  intro l J W hW hJ hy h0
  have hV := V.below hW
  have hlt := hV.lt
  refine (nums_in Fence.wide m l b0 (fun _ => trivial) rfl hm x hx hmay (fun k W1 => J k W1 ∧ W.heap.size ≤ W1.heap.size ∧ IVar W1 b0 x) W (fun k A B h hb => ⟨hJ k A B h.1 hb, Nat.le_trans h.2.1 hb.size, (hb.block _ hlt).trans h.2.2⟩) (fun d k W1 hk h1 => ?_) (fun k W1 h => h.2) ⟨h0, Nat.le_refl _, hV⟩).mono fun e W' q => ⟨q.1, q.2.1⟩
  obtain ⟨fn, tmps, assign, body, e1, e2⟩ := yieldAt_wide (m' := d) (hy k W1 hk h1.1)
  exact ⟨fn, tmps, assign, body, e1, e2.mono fun e W' q => ⟨q.1, q.2.1, Nat.le_trans h1.2.1 q.2.2.size, q.2.2.same _ _ (.inl rfl) h1.2.2⟩⟩
end Go.Proofs.Ytfijagjkgmhimaa
