import Derived.Test.YtnneppkkmhjpbaaPaA
import Derived.Test.YtnneppkkmhjpbaaIterX
import Derived.Shelf.Abstract
import Derived.LoopIn
import Derived.Deep.DeepCutAuto
import Derived.Deep.CutRange
namespace Go.Proofs.Ytnneppkkmhjpbaa
open Go.RowKit Go.Shelf Go.BigFrame
attribute [local go_sem] Oper.semAt_some

/-! The program's own pointers, one behind the other. -/
structure PtrV where
  num : Int
  lev : Int
  fst : Int
  spn : Int
def pcs (p : PtrV) : Array Value := #[.int .i64 p.num, .int .i64 p.lev, .int .i64 p.fst, .int .i64 p.spn]
def zeroP : PtrV := ⟨0, 0, 0, 0⟩
def begN (k : Nat) : Int := if k ≤ 8 then k else if k = 9 then 72 else if k = 10 then 4168 else 266312
def ptrN (k : Nat) : PtrV := ⟨k, levelN k, begN k, spanN (levelN k)⟩
theorem ptr_low {k : Nat} (h : k ≤ 7) : ptrN k = ⟨k, 0, k, 1⟩ := by
  unfold ptrN
  rw [show levelN (k : Int) = 0 by unfold levelN; rw [if_pos (by omega)], show begN k = k by unfold begN; rw [if_pos (by omega)]]
  rfl
theorem beg_next {k : Nat} (h : k < 11) : begN k + (ptrN k).spn = begN (k + 1) := by
  rcases (by omega : k ≤ 7 ∨ k = 8 ∨ k = 9 ∨ k = 10) with q | rfl | rfl | rfl
  · rw [ptr_low q]
    show begN k + 1 = _
    unfold begN
    rw [if_pos (by omega), if_pos (by omega)]; omega
  · rfl
  · rfl
  · rfl
theorem lev_max {k : Nat} (h : k < 11) : max ((k : Int) - 7) 0 = levelN k := by
  rcases (by omega : k ≤ 7 ∨ k = 8 ∨ k = 9 ∨ k = 10) with q | rfl | rfl | rfl
  · unfold levelN
    rw [if_pos (by omega)]
    omega
  · rfl
  · rfl
  · rfl
theorem ptr_fits {k : Nat} (h : k < 11) : (ptrN k).num = k ∧ 0 ≤ (ptrN k).lev ∧ (ptrN k).lev ≤ 3 ∧ 0 ≤ (ptrN k).fst ∧ (ptrN k).fst ≤ 4168 ∧ 1 ≤ (ptrN k).spn ∧ (ptrN k).spn ≤ 262144 := by
  rcases (by omega : k ≤ 7 ∨ k = 8 ∨ k = 9 ∨ k = 10) with q | rfl | rfl | rfl
  · rw [ptr_low q]; simp; omega
  · decide
  · decide
  · decide
set_option maxRecDepth 100000 in
set_option maxHeartbeats 1000000 in
theorem pSpan (p : Int) (w : World) : Calls Try.prog 18 #[.int .i64 p] w fun e w' => e = .returned (.int .i64 (spanN p)) ∧ w' = w := by
  by_cases h0 : 0 ≤ p
  rotate_left
  · have E := Lib.hid (show spanN p = 0 by unfold spanN; rw [if_neg (by omega), if_neg (by omega), if_neg (by omega), if_neg (by omega)])
    have d0 : decide (p < 0) = true := by simp; omega
    go_enter Try.func18, Try.ntmps18
    go_wp2
    go_ret
    exact ⟨by rw [E.out]; rfl, rfl⟩
  have d0 : decide (p < 0) = false := by simp; omega
  by_cases h3 : p ≤ 3
  rotate_left
  · have E := Lib.hid (show spanN p = 0 by unfold spanN; rw [if_neg (by omega), if_neg (by omega), if_neg (by omega), if_neg (by omega)])
    have d3 : decide (3 < p) = true := by simp; omega
    go_enter Try.func18, Try.ntmps18
    go_wp2
    go_ret
    exact ⟨by rw [E.out]; rfl, rfl⟩
  have d3 : decide (3 < p) = false := by simp; omega
  go_enter Try.func18, Try.ntmps18
  go_wp2_with fail
  go_loop [3, 11] (fun nv iv => ∃ k : Nat, (k : Int) ≤ p ∧ iv = .int .i64 k ∧ nv = .int .i64 (spanN k)) (fun _ iv => 4 - (intOf iv).toNat)
  case atStart => exact ⟨0, by omega, rfl, rfl⟩
  case round =>
    obtain ⟨k, hk, rfl, rfl⟩ := hrel
    by_cases hlt : (k : Int) < p
    · have t1 : decide ((k : Int) < p) = true := decide_eq_true hlt
      have HX := Lib.hid (show spanN k * 64 = spanN (k + 1 : Nat) by rcases (by omega : k = 0 ∨ k = 1 ∨ k = 2) with rfl | rfl | rfl <;> rfl)
      have HB : 0 ≤ spanN k ∧ spanN k ≤ 4096 := by rcases (by omega : k = 0 ∨ k = 1 ∨ k = 2) with rfl | rfl | rfl <;> decide
      generalize spanN k = v at HX HB ⊢
      go_wp2
      refine ⟨⟨k + 1, by omega, by go_num, by rw [← HX.out]; try go_num⟩, ?_⟩
      simp [intOf]; omega
    · have t1 : decide ((k : Int) < p) = false := decide_eq_false hlt
      have HE := Lib.hid (show (k : Int) = p by omega)
      go_wp2
      go_ret
      exact ⟨by rw [← HE.out]; rfl, rfl⟩
theorem ptr_info : (Try.prog.info? 42).map (·.size) = some 4 := by kernel_rfl
theorem ptr_size (p : PtrV) : (Try.prog.info? 42).map (·.size) = some (pcs p).size := by rw [ptr_info]; rfl
theorem pcs_one (p : PtrV) : (pcs p).all (·.oneCell') = true := by simp [pcs, Value.oneCell']
set_option maxRecDepth 100000 in
set_option maxHeartbeats 2000000 in
theorem pointers_in (F : Fence) (m : Nat) (hF : ∀ f, F.fn f) (hro : F.round = none) (hm : 2 ≤ m) (lift : Hid (∀ n f args W R, Calls Try.prog f args W R → CallsIn F n Try.prog f args W R)) (l b0 : Nat) (J Jx : Nat → World → Prop) (W : World) (hJ : Stays W.heap.size J)
    (hy : ∀ k W1, k < 11 → J k W1 → YieldAt F (m - 1) Try.prog l #[.agg (pcs (ptrN k))] W1 fun e W' => (e = .returned (.bool true) ∧ J (k + 1) W' ∧ Kept b0 W.heap.size W1 W') ∨ (e = .returned (.bool false) ∧ Jx k W'))
    (h0 : J 0 W) : CallsIn F m Try.prog 30 #[.func (.yield l) #[] #[]] W fun e W' => (∃ v, e = .returned v) ∧ (J 11 W' ∨ ∃ k, k < 11 ∧ Jx k W') := by
  have HY := Lib.hid hy
  have HJ := Lib.hid hJ
  have H0 := Lib.hid h0
  have HF := Lib.hid hF
  clear hy hJ h0
  have hm1 : 1 ≤ m := by omega
  have hm3 : 1 ≤ m - 1 := by omega
  refine callsIn_of_wp Try.func30 rfl (hF _) ?_ hro
  simp only [Try.ntmps30, List.size_toArray, List.length_cons, List.length_nil, Nat.reduceAdd, Nat.reduceSub, Array.replicate_succ, Array.replicate_zero, List.push_toArray, List.append_toArray, List.nil_append, List.cons_append]
  gi_wp2_with fail
  gi_loopw [2, 6] (fun fv iv wr => ∃ k : Nat, k ≤ 11 ∧ fv = .int .i64 (begN k) ∧ iv = .int .i64 k ∧ Hid (J k wr) ∧ Hid (W.heap.size ≤ wr.heap.size)) (fun _ iv _ => 11 - (intOf iv).toNat)
  case atStart => exact ⟨0, by omega, rfl, rfl, H0, Lib.hid (Nat.le_refl _)⟩
  case round =>
    obtain ⟨k, hk, rfl, rfl, hJk, hsz⟩ := hrel
    by_cases hlt : k < 11
    rotate_left
    · obtain rfl : k = 11 := by omega
      gi_wp2_with fail
      refine bodyPost_end (results_none rfl _ _ _) rfl ?_
      exact ⟨⟨_, rfl⟩, .inl hJk.out⟩
    · have t1 : decide ((k : Int) < 11) = true := decide_eq_true (by omega)
      have hfit := ptr_fits hlt
      have hnx := beg_next hlt
      have hlv := lev_max hlt
      have HYk : Hid (∀ W1, J k W1 → YieldAt F (m - 1) Try.prog l #[.agg (pcs (ptrN k))] W1 fun e W' => (e = .returned (.bool true) ∧ J (k + 1) W' ∧ Kept b0 W.heap.size W1 W') ∨ (e = .returned (.bool false) ∧ Jx k W')) := Lib.hid fun W1 h => HY.out k W1 hlt h
      have CS : Hid (∀ W', Calls Try.prog 18 #[.int .i64 (levelN k)] W' fun e w' => e = .returned (.int .i64 (spanN (levelN k))) ∧ w' = W') := Lib.hid fun W' => pSpan _ W'
      unfold ptrN at hfit hnx HYk
      simp only at hfit hnx
      generalize spanN (levelN k) = sp at hfit hnx HYk CS
      generalize levelN (k : Int) = lv at hfit hnx HYk CS hlv
      generalize begN k = fb at hfit hnx HYk ⊢
      obtain ⟨-, g1, g2, g3, g4, g5, g6⟩ := hfit
      have HNX := Lib.hid hnx
      clear hnx HY
      rcases (by omega : ((k : Int) - 7 < 0 ∧ lv = 0) ∨ (0 ≤ (k : Int) - 7 ∧ lv = k - 7)) with ⟨hc, rfl⟩ | ⟨hc, rfl⟩ <;> clear hlv
      · gi_wp2_with (gi_at_call 18; with_reducible refine (lift.out _ _ _ _ _ (CS.out _)).mono ?_; rintro e w2 ⟨rfl, rfl⟩)
        have hb := below_newI w2 (.cells (pcs ⟨k, 0, fb, sp⟩) 42)
        have hn := heap_alloc_new w2 (.cells (pcs ⟨k, 0, fb, sp⟩) 42)
        obtain ⟨fn', tmps, assign, body, hy, hR⟩ := HYk.out (w2.alloc (.cells (pcs ⟨k, 0, fb, sp⟩) 42)) (HJ.out _ _ _ hJk.out (hb.mono hsz.out))
        have hy2 : (Instr.yield l #[.agg #[.int .i64 k, .int .i64 (0), .int .i64 fb, .int .i64 sp]]).run Try.prog (w2.alloc (.cells #[.int .i64 k, .int .i64 (0), .int .i64 fb, .int .i64 sp] 42)) = _ := hy
        rw [hy2]
        refine ⟨fun _ => hm1, hR.mono ?_⟩
        have HB := Lib.hid (And.intro hb hn)
        clear hy hy2 hR hb hn
        rintro e W3 (⟨rfl, hJ3, hk3⟩ | ⟨rfl, hJx3⟩)
        · have J3 := Lib.hid hJ3
          have hc3 := hk3.same w2.heap.size _ (.inr hsz.out) HB.out.2
          have S3 := Lib.hid (Nat.le_trans hsz.out (Nat.le_trans HB.out.1.size hk3.size))
          have x3 : W3.cell? ⟨w2.heap.size, 3, none⟩ = some (.int .i64 sp) := (cell_of_row W3 _ 3 _ _ _ hc3).trans rfl
          clear hJ3 hk3 hc3
          gi_wp2
          refine ⟨?_, ?_⟩
          · repeat apply Exists.intro
            exact ⟨⟨k + 1, by omega, by rw [← HNX.out], by go_num, J3, S3⟩, rfl⟩
          · show 11 - (k + 1 : Int).toNat < 11 - (k : Int).toNat
            omega
        · have JX := Lib.hid hJx3
          clear hJx3
          gi_wp2
          refine bodyPost_ret (results_none rfl _ _ _) rfl ?_
          exact ⟨⟨_, rfl⟩, .inr ⟨k, hlt, JX.out⟩⟩
      · gi_wp2_with (gi_at_call 18; with_reducible refine (lift.out _ _ _ _ _ (CS.out _)).mono ?_; rintro e w2 ⟨rfl, rfl⟩)
        have hb := below_newI w2 (.cells (pcs ⟨k, k - 7, fb, sp⟩) 42)
        have hn := heap_alloc_new w2 (.cells (pcs ⟨k, k - 7, fb, sp⟩) 42)
        obtain ⟨fn', tmps, assign, body, hy, hR⟩ := HYk.out (w2.alloc (.cells (pcs ⟨k, k - 7, fb, sp⟩) 42)) (HJ.out _ _ _ hJk.out (hb.mono hsz.out))
        have hy2 : (Instr.yield l #[.agg #[.int .i64 k, .int .i64 (k - 7), .int .i64 fb, .int .i64 sp]]).run Try.prog (w2.alloc (.cells #[.int .i64 k, .int .i64 (k - 7), .int .i64 fb, .int .i64 sp] 42)) = _ := hy
        rw [hy2]
        refine ⟨fun _ => hm1, hR.mono ?_⟩
        have HB := Lib.hid (And.intro hb hn)
        clear hy hy2 hR hb hn
        rintro e W3 (⟨rfl, hJ3, hk3⟩ | ⟨rfl, hJx3⟩)
        · have J3 := Lib.hid hJ3
          have hc3 := hk3.same w2.heap.size _ (.inr hsz.out) HB.out.2
          have S3 := Lib.hid (Nat.le_trans hsz.out (Nat.le_trans HB.out.1.size hk3.size))
          have x3 : W3.cell? ⟨w2.heap.size, 3, none⟩ = some (.int .i64 sp) := (cell_of_row W3 _ 3 _ _ _ hc3).trans rfl
          clear hJ3 hk3 hc3
          gi_wp2
          refine ⟨?_, ?_⟩
          · repeat apply Exists.intro
            exact ⟨⟨k + 1, by omega, by rw [← HNX.out], by go_num, J3, S3⟩, rfl⟩
          · show 11 - (k + 1 : Int).toNat < 11 - (k : Int).toNat
            omega
        · have JX := Lib.hid hJx3
          clear hJx3
          gi_wp2
          refine bodyPost_ret (results_none rfl _ _ _) rfl ?_
          exact ⟨⟨_, rfl⟩, .inr ⟨k, hlt, JX.out⟩⟩
/-- What the program's pointers promise a loop over them. -/
theorem ptr_iter (w : World) (b0 m : Nat) : IterSays Fence.wide m Try.prog 30 #[] 11 (fun k => #[.agg (pcs (ptrN k))]) b0 w := by
  intro l J Jx W hW hJ hJx hy h0
  exact callsIn_wide.2 (callsIn_wide.1 (pointers_in Fence.wide (m + 2) (fun _ => trivial) rfl (by omega) (Lib.hid fun _ _ _ _ _ h => callsIn_wide.2 h) l b0 J Jx W hJ (fun k W1 hk hj => yieldAt_wide (hy k W1 hk hj)) h0))
end Go.Proofs.Ytnneppkkmhjpbaa
