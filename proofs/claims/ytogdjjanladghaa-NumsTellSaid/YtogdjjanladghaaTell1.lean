import Derived.Test.YtogdjjanladghaaNums8
import Derived.Test.YtogdjjanladghaaNumsMath2
import Derived.RangeFuncNested
import Derived.RangeFuncBound
import Derived.RangeFuncCalls
import Derived.RangeFuncLeaves
import Derived.Shelf.Abstract
import Derived.Shelf.RegionOpen
import Derived.OwnWalkIn
import Derived.TacticsInMore
import Derived.LoopNIn
import Derived.LoopIn
namespace Go.Proofs.Ytogdjjanladghaa
open Go.RowKit Go.Shelf
attribute [local go_sem] Oper.semAt_some

set_option maxRecDepth 100000 in
set_option maxHeartbeats 1000000 in
/-- The closure that Tell hands out: the numbers of b, one behind the other, for every loop body that keeps what lay below n₀. -/
theorem tell1_in (F : Fence) (m : Nat) (hF : F.fn 28) (hG : F.fn 12) (hW : F.fn 29) (hro : F.round = none) (hm : 1 ≤ m)
    (lift : ∀ (k g : Nat) (args : Array Value) (w : World) (R : Ending → World → Prop), Calls Try.prog g args w R → CallsIn F k Try.prog g args w R)
    (l Bs n₀ : Nat) (A : Option Addr) (n c : Nat) (f : Nat → Nat) (hn : n ≤ 20000) (J Jx : List Nat → World → Prop)
    (hY : ∀ pre (x : Nat) W, J pre W → pre.length < n / 4 → YieldAt F (m - 1) Try.prog l #[.int .i64 (4 * (x : Int)), .int .u32 ((g32 f (4 * x) : Nat) : Int)] W fun e W' =>
      (e = .returned (.bool true) ∧ J (pre ++ [x]) W' ∧ Below n₀ W W') ∨ (e = .returned (.bool false) ∧ Jx (pre ++ [x]) W'))
    (W : World) (hBox : ∀ W', Below n₀ W W' → W'.cell? ⟨Bs, 0, none⟩ = some (.slice A n c)) (hRow : ∀ W', Below n₀ W W' → Row W' A n f) (h0 : J [] W) :
    CallsIn F m Try.prog 28 #[.func (.yield l) #[] #[], .pointer (some ⟨Bs, 0, none⟩)] W fun e W' => (∃ v, e = .returned v) ∧
      ((∃ ys, ys = List.range (n / 4) ∧ J ys W') ∨ (∃ pre, (∃ k, k ≤ n / 4 ∧ pre = List.range k) ∧ Jx pre W')) := by
  have HY := Lib.hid hY
  have HB := Lib.hid hBox
  have HR := Lib.hid hRow
  have HL := Lib.hid lift
  clear hY hBox hRow lift
  refine callsIn_of_wp Try.func28 rfl hF ?_ hro
  simp only [Try.ntmps28, List.size_toArray, List.length_cons, List.length_nil, Nat.reduceAdd, Nat.reduceSub, Array.replicate_succ, Array.replicate_zero, List.push_toArray, List.append_toArray, List.nil_append, List.cons_append]
  gi_wp2
  gi_loopw [3] (fun i wr => ∃ k : Nat, k ≤ n / 4 ∧ i = .int .i64 (4 * (k : Int)) ∧ J (List.range k) wr ∧ Below n₀ W wr) (fun i _ => n - (intOf i).toNat)
  case atStart => exact ⟨0, Nat.zero_le _, rfl, h0, Below.refl _ _⟩
  case round =>
    obtain ⟨k, hk, rfl, hJs, hnx⟩ := hrel
    have hb := HB.out _ hnx
    have hr := Lib.hid (HR.out _ hnx)
    by_cases hlt : k < n / 4
    · obtain ⟨fn, tmps, assign, body, hy, hR⟩ := HY.out _ k wr hJs (by rw [List.length_range]; exact hlt)
      gi_wp2_with (gi_at_call 12; refine (HL.out _ _ _ _ _ (Get32_yes _ _ _ _ f _ (by omega) hr.out (by omega) (by omega))).mono ?_; rintro e w' ⟨rfl, rfl⟩)
      refine hR.mono ?_
      rintro e W3 (⟨rfl, hJ3, hk3⟩ | ⟨rfl, hJx3⟩)
      · gi_wp2_with (gi_at_call 29; refine (HL.out _ _ _ _ _ (w32_any _)).mono ?_; rintro e w' ⟨rfl, rfl⟩)
        go_roundw
        case rel => exact ⟨k + 1, by omega, by congr 1, by rw [List.range_succ]; exact hJ3, hnx.trans hk3⟩
        case measure => simp [intOf]; omega
      · gi_wp2
        refine bodyPost_ret (results_none rfl _ _ _) rfl ?_
        exact ⟨⟨_, rfl⟩, .inr ⟨_, ⟨k + 1, by omega, by rw [List.range_succ]⟩, hJx3⟩⟩
    · obtain rfl : k = n / 4 := by omega
      gi_wp2_with (gi_at_call 12; refine (HL.out _ _ _ _ _ (Get32_no _ _ _ _ _ (by omega) (by omega))).mono ?_; rintro e w' ⟨rfl, rfl⟩)
      refine ⟨fun _ h => (by cases h), ?_⟩
      gi_wp2
      refine bodyPost_ret (results_none rfl _ _ _) rfl ?_
      exact ⟨⟨_, rfl⟩, .inl ⟨_, rfl, hJs⟩⟩

theorem fn_ne_nil (fn : Fn) (a b : Array Value) (w : World) : (binOp .eql 31 (.func fn a b) .nilFunc).run Try.prog w = .ok (.bool false) w := by
  have h : ∀ d : Nat, (Op.equalIn (d + 1) 31 (.func fn a b) .nilFunc).run Try.prog w = .ok false w := fun d => by simp [Op.equalIn, run_underlying Try.underlying31]
  simp only [binOp]
  simp [Op.equal, Op.maxDepth, h 9999]

/-- Tell boxes the bytes and hands out the closure. -/
theorem tell_any (A : Option Addr) (n c : Nat) (w : World) :
    Calls Try.prog 22 #[.slice A n c] w fun e w' => e = .returned (.func (.func 28) #[] #[.pointer (some ⟨w.heap.size, 0, none⟩)]) ∧ w' = w.alloc (.cells #[.slice A n c] 22) := by
  go_enter Try.func22, Try.ntmps22
  go_wp2
  go_ret
  exact ⟨rfl, rfl⟩

/-- What Tell hands out may be ranged over. -/
theorem tell_stops (F : Fence) (m : Nat) (hF : F.fn 28) (hG : F.fn 12) (hW : F.fn 29) (hro : F.round = none) (hm : 1 ≤ m)
    (lift : ∀ (k g : Nat) (args : Array Value) (w : World) (R : Ending → World → Prop), Calls Try.prog g args w R → CallsIn F k Try.prog g args w R)
    (Bs n₀ : Nat) (A : Option Addr) (n c : Nat) (f : Nat → Nat) (hn : n ≤ 20000) (w : World) (hn₀ : n₀ ≤ w.heap.size)
    (hBox : ∀ W', Below n₀ w W' → W'.cell? ⟨Bs, 0, none⟩ = some (.slice A n c)) (hRow : ∀ W', Below n₀ w W' → Row W' A n f) :
    SeqStopsK F m Try.prog 28 #[.pointer (some ⟨Bs, 0, none⟩)] (fun x : Nat => #[Value.int .i64 (4 * (x : Int)), Value.int .u32 ((g32 f (4 * x) : Nat) : Int)]) (Below n₀) (fun ys => ys = List.range (n / 4))
      (fun pre => ∃ k, k ≤ n / 4 ∧ pre = List.range k) (n / 4) w := fun l J Jx W hW' _ _ hY h0 =>
  tell1_in F m hF hG hW hro hm lift l Bs n₀ A n c f hn J Jx hY W (fun W' h => hBox W' ((hW'.mono hn₀).trans h)) (fun W' h => hRow W' ((hW'.mono hn₀).trans h)) h0

end Go.Proofs.Ytogdjjanladghaa
