import Derived.Test.YtnneppkkmhjpbaaPaW
namespace Go.Proofs.Ytnneppkkmhjpbaa
open Go.RowKit

/-! PathsIndex. -/
set_option maxRecDepth 100000 in
set_option maxHeartbeats 4000000 in
theorem paIndex (hS : PaSays) (p : Int) (A : Option Addr) (c : Nat) (l : List Int) (w : World) (hp : I64 p) (hl : ∀ x ∈ l, I64 x) (hA : IntsAt w A l) : Calls Try.prog 4 #[.int .i64 p, .slice A l.length c] w fun e w' => e = .returned (.bool true) ∧ Below w.heap.size w w' := by
  by_cases h : l.length ≤ 1000
  rotate_left
  · have d1 : decide ((1000 : Int) < (l.length : Int)) = true := by simp; omega
    have e1 : (1000 : Int) < (l.length : Int) := by omega
    clear hS hA
    go_enter Try.func4, Try.ntmps4
    go_wp2_with fail
    go_ret
    exact ⟨rfl, Below.refl _ _⟩
  have d1 : decide ((1000 : Int) < (l.length : Int)) = false := by simp; omega
  have e1 : ¬ (1000 : Int) < (l.length : Int) := by omega
  have hb0 := fun W => run_buildI0 W
  have C1 := Lib.hid fun A c W (q : IntsAt W A l) => hS.index p A c l W hp h hl q
  have C2 := Lib.hid fun A c W (q : IntsAt W A l) => rIndex p A c l W h q
  have SM := Lib.hid fun A B c c' W (q : IntsAt W A l) (r : IntsAt W B l) => rSame A B c c' l l W h q r
  simp only [decide_true] at SM
  generalize (indexN p l).1 = i at C1 C2
  generalize (indexN p l).2 = f at C1 C2
  have H := Lib.hid hA
  have LL := Lib.hid h
  obtain ⟨it, hit, hzz⟩ := Option.map_eq_some_iff.1 int_info3
  simp only [Prod.mk.injEq] at hzz
  obtain ⟨hz0, hz1, hz2⟩ := hzz
  have TZ0 := Lib.hid hz0
  have TZ1 := Lib.hid hz1
  have TZ2 := Lib.hid hz2
  have TI := Lib.hid hit
  clear hz0 hz1 hz2 hit hS hp hl hA h
  go_enter Try.func4, Try.ntmps4
  go_upto_region 4 with (at_builtin; refine at_append_list _ rfl (.tmp 13) (.tmp 14) 22 rfl w.heap.size 3 it _ 1 8 Try.underlying22 TI.out TZ0.out TZ1.out TZ2.out (by rfl) (by omega) (by omega) (.slice (some ⟨w.heap.size, 0, none⟩) 0 0) 0 [] (by rfl) (own_none _ _ (Nat.le_refl _)) A l.length c (iC l) (by rfl) (iC_length l) (ints_cells (H.out.below (below_newI w _))) (iC_one l) (by have := LL.out; omega) (by simp) ?_; intro v3 w3 hown hgrow; have B3 := Lib.hid (low_app hgrow); rw [List.nil_append, Nat.zero_add] at hown; obtain ⟨A2, c2, rfl, _, hT⟩ := own_ints hown rfl; have T3 := Lib.hid hT; have H3 := Lib.hid (H.out.below B3.out); clear hown hgrow hT)
  clear hb0 TZ0 TZ1 TZ2 TI
  go_wp2_with (first
    | (go_at_call 26; with_reducible refine (C1.out _ _ _ T3.out).mono ?_; rintro e w4 ⟨rfl, hb⟩; replace B3 := Lib.hid (low_go B3.out hb); replace T3 := Lib.hid (T3.out.below hb); replace H3 := Lib.hid (H3.out.below hb); clear hb)
    | (go_at_call 27; with_reducible refine (C2.out _ _ _ H3.out).mono ?_; rintro e w5 ⟨rfl, hb⟩; replace B3 := Lib.hid (low_go B3.out hb); replace T3 := Lib.hid (T3.out.below hb); replace H3 := Lib.hid (H3.out.below hb); clear hb)
    | (go_at_call 15; with_reducible refine (SM.out _ _ _ _ _ T3.out H3.out).mono ?_; rintro e w6 ⟨rfl, hb⟩; replace B3 := Lib.hid (low_go B3.out hb); clear hb))
  go_ret
  exact ⟨rfl, B3.out⟩
end Go.Proofs.Ytnneppkkmhjpbaa
