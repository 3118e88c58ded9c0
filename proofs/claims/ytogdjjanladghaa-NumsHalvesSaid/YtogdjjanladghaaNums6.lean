import Derived.Test.YtogdjjanladghaaNums5
import Derived.Test.YtogdjjanladghaaNumsMath2
namespace Go.Proofs.Ytogdjjanladghaa
open Go.RowKit

set_option maxRecDepth 100000 in
set_option maxHeartbeats 1000000 in
theorem numsHalves_any (A : Option Addr) (n c : Nat) (at_ : Int) (f : Nat → Nat) (w : World) (hR : Row w A n f) (h0 : -9223372036854775808 ≤ at_) (h1 : at_ ≤ 9223372036854775807) :
    Calls Try.prog 8 #[.slice A n c, .int .i64 at_] w fun e w' => e = .returned (.bool true) ∧ Below w.heap.size w w' := by
  have HR := Lib.hid hR
  clear hR
  by_cases hn : 20000 < n
  · have d1 : decide ((20000 : Int) < n) = true := by simp; omega
    go_enter Try.func8, Try.ntmps8
    go_wp2_with (go_at_call 23; refine (awake_any _).mono ?_; rintro e w1 ⟨rfl, hB⟩)
    go_ret
    exact ⟨rfl, hB⟩
  have d1 : decide ((20000 : Int) < n) = false := by simp; omega
  by_cases ha : at_ < 0
  · go_enter Try.func8, Try.ntmps8
    go_wp2_with (go_at_call 23; refine (awake_any _).mono ?_; rintro e w1 ⟨rfl, hB⟩)
    go_ret
    exact ⟨rfl, hB⟩
  have d2 : decide (at_ < 0) = false := by simp; omega
  by_cases hb : 20000 < at_
  · have d3 : decide ((20000 : Int) < at_) = true := by simp; omega
    go_enter Try.func8, Try.ntmps8
    go_wp2_with (go_at_call 23; refine (awake_any _).mono ?_; rintro e w1 ⟨rfl, hB⟩)
    go_ret
    exact ⟨rfl, hB⟩
  have d3 : decide ((20000 : Int) < at_) = false := by simp; omega
  have ha' : 0 ≤ at_ := by omega
  obtain ⟨a, rfl⟩ := Int.eq_ofNat_of_zero_le ha'
  clear h0 h1 ha ha'
  by_cases hin : a + 4 ≤ n
  · have v0 := g16_lt HR.out.1 a
    have v1 := g16_lt HR.out.1 (a + 2)
    have E := g32_halves f a
    obtain ⟨x, hx⟩ : ∃ x : Int, ((g16 f a : Nat) : Int) = x := ⟨_, rfl⟩
    obtain ⟨y, hy⟩ : ∃ y : Int, ((g16 f (a + 2) : Nat) : Int) = y := ⟨_, rfl⟩
    rw [hx, hy] at E
    have x0 : 0 ≤ x := by omega
    have x1 : x < 65536 := by omega
    have y0 : 0 ≤ y := by omega
    have y1 : y < 65536 := by omega
    have EH := Lib.hid E
    have HX := Lib.hid hx
    have HY := Lib.hid hy
    clear E hx hy v0 v1
    go_enter Try.func8, Try.ntmps8
    go_wp2_with (go_at_call 23; refine (awake_any _).mono ?_; rintro e w1 ⟨rfl, hB⟩; have HR1 := Lib.hid (HR.out.below hB); have HB := Lib.hid hB; clear hB)
    refine (Get32_yes _ _ _ _ f _ (by omega) HR1.out (by omega) (by omega)).mono ?_
    rintro e w' ⟨rfl, rfl⟩
    rw [Int.toNat_natCast, EH.out]
    go_wp2_with fail
    refine (Get16_yes _ _ _ _ f _ (by omega) HR1.out (by omega) (by omega)).mono ?_
    rintro e w' ⟨rfl, rfl⟩
    rw [Int.toNat_natCast, HX.out]
    go_wp2_with fail
    refine (Get16_yes _ _ _ _ f _ (by omega) HR1.out (by omega) (by omega)).mono ?_
    rintro e w' ⟨rfl, rfl⟩
    rw [show ((a : Int) + 2).toNat = a + 2 from by omega, HY.out]
    have t1 : ((x + 65536 * y : Int) == x + 65536 * y) = true := by simp
    go_wp2_with fail
    go_ret
    exact ⟨rfl, HB.out⟩
  by_cases hin2 : a + 2 ≤ n
  · go_enter Try.func8, Try.ntmps8
    go_wp2_with (go_at_call 23; refine (awake_any _).mono ?_; rintro e w1 ⟨rfl, hB⟩; have HR1 := Lib.hid (HR.out.below hB); have HB := Lib.hid hB; clear hB)
    refine (Get32_no _ _ _ _ _ (by omega) (by omega)).mono ?_
    rintro e w' ⟨rfl, rfl⟩
    go_wp2_with fail
    refine (Get16_yes _ _ _ _ f _ (by omega) HR1.out (by omega) (by omega)).mono ?_
    rintro e w' ⟨rfl, rfl⟩
    rw [Int.toNat_natCast]
    go_wp2_with fail
    refine (Get16_no _ _ _ _ _ (by omega) (by omega)).mono ?_
    rintro e w' ⟨rfl, rfl⟩
    go_wp2_with fail
    go_ret
    exact ⟨rfl, HB.out⟩
  · go_enter Try.func8, Try.ntmps8
    go_wp2_with (go_at_call 23; refine (awake_any _).mono ?_; rintro e w1 ⟨rfl, hB⟩; have HR1 := Lib.hid (HR.out.below hB); have HB := Lib.hid hB; clear hB)
    refine (Get32_no _ _ _ _ _ (by omega) (by omega)).mono ?_
    rintro e w' ⟨rfl, rfl⟩
    go_wp2_with fail
    refine (Get16_no _ _ _ _ _ (by omega) (by omega)).mono ?_
    rintro e w' ⟨rfl, rfl⟩
    go_wp2_with fail
    refine (Get16_no _ _ _ _ _ (by omega) (by omega)).mono ?_
    rintro e w' ⟨rfl, rfl⟩
    go_wp2_with fail
    go_ret
    exact ⟨rfl, HB.out⟩

end Go.Proofs.Ytogdjjanladghaa
