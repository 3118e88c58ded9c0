import Derived.Test.YtkolpdllogpklaaSortI
import Derived.Test.YtkolpdllogpklaaInts
import Derived.Test.YtkolpdllogpklaaCaM
import Derived.Sort.OwnSortedInts
namespace Go.Proofs.Ytkolpdllogpklaa
open Go.RowKit Go.Sort Go.Shelf

theorem len0 (w : World) : Calls Try.prog 51 #[.int .u64 0] w fun e w' => e = .returned (.int .i64 0) ∧ w' = w := by
  have h := calls_of_every_depth fun D => (Any.lenWalkInAll { sortLays with } D) 0 w (by omega)
  exact h
theorem ins0 (w : World) : Calls Try.prog 53 #[.slice none 0 0, .int .i64 0, .int .i64 0] w fun e w' => e = .returned (.tuple #[]) ∧ w' = w := by
  go_enter Try.func53, Try.ntmps53
  go_wp2
  refine wp_loop_rounds 1 ?_
  rw [rounds_succ]
  go_wp2
  refine bodyPost_end (results_none Try.results53 _ _ _) rfl ⟨rfl, rfl⟩
theorem pdq0 (w : World) : Calls Try.prog 50 #[.slice none 0 0, .int .i64 0, .int .i64 0, .int .i64 0] w fun e w' => e = .returned (.tuple #[]) ∧ w' = w := by
  have L := Lib.hid (fun W => ins0 W)
  go_enter Try.func50, Try.ntmps50
  go_wp2
  refine wp_loop_rounds 1 ?_
  rw [rounds_succ]
  go_wp2_with (go_at_call 53; refine (L.out _).mono ?_; rintro e w1 ⟨rfl, rfl⟩)
  refine bodyPost_ret (results_none Try.results50 _ _ _) rfl ⟨rfl, rfl⟩
theorem sort_none (w : World) : Calls Try.prog 45 #[.slice none 0 0] w fun e w' => e = .returned (.tuple #[]) ∧ w' = w := by
  have L := Lib.hid (fun W => len0 W)
  have M := Lib.hid (fun W => pdq0 W)
  go_enter Try.func45, Try.ntmps45
  go_wp2_with (first | (go_at_call 51; refine (L.out _).mono ?_; rintro e w1 ⟨rfl, rfl⟩) | (go_at_call 50; refine (M.out _).mono ?_; rintro e w2 ⟨rfl, rfl⟩))
  refine bodyPost_end (results_none Try.results45 _ _ _) rfl ⟨rfl, rfl⟩
/-- The library's sort of a list of the call's own. -/
theorem sort_own (w : World) (base : Nat) (v : Value) (l : List Int) (h : w.ownsRow base 3 1 v l.length (iC l)) (hl : l.length ≤ 1000000) :
    Calls Try.prog 45 #[v] w fun e w' => e = .returned (.tuple #[]) ∧ w'.ownsRow base 3 1 v l.length (iC (l.mergeSort leI)) ∧ w.grownBy w' v.ownBlock := by
  rcases h.2 with ⟨rfl, h0⟩ | ⟨g, cap, cur, rfl, hb, hg, hc, hc2, hs, ht⟩
  · refine (sort_none w).mono ?_
    rintro e w' ⟨rfl, rfl⟩
    obtain rfl : l = [] := List.length_eq_zero_iff.1 h0
    exact ⟨rfl, by rw [show iC (([] : List Int).mergeSort leI) = [] by simp [iC]]; exact World.ownsRow_nil _ _ _ _, ⟨rfl, rfl, rfl, Nat.le_refl _, fun _ _ _ => rfl⟩⟩
  · rw [Nat.mul_one] at ht
    have hw : w.heap[g]?.isSome = true := by rw [hg]; rfl
    refine (calls_of_every_depth fun D => AnyS.slices_Sort_int_in sortLays D g 0 cap l w (holds_of_blockI hg ht) (Array.getElem?_eq_some_iff.1 hg).1 (by omega)).mono ?_
    rintro e w' ⟨rfl, n, os, rfl⟩
    refine ⟨rfl, ?_, grownBy_sortedI _⟩
    have := ownsRow_sortedI (os := os) (n := n) (ss := l) (ts := l.mergeSort leI) (by simp) hb hg hc hc2 hs
    exact this
end Go.Proofs.Ytkolpdllogpklaa
