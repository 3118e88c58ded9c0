import Derived.Test.YtkblpildfeopiaaBitsM
import Derived.Laws.MakeOwn
import Derived.Laws.CopyOwn
namespace Go.Proofs.Ytkblpildfeopiaa
open Go.RowKit

/-! The document's own answers: a block as a list of 2048 bools. -/
@[irreducible] def barr (l : Nat → Bool) (n : Nat) : Array Value := ⟨(List.range n).map fun i => Value.bool (l i)⟩
theorem barr_size (l : Nat → Bool) (n : Nat) : (barr l n).size = n := by unfold barr; simp
theorem barr_get {l : Nat → Bool} {n i : Nat} (h : i < n) : (barr l n)[i]? = some (.bool (l i)) := by unfold barr; simp [List.getElem?_range h]
theorem barr_ext {l m : Nat → Bool} {n : Nat} (h : ∀ i, i < n → l i = m i) : barr l n = barr m n := by
  apply Array.ext_getElem?
  intro i
  by_cases hi : i < n
  · rw [barr_get hi, barr_get hi, h i hi]
  · rw [Array.getElem?_eq_none (by rw [barr_size]; omega), Array.getElem?_eq_none (by rw [barr_size]; omega)]
theorem barr_set {l : Nat → Bool} {n k : Nat} (v : Bool) : (barr l n).setIfInBounds k (.bool v) = barr (fun i => if i = k then v else l i) n := by
  apply Array.ext_getElem?
  intro i
  by_cases hi : i < n
  · rw [barr_get hi]
    by_cases e : k = i
    · subst e
      rw [Array.getElem?_setIfInBounds_self_of_lt (by rw [barr_size]; exact hi), if_pos rfl]
    · rw [Array.getElem?_setIfInBounds_ne e, barr_get hi, if_neg (fun q => e q.symm)]
  · rw [Array.getElem?_eq_none (by rw [Array.size_setIfInBounds, barr_size]; omega), Array.getElem?_eq_none (by rw [barr_size]; omega)]
theorem bool_row : (Try.prog.info? 4).map (fun i => (i.zero, i.size, i.bytes)) = some (some (.bool false), 1, 1) := by kernel_rfl
theorem make_bools (w : World) : (Instr.makeSlice 35 (.int .i64 2048) (.int .i64 2048)).run Try.prog w = .ok (.slice (some ⟨w.heap.size, 0, none⟩) 2048 2048) (w.alloc (.cells (barr (fun _ => false) 2048) 4)) := by
  obtain ⟨i, hi, hzz⟩ := Option.map_eq_some_iff.1 bool_row
  simp only [Prod.mk.injEq] at hzz
  obtain ⟨hz, hs, hb⟩ := hzz
  have hr := run_make (P := Try.prog) w 35 4 i _ Try.underlying35 hi hz .i64 .i64 2048 2048 (by omega) (by omega) (by rw [hb]; omega) (by omega)
  rw [hr, hs]
  have e : madeCells (Value.bool false).cells (2048 * 1) = barr (fun _ => false) 2048 := by
    apply Array.ext_getElem?
    intro j
    unfold madeCells
    rw [Array.getElem?_map]
    by_cases hj : j < 2048
    · rw [Array.getElem?_range, if_pos (by omega), barr_get hj]
      simp [Value.cells, Nat.mod_one]
    · rw [Array.getElem?_range, if_neg (by omega), Array.getElem?_eq_none (by rw [barr_size]; omega)]
      rfl
  show Result.ok _ (w.alloc (.cells (madeCells (Value.bool false).cells (2048 * 1)) 4)) = _
  rw [e]
  rfl
def upto (l : Nat → Bool) (k : Nat) : Nat → Bool := fun i => if i < k then l i else false
theorem upto_succ (l : Nat → Bool) (k : Nat) : (fun i => if i = k then l k else upto l k i) = upto l (k + 1) := by
  funext i
  unfold upto
  by_cases e : i = k
  · subst e; simp
  · rw [if_neg e]
    by_cases q : i < k
    · rw [if_pos q, if_pos (by omega)]
    · rw [if_neg q, if_neg (by omega)]
set_option maxRecDepth 100000 in
set_option maxHeartbeats 1000000 in
theorem rOf_any (X : Blk) (w : World) :
    Calls Try.prog 21 #[.agg (arr X)] w fun e w' => e = .returned (.slice (some ⟨w.heap.size + 1, 0, none⟩) 2048 2048) ∧ w' = (w.alloc (.cells (arr X) 23)).alloc (.cells (barr (bit X) 2048) 4) := by
  have hmk := fun W => make_bools W
  go_enter Try.func21, Try.ntmps21
  go_wp2
  go_loopw [4] (fun i wr => ∃ k : Nat, k ≤ 2048 ∧ i = .int .i64 k ∧ wr = (w.alloc (.cells (arr X) 23)).alloc (.cells (barr (upto (bit X) k) 2048) 4)) (fun i _ => 2048 - (intOf i).toNat)
  case atStart => exact ⟨0, by omega, rfl, by rw [show upto (bit X) 0 = fun _ => false from by funext i; unfold upto; simp]⟩
  case round =>
    obtain ⟨k, hk, rfl, rfl⟩ := hrel
    by_cases hlt : k < 2048
    · have hg := arr_get (x := X) (show k / 8 < 256 by omega)
      have hv := X.lt (k / 8)
      have j1 : (0 : Int) ≤ k := by omega
      have j2 : (k : Int) < 2048 := by omega
      have HB : Hid (bit X k = (X.f (k / 8) / 2 ^ (k % 8) % 2 == 1)) := Lib.hid rfl
      generalize X.f (k / 8) = v at hg hv HB
      go_wp2
      have hr8 : (k : Int) % 8 = ((k % 8 : Nat) : Int) := by omega
      have hm : k % 8 < 8 := Nat.mod_lt _ (by omega)
      generalize k % 8 = m at hr8 hm HB
      go_loopw [5, 6] (fun x i wr => ∃ q : Nat, q ≤ m ∧ i = .int .i64 q ∧ x = .int .i64 ((v / 2 ^ q : Nat) : Int) ∧ wr = (w.alloc (.cells (arr X) 23)).alloc (.cells (barr (upto (bit X) k) 2048) 4)) (fun _ i _ => m - (intOf i).toNat)
      case atStart => exact ⟨0, by omega, rfl, by rw [Nat.pow_zero, Nat.div_one], rfl⟩
      case round =>
        obtain ⟨q, hq, rfl, rfl, rfl⟩ := hrel
        have j3 : (0 : Int) ≤ q := by omega
        by_cases hql : q < m
        · have j4 : (q : Int) < m := by omega
          have HD : Hid (v / 2 ^ (q + 1) = v / 2 ^ q / 2) := Lib.hid (by rw [Nat.pow_succ, ← Nat.div_div_eq_div_mul])
          have h1 : v / 2 ^ q < 256 := by have := Nat.div_le_self v (2 ^ q); omega
          generalize v / 2 ^ q = y at HD h1 ⊢
          go_wp2
          go_roundw
          case rel => exact ⟨q + 1, by omega, by go_num, by rw [HD.out]; first | rfl | (congr 1), by trivial⟩
          case measure => simp [intOf]; omega
        · obtain rfl : q = m := by omega
          have h1 : v / 2 ^ q < 256 := by have := Nat.div_le_self v (2 ^ q); omega
          generalize v / 2 ^ q = y at HB h1 ⊢
          have hb : ((y : Int) % 2 == 1) = bit X k := by
            rw [HB.out, Bool.eq_iff_iff, beq_iff_eq, beq_iff_eq]; omega
          have hset : (barr (upto (bit X) k) 2048).setIfInBounds k (.bool (bit X k)) = barr (upto (bit X) (k + 1)) 2048 := by rw [barr_set, upto_succ]
          have hgb := barr_get (l := upto (bit X) k) hlt
          go_wp2
          go_roundw
          case rel => exact ⟨k + 1, by omega, by go_num, rfl⟩
          case measure => simp [intOf]; omega
    · obtain rfl : k = 2048 := by omega
      go_wp2
      go_ret
      exact ⟨rfl, by rw [barr_ext (l := upto (bit X) 2048) (m := bit X) fun i hi => by unfold upto; rw [if_pos hi]]⟩
end Go.Proofs.Ytkblpildfeopiaa
