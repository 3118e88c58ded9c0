import Derived.Test.YtjiooadakklmlaaJbQ1
import Derived.Test.YtjiooadakklmlaaJbS
namespace Go.Proofs.Ytjiooadakklmlaa
open Go.RowKit

/-! The document's own: a block out of numbers. -/
def partB (l : List Nat) (k : Nat) : Blk := numB fun j => if j < k then l.getD j 0 else 0
theorem getD_small {l : List Nat} (h : Small32 l) (k : Nat) : l.getD k 0 < 4294967296 := by
  rw [List.getD_eq_getElem?_getD]
  rcases e : l[k]? with _ | v
  · exact Nat.zero_lt_succ _
  · exact h v (List.mem_of_getElem? e)
theorem partB_num {l : List Nat} (h : Small32 l) {k j : Nat} (hj : j < 64) : num (partB l k) j = if j < k then l.getD j 0 else 0 := by
  unfold partB
  refine num_numB hj ?_
  split
  · exact getD_small h _
  · exact Nat.zero_lt_succ _
theorem partB_0 {l : List Nat} (h : Small32 l) : partB l 0 = .zero := num_ext fun j hj => by
  rw [partB_num h hj, if_neg (by omega), num_zero]
theorem partB_next {l : List Nat} (h : Small32 l) {k : Nat} (hk : k < 64) : putB32 (partB l k) (4 * k) (l.getD k 0) = partB l (k + 1) := num_ext fun j hj => by
  rw [num_put hk (getD_small h k), partB_num h hj, partB_num h hj]
  by_cases e : j = k
  · subst e; rw [if_pos rfl, if_pos (by omega)]
  · rw [if_neg e]
    by_cases q : j < k
    · rw [if_pos q, if_pos (by omega)]
    · rw [if_neg q, if_neg (by omega)]
theorem partB_end {l : List Nat} (h : Small32 l) : partB l l.length = listB l := num_ext fun j hj => by
  rw [partB_num h hj, num_list h hj]
  by_cases q : j < l.length
  · rw [if_pos q]
  · rw [if_neg q, getD_past (by omega)]
set_option maxRecDepth 100000 in
set_option maxHeartbeats 4000000 in
theorem rBlock (A : Option Addr) (c : Nat) (l : List Nat) (w : World) (hl : l.length ≤ 64) (hs : Small32 l) (hN : NumsAt w A l) : Calls Try.prog 40 #[.slice A l.length c] w fun e w' => e = .returned (.agg (arr (listB l))) ∧ Below w.heap.size w w' := by
  have hz := fun W => zero_blk W
  have R := Lib.hid (show BVar ((w.alloc (.cells (arr .zero) 28)).alloc (.cells (arr .zero) 28)) w.heap.size .zero from BVar.below (heap_alloc_new w _) (below_new _ _))
  have V := Lib.hid (show BVar ((w.alloc (.cells (arr .zero) 28)).alloc (.cells (arr .zero) 28)) (w.heap.size + 1) (partB l 0) from by rw [partB_0 hs]; exact heap_alloc2_new w _ _)
  have B := Lib.hid (show Below w.heap.size w ((w.alloc (.cells (arr .zero) 28)).alloc (.cells (arr .zero) 28)) from low_go (below_new w _) (below_new _ _))
  have H := Lib.hid hN
  have HS := Lib.hid hs
  clear hN hs
  go_enter Try.func40, Try.ntmps40
  go_upto_region 2 with fail
  generalize (w.alloc (.cells (arr .zero) 28)).alloc (.cells (arr .zero) 28) = w1 at R V B ⊢
  clear hz
  go_wp2_with fail
  go_loopw [4] (fun kv wr => ∃ k : Nat, k ≤ l.length ∧ kv = .int .i64 k ∧ Hid (BVar wr w.heap.size .zero) ∧ Hid (BVar wr (w.heap.size + 1) (partB l k)) ∧ Hid (Below w.heap.size w wr)) (fun kv _ => l.length - (intOf kv).toNat)
  case atStart => exact ⟨0, Nat.zero_le _, rfl, R, V, B⟩
  case round =>
    obtain ⟨k, hk, rfl, R2, V2, B2⟩ := hrel
    clear R V B
    by_cases hlt : k < l.length
    · obtain ⟨b, o, rfl, hb, hc⟩ := (H.out.below B2.out) (by omega)
      obtain ⟨v, hv⟩ : ∃ v, l[k]? = some v := ⟨l[k], List.getElem?_eq_getElem hlt⟩
      have hvd : l.getD k 0 = v := by rw [List.getD_eq_getElem?_getD, hv]; rfl
      have d0 := hc k v hv
      have vlt : v < 4294967296 := by rw [← hvd]; exact getD_small HS.out k
      have PN := Lib.hid (partB_next HS.out (k := k) (by omega))
      rw [hvd] at PN
      have k0 : (0 : Int) ≤ (k : Int) := by omega
      have k1 : (k : Int) < (l.length : Int) := by omega
      have w4 : IntKind.i64.wrap (4 * (k : Int)) = 4 * (k : Int) := by rw [IntKind.wrap_i64]; omega
      have CQ : Hid (∀ W, BVar W (w.heap.size + 1) (partB l k) → Calls Try.prog 53 #[.slice (some ⟨w.heap.size + 1, 0, none⟩) 256 256, .int .i64 (4 * (k : Int)), .int .u32 (v : Int)] W fun e w' => e = .returned (.bool true) ∧ BVar w' (w.heap.size + 1) (partB l (k + 1)) ∧ Only (w.heap.size + 1) W w') := Lib.hid fun W h => by
        have := rput32_b (w.heap.size + 1) (4 * k) v (partB l k) W h (by omega) vlt
        rw [PN.out] at this
        exact this
      clear hc hv hvd PN vlt
      have V3 : Hid (BVar wr.drew (w.heap.size + 1) (partB l k)) := Lib.hid V2.out
      have R3 : Hid (BVar wr.drew w.heap.size .zero) := Lib.hid R2.out
      have B3 : Hid (Below w.heap.size w wr.drew) := Lib.hid (low_drewN B2.out 1)
      go_upto_region 5 with fail
      go_region_with (go_at_call 53; with_reducible refine (CQ.out _ V3.out).mono ?_; rintro e w5 ⟨rfl, hv5, ho5⟩)
      have V4 := Lib.hid hv5
      have R4 := Lib.hid (ho5.blk (by omega) R3.out)
      have B4 := Lib.hid (low_only B3.out ho5 (by omega))
      clear hv5 ho5
      go_wp2_with fail
      go_roundw
      case rel => exact ⟨k + 1, by omega, by congr 1, R4, V4, B4⟩
      case measure => simp [intOf]; omega
    · obtain rfl : k = l.length := by omega
      have k1 : ¬ (l.length : Int) < (l.length : Int) := by omega
      rw [partB_end HS.out] at V2
      go_wp2_with (first
        | (refine load_blk rfl (.tmp 3) rfl (w.heap.size + 1) 0 rfl (listB l) V2.out.at ?_)
        | (refine store_row rfl (.tmp 2) (.tmp 19) rfl w.heap.size (listB l) .zero 28 rfl rfl R2.out ?_))
      exact bodyPost_ret (results_blk Try.results40 _ _ w.heap.size (listB l) _ rfl (row_heap _ _ _ _ R2.out)) rfl ⟨rfl, row_low B2.out (Nat.le_refl _) _⟩
end Go.Proofs.Ytjiooadakklmlaa
