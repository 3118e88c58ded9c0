import Derived.Test.YtaipcciokhkmnaaRDisk
namespace Go.Proofs.Ytaipcciokhkmnaa
open Go.RowKit

noncomputable def lastB (s : DS) (b k : Nat) : Blk := (over s.safe (s.wait.take k)).getD b .zero
theorem lastB_zero (s : DS) (b : Nat) : lastB s b 0 = s.safe.getD b .zero := rfl
theorem lastB_succ {s : DS} {b k : Nat} {p : Nat × Blk} (hp : s.wait[k]? = some p) (hb : b < s.safe.length) : lastB s b (k + 1) = if p.1 = b then p.2 else lastB s b k := by
  obtain ⟨hk, rfl⟩ := List.getElem?_eq_some_iff.1 hp
  unfold lastB
  rw [List.take_succ_eq_append_getElem hk, over_append]
  show ((over s.safe (s.wait.take k)).set _ _).getD b .zero = _
  rw [List.getD_eq_getElem?_getD, List.getElem?_set]
  by_cases e : s.wait[k].1 = b
  · rw [if_pos e, if_pos e, if_pos (by rw [over_length, e]; exact hb)]; rfl
  · rw [if_neg e, if_neg e, List.getD_eq_getElem?_getD]
theorem lastB_end (s : DS) (b : Nat) : lastB s b s.wait.length = s.now.getD b .zero := by unfold lastB DS.now; rw [List.take_length]
theorem alloc2_cell {w : World} {a : Addr} {v : Value} (h : w.cell? a = some v) (x y : Obj) : ((w.alloc x).alloc y).cell? a = some v := by
  have hlt := World.block_lt_of_cell? w _ h
  rw [World.cell?_alloc_old _ _ _ (by simp; omega), World.cell?_alloc_old _ _ _ (by omega), h]
theorem alloc1_cell {w : World} {a : Addr} {v : Value} (h : w.cell? a = some v) (x : Obj) : (w.alloc x).cell? a = some v := by
  have hlt := World.block_lt_of_cell? w _ h
  rw [World.cell?_alloc_old _ _ _ (by omega), h]
theorem At.alloc {w : World} {b o : Nat} {x : Blk} (h : At w b o x) (y : Obj) : At (w.alloc y) b o x := .of fun _ hi => alloc1_cell (h.cell hi) y
set_option maxRecDepth 100000 in
set_option maxHeartbeats 1000000 in
theorem rLast_any (w : World) (b : Nat) (s : DS) (av : Av) (p : Nat) (h : RD w b s av) (hp : p < s.safe.length) :
    Calls Try.prog 46 #[.pointer (some ⟨b, 0, none⟩), .int .i64 (p : Int)] w fun e w' => e = .returned (.agg (arr (s.now.getD p .zero))) ∧ Below w.heap.size w w' := by
  have hz := fun W => zero_blk W
  obtain ⟨g, o, n, c, v, h⟩ := h
  obtain ⟨A, cv, rfl⟩ := h.wait.shape
  have c0 := (cell_of_row w b 0 _ _ (0, 0) h.cells).trans (by rfl : _ = some (Value.slice (some ⟨g, o, none⟩) n c))
  have c1 := (cell_of_row w b 1 _ _ (0, 0) h.cells).trans (by rfl : _ = some (Value.slice A s.wait.length cv))
  have H := Lib.hid h
  have j1 : (0 : Int) ≤ p := by omega
  have j2 : (p : Int) < n := by have := h.len; omega
  have hWl : s.wait.length ≤ 1000000 := by have := h.ok.2.2.2; omega
  clear h
  have hat := H.out.img.at (List.getElem?_eq_getElem hp)
  have L0 : Hid (s.safe[p] = lastB s p 0) := Lib.hid (by rw [lastB_zero, List.getD_eq_getElem?_getD, List.getElem?_eq_getElem hp]; rfl)
  have c0' := alloc1_cell c0 (.cells (arr .zero) 26)
  have hat' := hat.alloc (.cells (arr .zero) 26)
  clear c0 hat
  go_enter Try.func46, Try.ntmps46
  go_wp2_with (first
    | (refine load_blk rfl (.tmp 12) rfl g (o + p * 256) rfl s.safe[p] hat' ?_)
    | (refine store_row rfl (.tmp 5) (.tmp 13) rfl (w.heap.size + 1) s.safe[p] .zero 26 rfl rfl (heap_alloc2_new w _ _) ?_; rw [show w.heap.size + 1 = (w.alloc (.cells (arr .zero) 26)).heap.size by simp, World.setRow_alloc_new]))
  go_loopw [6] (fun i wr => ∃ k : Nat, k ≤ s.wait.length ∧ i = .int .i64 k ∧ wr = (w.alloc (.cells (arr .zero) 26)).alloc (.cells (arr (lastB s p k)) 26)) (fun i _ => s.wait.length - (intOf i).toNat)
  case atStart => exact ⟨0, Nat.zero_le _, rfl, by rw [L0.out]⟩
  case round =>
    obtain ⟨k, hk, rfl, rfl⟩ := hrel
    have c1' := alloc2_cell c1 (.cells (arr .zero) 26) (.cells (arr (lastB s p k)) 26)
    by_cases hlt : k < s.wait.length
    · have hW := List.getElem?_eq_getElem hlt
      generalize s.wait[k] = wr2 at hW
      obtain ⟨qb, X⟩ := wr2
      obtain ⟨gw, rfl⟩ : ∃ gw, A = some ⟨gw, 0, none⟩ := by
        rcases H.out.wait.2 with ⟨h1, h2⟩ | ⟨g', cap, cur, h1, _⟩
        · omega
        · injection h1 with h1; exact ⟨g', h1⟩
      have wq := H.out.wait.cell (g := gw) rfl hW
      have w1 := alloc2_cell wq.1 (.cells (arr .zero) 26) (.cells (arr (lastB s p k)) 26)
      have w2 := (wq.2.alloc (.cells (arr .zero) 26)).alloc (.cells (arr (lastB s p k)) 26)
      have LS := Lib.hid (lastB_succ hW hp)
      have j3 : (0 : Int) ≤ k := by omega
      have j4 : (k : Int) < s.wait.length := by omega
      clear wq hW
      by_cases hq : qb = p
      · subst hq
        have LT : Hid (lastB s qb (k + 1) = X) := Lib.hid (by rw [LS.out]; exact if_pos rfl)
        go_wp2_with (first
          | (refine load_blk rfl (.tmp 39) rfl gw (k * 257 + 1) rfl X w2 ?_)
          | (refine store_row rfl (.tmp 5) (.tmp 40) rfl (w.heap.size + 1) X (lastB s qb k) 26 rfl rfl (heap_alloc2_new w _ _) ?_; rw [show w.heap.size + 1 = (w.alloc (.cells (arr .zero) 26)).heap.size by simp, World.setRow_alloc_new]))
        go_roundw
        case rel => exact ⟨k + 1, by omega, by go_num, by rw [LT.out]⟩
        case measure => simp [intOf]; omega
      · have LT : Hid (lastB s p (k + 1) = lastB s p k) := Lib.hid (by rw [LS.out]; exact if_neg hq)
        have t0 : ((qb : Int) == (p : Int)) = false := by rw [beq_eq_false_iff_ne]; omega
        go_wp2_with fail
        go_roundw
        case rel => exact ⟨k + 1, by omega, by go_num, by rw [LT.out]⟩
        case measure => simp [intOf]; omega
    · obtain rfl : k = s.wait.length := by omega
      have hX := Lib.hid (lastB_end s p)
      generalize lastB s p s.wait.length = X at c1' hX ⊢
      go_wp2_with (first
        | (refine load_blk rfl (.tmp 5) rfl (w.heap.size + 1) 0 rfl X (At.row (heap_alloc2_new w _ _)) ?_)
        | (refine store_row rfl (.tmp 4) (.tmp 41) rfl w.heap.size X .zero 26 rfl rfl (heap_alloc2_old w _ _) ?_))
      exact bodyPost_ret (v := .agg (arr X)) (results_blk Try.results46 _ _ w.heap.size X _ rfl (setRow_heap _ _ _ _ _ _ (heap_alloc2_old w _ _))) rfl ⟨by rw [hX.out], below_setRow (((Below.refl _ _).alloc (Nat.le_refl _) _).alloc (by simp) _) (Nat.le_refl _) _⟩
end Go.Proofs.Ytaipcciokhkmnaa
