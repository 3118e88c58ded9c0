import Derived.Test.YtjiooadakklmlaaJbP6
import Derived.Test.YtjiooadakklmlaaJbQ8
namespace Go.Proofs.Ytjiooadakklmlaa
open Go.RowKit

/-! The landed code: a list read from a block (numbers). -/
/-- A list of which the first i are told, the others not yet. -/
def fillL {α : Type} (f : Nat → α) (z : α) (n i : Nat) : List α := (List.range n).map fun j => if j < i then f j else z
theorem fillL_length {α : Type} (f : Nat → α) (z : α) (n i : Nat) : (fillL f z n i).length = n := by simp [fillL]
theorem fillL_0 {α : Type} (f : Nat → α) (z : α) (n : Nat) : fillL f z n 0 = List.replicate n z := by
  unfold fillL
  apply List.ext_getElem
  · simp
  · intro i h1 h2; simp
theorem fillL_end {α : Type} (f : Nat → α) (z : α) (n : Nat) : fillL f z n n = (List.range n).map f := by
  unfold fillL
  apply List.ext_getElem
  · simp
  · intro i h1 h2
    simp only [List.length_map, List.length_range] at h1
    simp [h1]
theorem fillL_at {α : Type} (f : Nat → α) (z : α) {n i : Nat} (h : i < n) : (fillL f z n i)[i]? = some z := by
  unfold fillL
  rw [List.getElem?_map, List.getElem?_range h]
  show some (if i < i then f i else z) = some z
  rw [if_neg (Nat.lt_irrefl i)]
theorem fillL_set {α : Type} (f : Nat → α) (z : α) (n i : Nat) : (fillL f z n i).set i (f i) = fillL f z n (i + 1) := by
  unfold fillL
  apply List.ext_getElem
  · simp
  · intro j h1 h2
    rw [List.getElem_set]
    simp only [List.getElem_map, List.getElem_range]
    by_cases e : i = j
    · subst e; rw [if_pos rfl, if_pos (by omega)]
    · rw [if_neg e]
      by_cases q : j < i
      · rw [if_pos q, if_pos (by omega)]
      · rw [if_neg q, if_neg (by omega)]
def NArr (w : World) (g : Nat) (l : List Nat) : Prop := w.heap[g]? = some (.cells (nC l).toArray 22 (0, 0))
section
variable {w w' : World} {g : Nat} {l : List Nat}
theorem NArr.lt (h : NArr w g l) : g < w.heap.size := (Array.getElem?_eq_some_iff.1 h).1
theorem NArr.below (h : NArr w g l) (hb : Below w.heap.size w w') : NArr w' g l := (hb.block _ h.lt).trans h
theorem NArr.cell (h : NArr w g l) {i v : Nat} (hi : l[i]? = some v) : w.cell? ⟨g, i, none⟩ = some (.int .u32 ((v : Nat) : Int)) := by
  rw [cell_of_row w g i _ _ _ h]
  unfold nC
  simp [hi]
theorem NArr.frozen (h : NArr w g l) (i : Nat) : w.frozen? ⟨g, i, none⟩ = false := by simp [World.frozen?, show w.heap[g]? = _ from h]
theorem NArr.set (h : NArr w g l) (i v : Nat) : NArr (w.setCell ⟨g, i, none⟩ (.int .u32 ((v : Nat) : Int))) g (l.set i v) := by
  unfold NArr at *
  rw [heap_setCell_same w g i _ _ _ h]
  congr 2
  unfold nC
  simp [List.map_set]
theorem NArr.at (h : NArr w g l) : NumsAt w (some ⟨g, 0, none⟩) l := fun _ => ⟨g, 0, rfl, h.lt, fun i v hv => by rw [Nat.zero_add]; exact h.cell hv⟩
theorem NArr.own (h : NArr w g l) {base n : Nat} (hb : base ≤ g) (hn : n = l.length) (hm : n ≤ 1000) : w.ownsRow base 22 1 (.slice (some ⟨g, 0, none⟩) n n) n (nC l) :=
  ⟨by rw [nC_length, hn], .inr ⟨g, n, _, rfl, hb, h, Nat.le_refl _, by simp only [maxLen]; omega, by simp [nC, hn], by rw [List.take_of_length_le (by simp [nC, hn])]⟩⟩
theorem NArr.made {base n : Nat} {A : Nat} {cs : List Value} (h : w.ownsRow base 22 1 (.slice (some ⟨A, 0, none⟩) n n) n cs) (hc : cs = List.replicate n (.int .u32 0)) : NArr w A (List.replicate n 0) := by
  rcases h.2 with ⟨e, _⟩ | ⟨g, cap, cur, e, hb, hg, h1, h2, h3, h4⟩
  · cases e
  · injection e with e1 e2 e3
    injection e1 with e1
    injection e1 with e1
    subst e1 e3
    unfold NArr
    rw [hg]
    rw [List.take_of_length_le (by simp; omega)] at h4
    congr 2
    apply Array.ext'
    rw [h4, hc]
    simp [nC]
end
/-- What lies in memory while a list is read. -/
structure RM (w0 w : World) (X : Blk) (r p : Nat) : Prop where
  blk : BVar w w0.heap.size X
  row : NRow w r p
  box : PBox w p w0.heap.size
  low : Below w0.heap.size w0 w
structure AM (w0 w : World) (X : Blk) (r p g : Nat) (l : List Nat) : Prop extends RM w0 w X r p where
  arr : NArr w g l
  gr : w0.heap.size < g ∧ r < g ∧ p < g
section
variable {w0 w w' : World} {X : Blk} {r p g : Nat} {l : List Nat}
theorem RM.below (h : RM w0 w X r p) (hb : Below w.heap.size w w') : RM w0 w' X r p := ⟨h.blk.below hb, h.row.below hb, h.box.below hb, low_go h.low hb⟩
theorem AM.below (h : AM w0 w X r p g l) (hb : Below w.heap.size w w') : AM w0 w' X r p g l := ⟨h.toRM.below hb, h.arr.below hb, h.gr⟩
theorem AM.only (h : AM w0 w X r p g l) (ho : Only g w w') {m : List Nat} (hm : NArr w' g m) : AM w0 w' X r p g m :=
  ⟨⟨ho.blk (by have := h.gr; omega) h.blk, h.row.only ho (by have := h.gr; omega), h.box.only ho (by have := h.gr; omega), low_only h.low ho (by have := h.gr; omega)⟩, hm, h.gr⟩
theorem AM.start (h : RM w0 w X r p) (hg : w.grownBy w' none) (ha : NArr w' w.heap.size l) : AM w0 w' X r p w.heap.size l := by
  have hb : Below w.heap.size w w' := (Below.refl w.heap.size w).grown hg (Nat.le_refl _) (fun k e => by cases e)
  exact ⟨h.below hb, ha, h.blk.lt, h.row.lt, h.box.lt⟩
end
theorem RM.first {w w2 : World} {X : Blk} {p : Nat} (P : PBox w2 p w.heap.size) (V : BVar w2 w.heap.size X) (B : Below w.heap.size w w2) : RM w ((w2.alloc (.cells rw0 102)).setRow w2.heap.size (nrw p)) X w2.heap.size p :=
  ⟨(V.below (below_new w2 _)).keepB (setRow_other _ _ _ _ (by have := V.lt; omega)), nrow_set (heap_alloc_new w2 _), (P.below (below_new w2 _)).keep (setRow_other _ _ _ _ (by have := P.lt; omega)), row_low (low_go B (below_new w2 _)) B.size _⟩
set_option maxRecDepth 100000 in
set_option maxHeartbeats 4000000 in
theorem pReadListN (X : Blk) (w : World) : Calls Try.prog 52 #[.agg (arr X), .func (.func 44) #[] #[]] w fun e w' => ReadR X w.heap.size e w' ∧ Below w.heap.size w w' := by
  have hz := fun W => zero_blk W
  have hn := fun W => zero_nrw W
  have V := Lib.hid (show BVar (w.alloc (.cells (arr X) 28)) w.heap.size X from heap_alloc_new w _)
  have B := Lib.hid (below_new w (.cells (arr X) 28))
  have CN := Lib.hid fun W => pNumbersIn w.heap.size W
  have C2 : Hid (∀ W, BVar W w.heap.size X → Calls Try.prog 46 #[.pointer (some ⟨w.heap.size, 0, none⟩), .int .i64 8] W fun e w' => e = .returned (.int .u32 ((num X 2 : Nat) : Int)) ∧ w' = W) := Lib.hid fun W h => pNum _ 2 X W h (by omega)
  have C3 : Hid (∀ W, BVar W w.heap.size X → Calls Try.prog 46 #[.pointer (some ⟨w.heap.size, 0, none⟩), .int .i64 12] W fun e w' => e = .returned (.int .u32 ((num X 3 : Nat) : Int)) ∧ w' = W) := Lib.hid fun W h => pNum _ 3 X W h (by omega)
  obtain ⟨n3, hn3⟩ : ∃ n3, num X 3 = n3 := ⟨_, rfl⟩
  obtain ⟨s2, hs2⟩ : ∃ s2, num X 2 = s2 := ⟨_, rfl⟩
  rw [hn3] at C3
  rw [hs2] at C2
  have N3 := Lib.hid hn3
  have S2 := Lib.hid hs2
  have w60 : IntKind.u32.wrap 60 = 60 := by decide
  by_cases h3 : n3 ≤ 60
  rotate_left
  · have NR := Lib.hid fun q : IsJR X => h3 (by rw [← hn3]; exact q.hi)
    have d3 : decide ((60 : Int) < (n3 : Int)) = true := by simp; omega
    have e3 : (60 : Int) < (n3 : Int) := by omega
    clear h3 hn3 hs2
    go_enter Try.func52, Try.ntmps52
    go_upto_region 1 with fail
    generalize w.alloc (.cells (arr X) 28) = w1 at V B ⊢
    go_upto_region 2 with (first
      | (go_at_call 44; with_reducible refine (CN.out _).mono ?_; rintro e w2 ⟨rfl, hp, hb⟩; have P2 := Lib.hid hp; have V2 := Lib.hid (V.out.below hb); have B2 := Lib.hid (low_go B.out hb); clear hp hb)
      | (refine store_nrw rfl (.tmp 7) (.tmp 15) rfl w2.heap.size w1.heap.size rfl rfl (heap_alloc_new w2 _) ?_))
    have K := Lib.hid (RM.first P2.out V2.out B2.out)
    clear V B P2 V2 B2 hn CN
    generalize (w2.alloc (.cells rw0 102)).setRow w2.heap.size (nrw w1.heap.size) = w4 at K ⊢
    generalize w2.heap.size = r at K ⊢
    generalize w1.heap.size = p at K ⊢
    go_upto_region 3 with (first
      | (go_at_call 46; with_reducible refine (C2.out _ K.out.blk).mono ?_; rintro e w5 ⟨rfl, rfl⟩)
      | (go_at_call 46; with_reducible refine (C3.out _ K.out.blk).mono ?_; rintro e w6 ⟨rfl, rfl⟩))
    have c1 := K.out.row.c1
    go_wp2_with fail
    go_ret3
    exact ⟨.inr ⟨NR.out, rfl⟩, K.out.low⟩
  have d3 : decide ((60 : Int) < (n3 : Int)) = false := by simp; omega
  have e3 : ¬ (60 : Int) < (n3 : Int) := by omega
  have L60 := Lib.hid h3
  have CW := Lib.hid fun W g (h : NumsAt W (some ⟨g, 0, none⟩) (numsOf X n3)) => pWriteListN s2 (some ⟨g, 0, none⟩) n3 (numsOf X n3) W (by rw [numsOf_length]; omega) (numsOf_small X n3) h
  simp only [numsOf_length] at CW
  have FE : Hid (fillL (fun j => num X (4 + j)) 0 n3 n3 = numsOf X n3) := Lib.hid (fillL_end _ _ _)
  have FS : Hid (∀ i, i < n3 → (fillL (fun j => num X (4 + j)) 0 n3 i).set i (num X (4 + i)) = fillL (fun j => num X (4 + j)) 0 n3 (i + 1)) := Lib.hid fun i _ => fillL_set _ _ n3 i
  have F0 := Lib.hid (fillL_0 (fun j => num X (4 + j)) 0 n3)
  have IR : Hid (IsJR X → MayR s2 (numsOf X n3) ∧ listB (revokeL s2 (numsOf X n3)) = X) := Lib.hid fun q => by have := is_revoke q; rwa [hn3, hs2] at this
  have RI : Hid (MayR s2 (numsOf X n3) → listB (revokeL s2 (numsOf X n3)) = X → IsJR X) := Lib.hid fun q e => by have := revoke_is q (numsOf_small X n3); rwa [e] at this
  obtain ⟨i0, hi0, hzz⟩ := Option.map_eq_some_iff.1 u32_info
  simp only [Prod.mk.injEq] at hzz
  obtain ⟨hz0, hz1, hz2⟩ := hzz
  have HZ0 := Lib.hid hz0
  have HZ1 := Lib.hid hz1
  have HZ2 := Lib.hid hz2
  have HI0 := Lib.hid hi0
  clear hz0 hz1 hz2 hi0 h3 hn3 hs2
  go_enter Try.func52, Try.ntmps52
  go_upto_region 1 with fail
  generalize w.alloc (.cells (arr X) 28) = w1 at V B ⊢
  go_upto_region 2 with (first
    | (go_at_call 44; with_reducible refine (CN.out _).mono ?_; rintro e w2 ⟨rfl, hp, hb⟩; have P2 := Lib.hid hp; have V2 := Lib.hid (V.out.below hb); have B2 := Lib.hid (low_go B.out hb); clear hp hb)
    | (refine store_nrw rfl (.tmp 7) (.tmp 15) rfl w2.heap.size w1.heap.size rfl rfl (heap_alloc_new w2 _) ?_))
  have K := Lib.hid (RM.first P2.out V2.out B2.out)
  clear V B P2 V2 B2 hn CN
  generalize (w2.alloc (.cells rw0 102)).setRow w2.heap.size (nrw w1.heap.size) = w4 at K ⊢
  generalize w2.heap.size = r at K ⊢
  generalize w1.heap.size = p at K ⊢
  go_upto_region 3 with (first
    | (go_at_call 46; with_reducible refine (C2.out _ K.out.blk).mono ?_; rintro e w5 ⟨rfl, rfl⟩)
    | (go_at_call 46; with_reducible refine (C3.out _ K.out.blk).mono ?_; rintro e w6 ⟨rfl, rfl⟩))
  have c1 := K.out.row.c1
  go_upto_region 5 with fail
  clear c1 d3 e3 w60 C2 C3
  have l60 := L60.out
  go_upto_region 6 with (at_make; refine wpList_make_full _ rfl (.tmp 23) (.tmp 23) 26 rfl w.heap.size 22 i0 _ 1 Try.underlying26 HI0.out HZ0.out HZ1.out .u32 .u32 (n3 : Int) (n3 : Int) n3 rfl rfl rfl rfl (by rw [HZ2.out]; omega) (by simp only [maxLen]; omega) K.out.low.size ?_; intro w7 hown hgrow; have K7 := Lib.hid (AM.start K.out hgrow (NArr.made hown (by rw [Nat.mul_one]; exact toList_madeCells_one _ _))); rw [← F0.out] at K7; clear hown hgrow)
  clear K F0
  generalize w6.heap.size = g at K7 ⊢
  go_wp2_with fail
  go_loopw [27] (fun kv wr => ∃ k : Nat, k ≤ n3 ∧ kv = .int .i64 k ∧ Hid (AM w wr X r p g (fillL (fun j => num X (4 + j)) 0 n3 k))) (fun kv _ => n3 - (intOf kv).toNat)
  case atStart => exact ⟨0, Nat.zero_le _, rfl, K7⟩
  case round =>
    obtain ⟨k, hk, rfl, K2⟩ := hrel
    clear K7
    by_cases hlt : k < n3
    · have k0 : (0 : Int) ≤ (k : Int) := by omega
      have kl : (k : Int) < (n3 : Int) := by omega
      have w2 : IntKind.i64.wrap ((k : Int) + 1) = (k : Int) + 1 := by rw [IntKind.wrap_i64]; omega
      have c3 := K2.out.row.c3
      have cc := K2.out.arr.cell (fillL_at (fun j => num X (4 + j)) 0 hlt)
      have cz := K2.out.arr.frozen k
      have CR := Lib.hid (fun W (h : AM w W X r p g (fillL (fun j => num X (4 + j)) 0 n3 k)) => pN2 p w.heap.size k X W h.box h.blk (by omega))
      have K9 := Lib.hid (K2.out.only (Only.set wr g k (.int .u32 ((num X (4 + k) : Nat) : Int))) (K2.out.arr.set k (num X (4 + k))))
      rw [FS.out k hlt] at K9
      generalize num X (4 + k) = v at CR K9
      go_wp2_with (go_at_call 61; with_reducible refine (CR.out _ K2.out).mono ?_; rintro e w9 ⟨rfl, rfl⟩)
      go_roundw
      case rel => exact ⟨k + 1, by omega, by congr 1, K9⟩
      case measure => simp [intOf]; omega
    obtain rfl : k = n3 := by omega
    have kl : ¬ (k : Int) < (k : Int) := by omega
    rw [FE.out] at K2
    clear FE FS hk hlt
    have CG := Lib.hid (CW.out wr g K2.out.arr.at)
    clear CW
    by_cases hm : MayR s2 (numsOf X k)
    · rw [writeJR_yes hm] at CG
      obtain ⟨Y, hY⟩ : ∃ Y, listB (revokeL s2 (numsOf X k)) = Y := ⟨_, rfl⟩
      rw [hY] at CG IR RI
      have hg := blk_guard
      have he := fun W => equalIn_blk Y X W
      by_cases e : Y = X
      · have YES := Lib.hid (RI.out hm e)
        rw [decide_eq_true e] at he
        clear IR RI hY hm e
        go_upto_region 12 with (first
          | (go_at_call 43; with_reducible refine (CG.out).mono ?_; rintro e w9 ⟨rfl, hb⟩)
          | (refine store_newJ rfl (.tmp 12) (.tmp 43) rfl Y rfl rfl ?_))
        have K9 := Lib.hid ((K2.out.below hb).below (newB_low w9 Y))
        have Y9 := Lib.hid (newB_var w9 Y)
        clear hb K2 CG hz
        generalize newB w9 Y = w10 at K9 Y9 ⊢
        generalize w9.heap.size = yb at Y9 ⊢
        go_wp2_with (first
          | (refine load_blk_w (by with_unfolding_all rfl) (.tmp 12) rfl yb 0 rfl Y Y9.out.at ?_)
          | (refine load_blk_w (by with_unfolding_all rfl) (.tmp 2) rfl w.heap.size 0 rfl X K9.out.blk.at ?_))
        go_ret3
        exact ⟨.inl ⟨YES.out, .slice (some ⟨g, 0, none⟩) k k, by rw [S2.out]; rfl, by rw [N3.out]; exact K9.out.arr.own (by have := K9.out.gr; omega) (numsOf_length X k).symm (by omega)⟩, K9.out.low⟩
      · have NR := Lib.hid (fun q : IsJR X => e (IR.out q).2)
        rw [decide_eq_false e] at he
        clear IR RI hY hm e
        go_upto_region 12 with (first
          | (go_at_call 43; with_reducible refine (CG.out).mono ?_; rintro e w9 ⟨rfl, hb⟩)
          | (refine store_newJ rfl (.tmp 12) (.tmp 43) rfl Y rfl rfl ?_))
        have K9 := Lib.hid ((K2.out.below hb).below (newB_low w9 Y))
        have Y9 := Lib.hid (newB_var w9 Y)
        clear hb K2 CG hz
        generalize newB w9 Y = w10 at K9 Y9 ⊢
        generalize w9.heap.size = yb at Y9 ⊢
        go_wp2_with (first
          | (refine load_blk_w (by with_unfolding_all rfl) (.tmp 12) rfl yb 0 rfl Y Y9.out.at ?_)
          | (refine load_blk_w (by with_unfolding_all rfl) (.tmp 2) rfl w.heap.size 0 rfl X K9.out.blk.at ?_))
        go_ret3
        exact ⟨.inr ⟨NR.out, rfl⟩, K9.out.low⟩
    · rw [writeJR_no hm] at CG
      have NR := Lib.hid (fun q : IsJR X => hm (IR.out q).1)
      clear IR RI hm
      go_upto_region 12 with (first
        | (go_at_call 43; with_reducible refine (CG.out).mono ?_; rintro e w9 ⟨rfl, hb⟩)
        | (refine store_newJ rfl (.tmp 12) (.tmp 43) rfl .zero rfl rfl ?_))
      have K9 := Lib.hid ((K2.out.below hb).below (newB_low w9 .zero))
      clear hb K2 CG hz
      generalize newB w9 .zero = w10 at K9 ⊢
      go_wp2_with fail
      go_ret3
      exact ⟨.inr ⟨NR.out, rfl⟩, K9.out.low⟩
end Go.Proofs.Ytjiooadakklmlaa
