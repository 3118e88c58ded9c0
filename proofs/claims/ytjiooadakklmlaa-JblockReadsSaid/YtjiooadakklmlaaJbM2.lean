import Derived.Test.YtjiooadakklmlaaJbM
namespace Go.Proofs.Ytjiooadakklmlaa
open Go.RowKit

/-! There and back. -/
theorem magic_lt : magic < 4294967296 := by decide
theorem Begins.one {X : Blk} {k j : Nat} (h : Begins X k) (h' : Begins X j) : k = j := h.kind.symm.trans h'.kind
theorem zero_begins (k : Nat) : ¬ Begins .zero k := fun h => by
  have := h.magic
  rw [num_zero] at this
  exact absurd this (by decide)
theorem getD_past {l : List Nat} {k : Nat} (h : l.length ≤ k) : l.getD k 0 = 0 := by
  rw [List.getD_eq_getElem?_getD, List.getElem?_eq_none h]; rfl
theorem getD_app {a l : List Nat} {k : Nat} (h : a.length ≤ k) : (a ++ l).getD k 0 = l.getD (k - a.length) 0 := by
  rw [List.getD_eq_getElem?_getD, List.getD_eq_getElem?_getD, List.getElem?_append_right h]
theorem getD_app0 {a l : List Nat} {k : Nat} (h : k < a.length) : (a ++ l).getD k 0 = a.getD k 0 := by
  rw [List.getD_eq_getElem?_getD, List.getD_eq_getElem?_getD, List.getElem?_append_left h]

/-! Heads. -/
theorem headL_lt {x : HeadV} (h : MayH x) : ∀ v ∈ headL x, v < 4294967296 := by
  have := h.seq.le
  have := h.hi
  have := magic_lt
  intro v hv
  simp [headL] at hv
  rcases hv with rfl | rfl | rfl | rfl <;> omega
theorem head_num {x : HeadV} (h : MayH x) {k : Nat} (hk : k < 64) : num (listB (headL x)) k = (headL x).getD k 0 := num_list (headL_lt h) hk
theorem head_is {x : HeadV} (h : MayH x) : IsJH (listB (headL x)) := by
  have n0 : num (listB (headL x)) 0 = magic := head_num h (by omega)
  have n1 : num (listB (headL x)) 1 = 4 := head_num h (by omega)
  have n2 : num (listB (headL x)) 2 = x.seq := head_num h (by omega)
  have n3 : num (listB (headL x)) 3 = x.start.toNat := head_num h (by omega)
  refine ⟨⟨n0, n1, by rw [n2]; exact h.seq⟩, by rw [n3]; have := h.hi; omega, fun j h1 h2 => ?_⟩
  rw [head_num h h2]
  exact getD_past (by show 4 ≤ j; exact h1)
theorem head_of {x : HeadV} (h : MayH x) : headOf (listB (headL x)) = x := by
  refine HeadV.same (head_num h (by omega)) ?_
  show ((num (listB (headL x)) 3 : Nat) : Int) = x.start
  rw [head_num h (by omega)]
  show ((x.start.toNat : Nat) : Int) = x.start
  have := h.lo
  omega
theorem is_head {X : Blk} (h : IsJH X) : MayH (headOf X) ∧ listB (headL (headOf X)) = X := by
  have hm : MayH (headOf X) := ⟨h.begins.seq, by show (0 : Int) ≤ ((num X 3 : Nat) : Int); omega, by show ((num X 3 : Nat) : Int) ≤ 255; have := h.start; omega⟩
  refine ⟨hm, num_ext fun k hk => ?_⟩
  rw [head_num hm hk]
  rcases (by omega : k = 0 ∨ k = 1 ∨ k = 2 ∨ k = 3 ∨ 4 ≤ k) with rfl | rfl | rfl | rfl | q
  · exact h.begins.magic.symm
  · exact h.begins.kind.symm
  · rfl
  · show ((num X 3 : Nat) : Int).toNat = num X 3
    omega
  · rw [h.rest k q hk]
    exact getD_past q
theorem writeJH_yes {x : HeadV} (h : MayH x) : writeJH x = (listB (headL x), 0) := if_pos h
theorem writeJH_no {x : HeadV} (h : ¬ MayH x) : writeJH x = (.zero, 2) := if_neg h
theorem readJH_yes {X : Blk} (h : IsJH X) : readJH X = (headOf X, 0) := if_pos h
theorem readJH_no {X : Blk} (h : ¬ IsJH X) : readJH X = (.zero, 90) := if_neg h

/-! Commits. -/
theorem commitL_lt {s : Nat} {c : Int} {m : Nat} (h : MayC s c) (hm : m < 4294967296) : ∀ v ∈ commitL s c m, v < 4294967296 := by
  have := h.seq.le
  have := h.hi
  have := magic_lt
  intro v hv
  simp [commitL] at hv
  rcases hv with rfl | rfl | rfl | rfl | rfl <;> omega
theorem commit_num {s : Nat} {c : Int} {m : Nat} (h : MayC s c) (hm : m < 4294967296) {k : Nat} (hk : k < 64) : num (listB (commitL s c m)) k = (commitL s c m).getD k 0 := num_list (commitL_lt h hm) hk
theorem commit_is {s : Nat} {c : Int} {m : Nat} (h : MayC s c) (hm : m < 4294967296) : IsJC (listB (commitL s c m)) ∧ num (listB (commitL s c m)) 2 = s ∧ ((num (listB (commitL s c m)) 3 : Nat) : Int) = c ∧ num (listB (commitL s c m)) 4 = m := by
  have n0 : num (listB (commitL s c m)) 0 = magic := commit_num h hm (by omega)
  have n1 : num (listB (commitL s c m)) 1 = 2 := commit_num h hm (by omega)
  have n2 : num (listB (commitL s c m)) 2 = s := commit_num h hm (by omega)
  have n3 : num (listB (commitL s c m)) 3 = c.toNat := commit_num h hm (by omega)
  have n4 : num (listB (commitL s c m)) 4 = m := commit_num h hm (by omega)
  have := h.lo
  have := h.hi
  refine ⟨⟨⟨n0, n1, by rw [n2]; exact h.seq⟩, by rw [n3]; omega, by rw [n3]; omega, fun j h1 h2 => ?_⟩, n2, by rw [n3]; omega, n4⟩
  rw [commit_num h hm h2]
  exact getD_past (by show 5 ≤ j; exact h1)
theorem is_commit {X : Blk} (h : IsJC X) : MayC (num X 2) ((num X 3 : Nat) : Int) ∧ listB (commitL (num X 2) ((num X 3 : Nat) : Int) (num X 4)) = X := by
  have hc : MayC (num X 2) ((num X 3 : Nat) : Int) := ⟨h.begins.seq, by have := h.lo; omega, by have := h.hi; omega⟩
  refine ⟨hc, num_ext fun k hk => ?_⟩
  rw [commit_num hc (num_lt _ _) hk]
  rcases (by omega : k = 0 ∨ k = 1 ∨ k = 2 ∨ k = 3 ∨ k = 4 ∨ 5 ≤ k) with rfl | rfl | rfl | rfl | rfl | q
  · exact h.begins.magic.symm
  · exact h.begins.kind.symm
  · rfl
  · show ((num X 3 : Nat) : Int).toNat = num X 3
    omega
  · rfl
  · rw [h.rest k q hk]
    exact getD_past q
theorem writeJC_yes {s : Nat} {c : Int} {m : Nat} (h : MayC s c) : writeJC s c m = (listB (commitL s c m), 0) := if_pos h
theorem writeJC_no {s : Nat} {c : Int} {m : Nat} (h : ¬ MayC s c) : writeJC s c m = (.zero, 2) := if_neg h

/-! Revoke blocks. -/
def Small32 (l : List Nat) : Prop := ∀ v ∈ l, v < 4294967296
theorem revokeL_lt {s : Nat} {l : List Nat} (h : MayR s l) (hl : Small32 l) : ∀ v ∈ revokeL s l, v < 4294967296 := by
  have := h.seq.le
  have := h.hi
  have := magic_lt
  intro v hv
  simp [revokeL] at hv
  rcases hv with rfl | rfl | rfl | rfl | hv
  · omega
  · omega
  · omega
  · omega
  · exact hl v hv
theorem revoke_num {s : Nat} {l : List Nat} (h : MayR s l) (hl : Small32 l) {k : Nat} (hk : k < 64) : num (listB (revokeL s l)) k = (revokeL s l).getD k 0 := num_list (revokeL_lt h hl) hk
theorem revoke_nums {s : Nat} {l : List Nat} (h : MayR s l) (hl : Small32 l) : num (listB (revokeL s l)) 2 = s ∧ num (listB (revokeL s l)) 3 = l.length ∧ numsOf (listB (revokeL s l)) l.length = l := by
  refine ⟨revoke_num h hl (by omega), revoke_num h hl (by omega), ?_⟩
  unfold numsOf
  apply List.ext_getElem
  · simp
  · intro i h1 h2
    simp only [List.getElem_map, List.getElem_range]
    have := h.hi
    rw [revoke_num h hl (by omega)]
    unfold revokeL
    rw [getD_app (by show 4 ≤ 4 + i; omega), show 4 + i - [magic, 3, s, l.length].length = i by show 4 + i - 4 = i; omega, List.getD_eq_getElem?_getD, List.getElem?_eq_getElem h2]
    rfl
theorem revoke_is {s : Nat} {l : List Nat} (h : MayR s l) (hl : Small32 l) : IsJR (listB (revokeL s l)) := by
  obtain ⟨n2, n3, nl⟩ := revoke_nums h hl
  have n0 : num (listB (revokeL s l)) 0 = magic := revoke_num h hl (by omega)
  have n1 : num (listB (revokeL s l)) 1 = 3 := revoke_num h hl (by omega)
  refine ⟨⟨n0, n1, by rw [n2]; exact h.seq⟩, by rw [n3]; exact h.lo, by rw [n3]; exact h.hi, fun j h1 h2 => ?_, by rw [n3, nl]; exact h.rise⟩
  rw [n3] at h1
  rw [revoke_num h hl h2]
  exact getD_past (by show ([magic, 3, s, l.length] ++ l).length ≤ j; simp; omega)
theorem numsOf_length (X : Blk) (n : Nat) : (numsOf X n).length = n := by simp [numsOf]
theorem numsOf_small (X : Blk) (n : Nat) : Small32 (numsOf X n) := fun v hv => by
  obtain ⟨i, _, rfl⟩ := List.mem_map.1 hv
  exact num_lt _ _
theorem numsOf_getD {X : Blk} {n i : Nat} (h : i < n) : (numsOf X n).getD i 0 = num X (4 + i) := by
  unfold numsOf
  rw [List.getD_eq_getElem?_getD, List.getElem?_map, List.getElem?_range h]; rfl
theorem is_revoke {X : Blk} (h : IsJR X) : MayR (num X 2) (numsOf X (num X 3)) ∧ listB (revokeL (num X 2) (numsOf X (num X 3))) = X := by
  have hr : MayR (num X 2) (numsOf X (num X 3)) := ⟨h.begins.seq, by rw [numsOf_length]; exact h.lo, by rw [numsOf_length]; exact h.hi, h.rise⟩
  refine ⟨hr, num_ext fun k hk => ?_⟩
  rw [revoke_num hr (numsOf_small _ _) hk]
  rcases (by omega : k = 0 ∨ k = 1 ∨ k = 2 ∨ k = 3 ∨ 4 ≤ k) with rfl | rfl | rfl | rfl | q
  · exact h.begins.magic.symm
  · exact h.begins.kind.symm
  · rfl
  · show (numsOf X (num X 3)).length = num X 3
    exact numsOf_length _ _
  · unfold revokeL
    rw [getD_app (by show 4 ≤ k; exact q)]
    show (numsOf X (num X 3)).getD (k - 4) 0 = _
    by_cases u : k - 4 < num X 3
    · rw [numsOf_getD u, show 4 + (k - 4) = k by omega]
    · rw [getD_past (by rw [numsOf_length]; omega), h.rest k (by omega) hk]
theorem writeJR_yes {s : Nat} {l : List Nat} (h : MayR s l) : writeJR s l = (listB (revokeL s l), 0) := if_pos h
theorem writeJR_no {s : Nat} {l : List Nat} (h : ¬ MayR s l) : writeJR s l = (.zero, 2) := if_neg h

/-! Descriptors. -/
theorem flatT_length : ∀ l : List TagV, (flatT l).length = 2 * l.length
  | [] => rfl
  | t :: l => by simp [flatT, flatT_length l]; omega
theorem flatT_get : ∀ {l : List TagV} {i : Nat} {t : TagV}, l[i]? = some t → (flatT l).getD (2 * i) 0 = t.1 ∧ (flatT l).getD (2 * i + 1) 0 = flag t.2
  | [], _, _, h => by simp at h
  | t :: l, 0, u, h => by
    obtain rfl : t = u := by simpa using h
    exact ⟨rfl, rfl⟩
  | t :: l, i + 1, u, h => by
    have := flatT_get (l := l) (i := i) (t := u) (by simpa using h)
    rw [show 2 * (i + 1) = 2 * i + 2 by omega, show 2 * i + 2 + 1 = 2 * i + 1 + 2 by omega]
    exact this
theorem flatT_lt {l : List TagV} (h : ∀ t ∈ l, t.1 < 4294967296) : ∀ v ∈ flatT l, v < 4294967296 := by
  induction l with
  | nil => intro v hv; cases hv
  | cons t l ih =>
    intro v hv
    rcases List.mem_cons.1 (show v ∈ t.1 :: flag t.2 :: flatT l from hv) with rfl | hv
    · exact h t (by simp)
    rcases List.mem_cons.1 hv with rfl | hv
    · unfold flag; split <;> omega
    · exact ih (fun u hu => h u (by simp [hu])) v hv
def SmallT (l : List TagV) : Prop := ∀ t ∈ l, t.1 < 4294967296
theorem tagsL_lt {s : Nat} {l : List TagV} (h : MayT s l) (hl : SmallT l) : ∀ v ∈ tagsL s l, v < 4294967296 := by
  have := h.seq.le
  have := h.hi
  have := magic_lt
  intro v hv
  rcases List.mem_append.1 (show v ∈ [magic, 1, s, l.length] ++ flatT l from hv) with hv | hv
  · simp at hv
    rcases hv with rfl | rfl | rfl | rfl <;> omega
  · exact flatT_lt hl v hv
theorem tags_num {s : Nat} {l : List TagV} (h : MayT s l) (hl : SmallT l) {k : Nat} (hk : k < 64) : num (listB (tagsL s l)) k = (tagsL s l).getD k 0 := num_list (tagsL_lt h hl) hk
theorem tagsL_at {s : Nat} {l : List TagV} {k : Nat} (hk : 4 ≤ k) : (tagsL s l).getD k 0 = (flatT l).getD (k - 4) 0 := by
  unfold tagsL
  rw [getD_app (by show 4 ≤ k; exact hk)]; rfl
theorem flag_one (b : Bool) : (flag b == 1) = b := by cases b <;> rfl
theorem tags_at {s : Nat} {l : List TagV} (h : MayT s l) (hl : SmallT l) {i : Nat} {t : TagV} (ht : l[i]? = some t) : num (listB (tagsL s l)) (4 + 2 * i) = t.1 ∧ num (listB (tagsL s l)) (5 + 2 * i) = flag t.2 := by
  have hi : i < l.length := by
    rcases Nat.lt_or_ge i l.length with q | q
    · exact q
    · rw [List.getElem?_eq_none q] at ht; cases ht
  have := h.hi
  obtain ⟨h1, h2⟩ := flatT_get ht
  rw [tags_num h hl (by omega), tags_num h hl (by omega), tagsL_at (by omega), tagsL_at (by omega), show 4 + 2 * i - 4 = 2 * i by omega, show 5 + 2 * i - 4 = 2 * i + 1 by omega]
  exact ⟨h1, h2⟩
theorem tags_nums {s : Nat} {l : List TagV} (h : MayT s l) (hl : SmallT l) : num (listB (tagsL s l)) 2 = s ∧ num (listB (tagsL s l)) 3 = l.length ∧ tagsOf (listB (tagsL s l)) l.length = l := by
  refine ⟨tags_num h hl (by omega), tags_num h hl (by omega), ?_⟩
  unfold tagsOf
  apply List.ext_getElem
  · simp
  · intro i h1 h2
    simp only [List.getElem_map, List.getElem_range]
    obtain ⟨e1, e2⟩ := tags_at h hl (List.getElem?_eq_getElem h2)
    unfold tagAt
    rw [e1, e2, flag_one]
theorem tags_is {s : Nat} {l : List TagV} (h : MayT s l) (hl : SmallT l) : IsJT (listB (tagsL s l)) := by
  obtain ⟨n2, n3, nl⟩ := tags_nums h hl
  have n0 : num (listB (tagsL s l)) 0 = magic := tags_num h hl (by omega)
  have n1 : num (listB (tagsL s l)) 1 = 1 := tags_num h hl (by omega)
  refine ⟨⟨n0, n1, by rw [n2]; exact h.seq⟩, by rw [n3]; exact h.lo, by rw [n3]; exact h.hi, fun j h1 h2 => ?_, fun i hi => ?_, by rw [n3, nl]; exact h.rise⟩
  · rw [n3] at h1
    rw [tags_num h hl h2]
    exact getD_past (by show ([magic, 1, s, l.length] ++ flatT l).length ≤ j; rw [List.length_append, flatT_length]; show 4 + 2 * l.length ≤ j; exact h1)
  · rw [n3] at hi
    rw [(tags_at h hl (List.getElem?_eq_getElem hi)).2]
    unfold flag
    split <;> omega
theorem tagsOf_length (X : Blk) (n : Nat) : (tagsOf X n).length = n := by simp [tagsOf]
theorem tagsOf_get {X : Blk} {n i : Nat} (h : i < n) : (tagsOf X n)[i]? = some (tagAt X i) := by
  unfold tagsOf
  rw [List.getElem?_map, List.getElem?_range h]; rfl
theorem tagsOf_small (X : Blk) (n : Nat) : SmallT (tagsOf X n) := fun t ht => by
  obtain ⟨i, _, rfl⟩ := List.mem_map.1 ht
  exact num_lt _ _
theorem is_tags {X : Blk} (h : IsJT X) : MayT (num X 2) (tagsOf X (num X 3)) ∧ listB (tagsL (num X 2) (tagsOf X (num X 3))) = X := by
  have hr : MayT (num X 2) (tagsOf X (num X 3)) := ⟨h.begins.seq, by rw [tagsOf_length]; exact h.lo, by rw [tagsOf_length]; exact h.hi, h.rise⟩
  refine ⟨hr, num_ext fun k hk => ?_⟩
  rw [tags_num hr (tagsOf_small _ _) hk]
  rcases (by omega : k = 0 ∨ k = 1 ∨ k = 2 ∨ k = 3 ∨ 4 ≤ k) with rfl | rfl | rfl | rfl | q
  · exact h.begins.magic.symm
  · exact h.begins.kind.symm
  · rfl
  · show (tagsOf X (num X 3)).length = num X 3
    exact tagsOf_length _ _
  · rw [tagsL_at q]
    by_cases u : (k - 4) / 2 < num X 3
    · obtain ⟨h1, h2⟩ := flatT_get (tagsOf_get (X := X) u)
      by_cases p : (k - 4) % 2 = 0
      · rw [show k - 4 = 2 * ((k - 4) / 2) by omega, h1]
        show num X _ = _
        congr 1; omega
      · rw [show k - 4 = 2 * ((k - 4) / 2) + 1 by omega, h2]
        have hf := h.flags _ u
        rw [show 5 + 2 * ((k - 4) / 2) = k by omega] at hf
        show flag (num X (5 + 2 * ((k - 4) / 2)) == 1) = num X k
        rw [show 5 + 2 * ((k - 4) / 2) = k by omega]
        rcases (by omega : num X k = 0 ∨ num X k = 1) with z | z <;> rw [z] <;> rfl
    · rw [getD_past (by rw [flatT_length, tagsOf_length]; omega), h.rest k (by omega) hk]
theorem writeJT_yes {s : Nat} {l : List TagV} (h : MayT s l) : writeJT s l = (listB (tagsL s l), 0) := if_pos h
theorem writeJT_no {s : Nat} {l : List TagV} (h : ¬ MayT s l) : writeJT s l = (.zero, 2) := if_neg h

/-! Kinds and copies. -/
theorem kind_of {X : Blk} {k : Nat} (h : Begins X k) (h1 : 1 ≤ k) (h4 : k ≤ 4) : kindOf X = (k, num X 2) := by
  unfold kindOf
  rw [h.kind, if_pos ⟨h, h1, h4⟩]
theorem kind_not {X : Blk} (h : ∀ k, 1 ≤ k → k ≤ 4 → ¬ Begins X k) : kindOf X = (0, 0) := if_neg fun q => h _ q.2.1 q.2.2 q.1
theorem num_put0 {X : Blk} {v k : Nat} (hv : v < 4294967296) : num (putB32 X 0 v) k = if k = 0 then v else num X k := by
  have := num_put (X := X) (i := 0) (k := k) (by omega) hv
  rwa [Nat.mul_zero] at this
theorem esc_yes {X : Blk} (h : num X 0 = magic) : escB X = (putB32 X 0 0, true) := if_pos h
theorem esc_no {X : Blk} (h : num X 0 ≠ magic) : escB X = (X, false) := if_neg h
theorem esc_num (X : Blk) : num (escB X).1 0 ≠ magic := by
  by_cases h : num X 0 = magic
  · rw [esc_yes h, num_put0 (by omega), if_pos rfl]; decide
  · rw [esc_no h]; exact h
theorem kind_magic {X : Blk} (h : num X 0 ≠ magic) : kindOf X = (0, 0) := kind_not fun _ _ _ q => h q.magic
theorem unesc_esc {X : Blk} (h : num X 0 = magic) : unescB (putB32 X 0 0) = X := num_ext fun k hk => by
  unfold unescB
  rw [num_put0 (by decide), num_put0 (by omega)]
  by_cases e : k = 0
  · rw [if_pos e, e, h]
  · rw [if_neg e, if_neg e]
theorem unesc_num (X : Blk) : num (unescB X) 0 = magic := by unfold unescB; rw [num_put0 (by decide), if_pos rfl]
theorem unesc_again (X : Blk) : unescB (putB32 (unescB X) 0 0) = unescB X := unesc_esc (unesc_num X)
end Go.Proofs.Ytjiooadakklmlaa
