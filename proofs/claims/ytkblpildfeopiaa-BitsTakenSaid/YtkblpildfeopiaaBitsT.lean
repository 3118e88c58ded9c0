import Derived.Test.YtkblpildfeopiaaBitsL4
namespace Go.Proofs.Ytkblpildfeopiaa
open Go.RowKit

/-! Bits that are taken one by one. T: those that were taken, in their order. -/
structure Taken (X Y : Blk) (a b : Int) (T : List Nat) : Prop where
  lt : ∀ t ∈ T, t < 2048 ∧ a ≤ t ∧ (t : Int) < b ∧ bit X t = false
  rise : T.Pairwise (· < ·)
  bits : ∀ i, i < 2048 → bit Y i = (bit X i || decide (i ∈ T))
  low : ∀ t ∈ T, ∀ j : Nat, a ≤ j → (j : Int) < b → j < t → bit Y j = true
theorem Taken.start (X : Blk) (a b : Int) : Taken X X a b [] := ⟨by simp, .nil, by simp, by simp⟩
theorem rise_get {T : List Nat} (h : T.Pairwise (· < ·)) : ∀ (i x : Nat), T[i]? = some x → i ≤ x
  | 0, _, _ => Nat.zero_le _
  | i + 1, x, hx => by
    obtain ⟨hlt, rfl⟩ := List.getElem?_eq_some_iff.1 hx
    have h2 := rise_get h i T[i] (List.getElem?_eq_getElem (by omega))
    have h3 : T[i] < T[i + 1] := List.pairwise_iff_getElem.1 h i (i + 1) (by omega) hlt (by omega)
    omega
theorem Taken.len {X Y : Blk} {a b : Int} {T : List Nat} (h : Taken X Y a b T) : T.length ≤ 2048 := by
  rcases Nat.eq_zero_or_pos T.length with q | q
  · omega
  · have hl := List.getElem?_eq_getElem (l := T) (i := T.length - 1) (by omega)
    have h1 := rise_get h.rise _ _ hl
    have h2 := (h.lt _ (List.mem_of_getElem? hl)).1
    omega
theorem Taken.next {X Y : Blk} {a b : Int} {T : List Nat} (h : Taken X Y a b T) (hr : firstI Y a b ≠ -1) :
    ∃ k : Nat, firstI Y a b = k ∧ k < 2048 ∧ a ≤ k ∧ (k : Int) < b ∧ hasI X k = false ∧ (∀ t ∈ T, t < k) ∧ turns Y k true = true ∧ Taken X (turnB Y k true) a b (T ++ [k]) := by
  obtain ⟨k, e, h1, h2, h3, h4, h5⟩ := first_some hr
  have hb := h.bits k h1
  rw [h4] at hb
  have hx : bit X k = false ∧ k ∉ T := by
    revert hb; cases bit X k <;> simp
  have ht : turns Y k true = true := by rw [turns_in h1, h4]; rfl
  have hlt : ∀ t ∈ T, t < k := fun t hm => by
    rcases Nat.lt_trichotomy t k with q | q | q
    · exact q
    · subst q; exact absurd hm hx.2
    · have := h.low t hm k h2 h3 q
      rw [h4] at this; cases this
  refine ⟨k, e, h1, h2, h3, by rw [hasI_nat h1]; exact hx.1, hlt, ht, ?_⟩
  rw [turnB_yes ht]
  refine ⟨fun t hm => ?_, ?_, fun i hi => ?_, fun t hm j g1 g2 g3 => ?_⟩
  · rcases List.mem_append.1 hm with hm | hm
    · exact h.lt t hm
    · rw [List.mem_singleton] at hm; subst hm; exact ⟨h1, h2, h3, hx.1⟩
  · rw [List.pairwise_append]
    exact ⟨h.rise, List.pairwise_singleton _ _, fun x hm y hy => by rw [List.mem_singleton] at hy; subst hy; exact hlt x hm⟩
  · rw [bit_setB hi, h.bits i hi]
    by_cases e2 : i = k
    · subst e2; simp
    · rw [if_neg e2]
      have e3 : decide (i ∈ T) = decide (i ∈ T ++ [k]) := by
        rw [decide_eq_decide, List.mem_append, List.mem_singleton]
        exact ⟨.inl, fun q => q.resolve_right e2⟩
      rw [e3]
  · have hj : j < 2048 := by
      rcases List.mem_append.1 hm with hm | hm
      · have := (h.lt t hm).1; omega
      · rw [List.mem_singleton] at hm; omega
    rw [bit_setB hj]
    split
    · rfl
    · rename_i e2
      rcases List.mem_append.1 hm with hm | hm
      · exact h.low t hm j g1 g2 g3
      · rw [List.mem_singleton] at hm
        subst hm
        have := h5 j (by omega) g1 (by omega)
        rw [hasI_nat hj] at this
        exact this
theorem countP_next {n : Nat} : ∀ {T : List Nat}, T.Pairwise (· < ·) → T.countP (· < n + 1) = T.countP (· < n) + if n ∈ T then 1 else 0
  | [], _ => by simp
  | t :: T, h => by
    rw [List.pairwise_cons] at h
    rw [List.countP_cons, List.countP_cons, countP_next h.2]
    by_cases e : t = n
    · subst e
      have hn : t ∉ T := fun q => by have := h.1 t q; omega
      simp [hn]
    · have e1 : decide (t < n + 1) = decide (t < n) := by
        by_cases q : t < n <;> simp [q] <;> omega
      have e2 : (n ∈ t :: T) = (n ∈ T) := by simp [Ne.symm e]
      rw [e1]
      simp only [e2]
      omega
theorem Taken.count {X Y : Blk} {a b : Int} {T : List Nat} (h : Taken X Y a b T) : ∀ n, n ≤ 2048 → countN Y n = countN X n + T.countP (· < n)
  | 0, _ => by simp [countN]
  | n + 1, hn => by
    rw [countN, countN, h.count n (by omega), countP_next h.rise, h.bits n (by omega)]
    by_cases e : n ∈ T
    · have := (h.lt n e).2.2.2
      rw [this]; simp [e]; omega
    · simp [e]; omega
theorem count_all (Y : Blk) (lo : Nat) : ∀ n, (∀ i, lo ≤ i → i < lo + n → bit Y i = true) → countN Y (lo + n) = countN Y lo + n
  | 0, _ => rfl
  | n + 1, h => by
    rw [← Nat.add_assoc, countN, count_all Y lo n (fun i h1 h2 => h i h1 (by omega)), h (lo + n) (by omega) (by omega)]
    simp; omega
theorem countN_mono (X : Blk) (m : Nat) : ∀ n, countN X m ≤ countN X (m + n)
  | 0 => Nat.le_refl _
  | n + 1 => by rw [← Nat.add_assoc, countN]; have := countN_mono X m n; omega
/-- When none is left. -/
theorem Taken.ends {X Y : Blk} {a b : Int} {T : List Nat} (h : Taken X Y a b T) (hr : firstI Y a b = -1) (hl : lim a < lim b) :
    countI Y b - countI Y a = lim b - lim a ∧ T.length + countI X b = lim b - lim a + countI X a ∧ countI Y a ≤ countI Y b ∧ countI X a ≤ countI X b := by
  have hall : ∀ i, lim a ≤ i → i < lim a + (lim b - lim a) → bit Y i = true := fun i h1 h2 => by
    have hb := lim_le b
    have u2 : i < lim b := by omega
    have u3 : i < 2048 := by omega
    have u4 : a ≤ i := by unfold lim at h1; omega
    have u5 : (i : Int) < b := by unfold lim at u2; omega
    have := first_all hr i (by omega) u4 u5 (by omega)
    rw [hasI_nat u3] at this
    exact this
  have hc := count_all Y (lim a) (lim b - lim a) hall
  rw [show lim a + (lim b - lim a) = lim b by omega] at hc
  have ca := h.count (lim a) (lim_le a)
  have cb := h.count (lim b) (lim_le b)
  have pa : T.countP (· < lim a) = 0 := List.countP_eq_zero.2 fun t ht => by
    have := h.lt t ht
    simp; unfold lim; omega
  have pb : T.countP (· < lim b) = T.length := List.countP_eq_length.2 fun t ht => by
    have := h.lt t ht
    simp; unfold lim; omega
  have m1 := countN_mono X (lim a) (lim b - lim a)
  rw [show lim a + (lim b - lim a) = lim b by omega] at m1
  unfold countI
  omega
/-! .. and given back, from some place on, round. -/
structure Given (X Z : Blk) (R : List Nat) (k : Nat) : Prop where
  bits : ∀ i, i < 2048 → bit Z i = (bit X i || decide (i ∈ R.drop k))
  lt : ∀ t ∈ R, t < 2048 ∧ bit X t = false
  nodup : R.Nodup
theorem Given.start {X Y : Blk} {a b : Int} {T : List Nat} (h : Taken X Y a b T) (s : Nat) : Given X Y (T.drop s ++ T.take s) 0 := by
  have hm : ∀ t, t ∈ T.drop s ++ T.take s ↔ t ∈ T := fun t => by
    rw [List.mem_append, or_comm, ← List.mem_append, List.take_append_drop]
  refine ⟨fun i hi => ?_, fun t ht => ?_, ?_⟩
  · rw [List.drop_zero, h.bits i hi]
    congr 1
    simp only [hm]
  · have := h.lt t ((hm t).1 ht)
    exact ⟨this.1, this.2.2.2⟩
  · have hnd : (T.take s ++ T.drop s).Nodup := by
      rw [List.take_append_drop]; exact h.rise.imp (fun h => Nat.ne_of_lt h)
    exact (List.perm_append_comm).nodup hnd
theorem Given.next {X Z : Blk} {R : List Nat} {k t : Nat} (h : Given X Z R k) (ht : R[k]? = some t) : t < 2048 ∧ hasI Z t = true ∧ turns Z t false = true ∧ turns (turnB Z t false) t false = false ∧ Given X (turnB Z t false) R (k + 1) := by
  obtain ⟨hk, rfl⟩ := List.getElem?_eq_some_iff.1 ht
  have hm := h.lt R[k] (List.getElem_mem hk)
  have hd : R.drop k = R[k] :: R.drop (k + 1) := List.drop_eq_getElem_cons hk
  have hin : R[k] ∈ R.drop k := by rw [hd]; exact List.mem_cons_self
  have hz : bit Z R[k] = true := by rw [h.bits _ hm.1, decide_eq_true hin, Bool.or_true]
  have h1 : turns Z R[k] false = true := by rw [turns_in hm.1, hz]; rfl
  refine ⟨hm.1, by rw [hasI_nat hm.1]; exact hz, h1, ?_, ?_⟩
  · rw [turns_false, has_cleared]
  · rw [turnB_yes h1]
    refine ⟨fun i hi => ?_, h.lt, h.nodup⟩
    rw [bit_setB hi]
    by_cases e : i = R[k]
    · rw [if_pos e]
      have hn : R[k] ∉ R.drop (k + 1) := by
        have := h.nodup
        rw [← List.take_append_drop k R, hd] at this
        have := (List.nodup_append.1 this).2.1
        exact (List.nodup_cons.1 this).1
      rw [e, hm.2]; simp [hn]
    · rw [if_neg e, h.bits i hi]
      have e3 : decide (i ∈ R.drop k) = decide (i ∈ R.drop (k + 1)) := by
        rw [decide_eq_decide, hd, List.mem_cons]
        exact ⟨fun q => q.resolve_left e, .inr⟩
      rw [e3]
theorem Given.all {X Z : Blk} {R : List Nat} (h : Given X Z R R.length) : Z = X := bit_ext fun i hi => by rw [h.bits i hi]; simp
theorem round_get {T : List Nat} {s k : Nat} (hs : s < T.length) (hk : k < T.length) : (T.drop s ++ T.take s)[k]? = T[(k + s) % T.length]? := by
  rw [List.getElem?_append, List.length_drop]
  by_cases h : k < T.length - s
  · rw [if_pos h, List.getElem?_drop, Nat.mod_eq_of_lt (by omega), Nat.add_comm]
  · rw [if_neg h, List.getElem?_take, if_pos (by omega)]
    congr 1
    rw [show k + s = (k - (T.length - s)) + T.length by omega, Nat.add_mod_right, Nat.mod_eq_of_lt (by omega)]
end Go.Proofs.Ytkblpildfeopiaa
