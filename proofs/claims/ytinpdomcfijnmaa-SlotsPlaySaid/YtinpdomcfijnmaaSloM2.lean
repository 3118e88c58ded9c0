import Derived.Test.YtinpdomcfijnmaaSloM
namespace Go.Proofs.Ytinpdomcfijnmaa
open Go.RowKit

/-! Whatever is added and removed, told plainly: the block against a list of names and inodes. -/
def cntN (p : Nat → Bool) : Nat → Nat
  | 0 => 0
  | n + 1 => cntN p n + if p n = true then 1 else 0
theorem cntN_congr {p q : Nat → Bool} : ∀ {n : Nat}, (∀ j, j < n → p j = q j) → cntN p n = cntN q n
  | 0, _ => rfl
  | n + 1, h => by
    unfold cntN
    rw [cntN_congr (fun j hj => h j (by omega)), h n (by omega)]
theorem cntN_le {p : Nat → Bool} : ∀ n, cntN p n ≤ n
  | 0 => Nat.le_refl _
  | n + 1 => by
    unfold cntN
    have := cntN_le (p := p) n
    split <;> omega
theorem cntN_one {p q : Nat → Bool} {i : Nat} : ∀ {n : Nat}, i < n → (∀ j, j ≠ i → p j = q j) → p i = false → q i = true → cntN q n = cntN p n + 1
  | 0, h, _, _, _ => absurd h (by omega)
  | n + 1, h, hj, h1, h2 => by
    unfold cntN
    by_cases e : i = n
    · subst e
      rw [cntN_congr (p := q) (q := p) (fun j q => (hj j (by omega)).symm), h1, h2]
      simp
    · rw [cntN_one (p := p) (q := q) (by omega) hj h1 h2, hj n (by omega)]
      omega
theorem cntN_full {p : Nat → Bool} : ∀ {n : Nat}, cntN p n = n → ∀ j, j < n → p j = true
  | 0, _, j, h => absurd h (by omega)
  | n + 1, h, j, hj => by
    unfold cntN at h
    have hle := cntN_le (p := p) n
    split at h
    · rename_i hp
      rcases Nat.lt_or_ge j n with u | u
      · exact cntN_full (by omega) j u
      · rw [show j = n by omega]; exact hp
    · omega
theorem cntN_all {p : Nat → Bool} : ∀ {n : Nat}, (∀ j, j < n → p j = true) → cntN p n = n
  | 0, _ => rfl
  | n + 1, h => by
    unfold cntN
    rw [cntN_all (fun j hj => h j (by omega)), h n (by omega)]
    simp
theorem cntN_none {p : Nat → Bool} : ∀ {n : Nat}, (∀ j, j < n → p j = false) → cntN p n = 0
  | 0, _ => rfl
  | n + 1, h => by
    unfold cntN
    rw [cntN_none (fun j hj => h j (by omega)), h n (by omega)]
    simp
def usedS (X : Blk) (i : Nat) : Bool := (slotS X i).ino != 0
theorem usedS_iff {X : Blk} {i : Nat} : usedS X i = true ↔ (slotS X i).ino ≠ 0 := by unfold usedS; simp
theorem usedS_not {X : Blk} {i : Nat} : usedS X i = false ↔ (slotS X i).ino = 0 := by unfold usedS; simp
abbrev Entry := ByteArray × Nat
/-- The block has just these names, each with its inode. -/
structure PL (X : Blk) (l : List Entry) : Prop where
  right : Right X
  cnt : cntN (usedS X) 8 = l.length
  mem : ∀ k (h : k < l.length), ∃ i, whereN X (l[k]).1 = some i ∧ (slotS X i).ino = (l[k]).2
  one : ∀ j k (_ : j < k) (h : k < l.length), (l[j]'(by omega)).1 ≠ (l[k]).1
  all : ∀ s i, whereN X s = some i → ∃ k, ∃ h : k < l.length, (l[k]).1 = s
theorem PL.le {X : Blk} {l : List Entry} (h : PL X l) : l.length ≤ 8 := by rw [← h.cnt]; exact cntN_le _
theorem PL.zero : PL .zero [] := by
  refine ⟨right_zero, cntN_none fun j _ => ?_, fun k h => absurd h (Nat.not_lt_zero _), fun j k _ h => absurd h (Nat.not_lt_zero _), fun s i h => ?_⟩
  · rw [usedS_not, slot_zero]; rfl
  · obtain ⟨_, h0, _⟩ := (where_some right_zero).1 h
    rw [slot_zero] at h0
    exact absurd rfl h0
theorem PL.free {X : Blk} {l : List Entry} (h : PL X l) (h8 : l.length < 8) : ∃ i, freeN X = some i := by
  rcases e : freeN X with _ | i
  · have := free_none.1 e
    have h2 := cntN_all (p := usedS X) (n := 8) fun j hj => usedS_iff.2 (this j hj)
    have := h.cnt
    omega
  · exact ⟨i, rfl⟩
theorem PL.full {X : Blk} {l : List Entry} (h : PL X l) (h8 : l.length = 8) : freeN X = none := by
  rw [free_none]
  intro j hj
  exact usedS_iff.1 (cntN_full (h.cnt.trans h8) j hj)
theorem PL.nowhere {X : Blk} {l : List Entry} (h : PL X l) {s : ByteArray} (hs : ∀ k (q : k < l.length), (l[k]).1 ≠ s) : whereN X s = none := by
  rcases e : whereN X s with _ | i
  · rfl
  · obtain ⟨k, q, hk⟩ := h.all s i e
    exact absurd hk (hs k q)
theorem used_other {X : Blk} {i j : Nat} {x : SlotV} (hne : j ≠ i) : usedS (setS X i x) j = usedS X j := by unfold usedS; rw [slot_other hne]
theorem PL.add {X : Blk} {l : List Entry} (h : PL X l) {s : ByteArray} {ino i : Nat} (hm : MayN s) (h0 : ino ≠ 0) (h1 : ino < 4294967296) (hs : ∀ k (q : k < l.length), (l[k]).1 ≠ s) (hf : freeN X = some i) : PL (setS X i ⟨ino, s⟩) (l ++ [(s, ino)]) := by
  obtain ⟨hi, hz, _⟩ := free_some.1 hf
  have hw := h.nowhere hs
  have hx := may_ok hm h0 h1
  have hr := right_add h.right hm h0 h1 hw hi
  have hwa := where_add h.right hm h0 h1 hw hi
  have hino : (slotS (setS X i ⟨ino, s⟩) i).ino = ino := by rw [slot_set hi hx]
  refine ⟨hr, ?_, fun k hk => ?_, fun j k hjk hk => ?_, fun t j hj => ?_⟩
  · rw [cntN_one (p := usedS X) hi (fun j hj => (used_other hj).symm) (usedS_not.2 hz) (usedS_iff.2 (by rw [hino]; exact h0)), h.cnt]; simp
  · rw [List.length_append] at hk
    rcases Nat.lt_or_ge k l.length with u | u
    · rw [List.getElem_append_left u]
      obtain ⟨j, hj, he⟩ := h.mem k u
      refine ⟨j, ?_, ?_⟩
      · rw [where_set_other hx hi (fun q => absurd hz q) (fun _ e => hs k u e.symm)]; exact hj
      · have : j ≠ i := by rintro rfl; have := ((where_some h.right).1 hj).2.1; exact this hz
        rw [slot_other this]; exact he
    · obtain rfl : k = l.length := by simp at hk; omega
      rw [List.getElem_append_right (Nat.le_refl _)]
      simp only [Nat.sub_self, List.getElem_cons_zero]
      exact ⟨i, hwa, hino⟩
  · rw [List.length_append] at hk
    have hjl : j < l.length := by simp at hk; omega
    rw [List.getElem_append_left hjl]
    rcases Nat.lt_or_ge k l.length with u | u
    · rw [List.getElem_append_left u]; exact h.one j k hjk u
    · obtain rfl : k = l.length := by simp at hk; omega
      rw [List.getElem_append_right (Nat.le_refl _)]
      simp only [Nat.sub_self, List.getElem_cons_zero]
      exact hs j hjl
  · by_cases e : s = t
    · subst e
      exact ⟨l.length, by simp, by rw [List.getElem_append_right (Nat.le_refl _)]; simp⟩
    · rw [where_set_other hx hi (fun q => absurd hz q) (fun _ => e)] at hj
      obtain ⟨k, hk, he⟩ := h.all t j hj
      exact ⟨k, by rw [List.length_append]; omega, by rw [List.getElem_append_left hk]; exact he⟩
theorem getElem_cut {α : Type} {l : List α} {k j : Nat} (h : j < (l.take k ++ l.drop (k + 1)).length) (hk : k < l.length) : (l.take k ++ l.drop (k + 1))[j] = l[if j < k then j else j + 1]'(by simp at h; split <;> omega) := by
  simp only [List.getElem_append]
  split
  · rename_i q
    have q' : j < k := by simp at q; omega
    simp [q']
  · rename_i q
    have q' : ¬ j < k := by simp at q; omega
    simp only [q', if_false, List.getElem_drop]
    congr 1
    rw [List.length_take]
    omega
theorem PL.rem {X : Blk} {l : List Entry} (h : PL X l) {k i : Nat} (hk : k < l.length) (hw : whereN X (l[k]).1 = some i) : PL (setS X i .free) (l.take k ++ l.drop (k + 1)) := by
  obtain ⟨hi, hne, hnm⟩ := (where_some h.right).1 hw
  have hfree : (slotS (setS X i .free) i).ino = 0 := by rw [slot_set hi .free]; rfl
  have hl : (l.take k ++ l.drop (k + 1)).length = l.length - 1 := by simp; omega
  have dist : ∀ a b (ha : a < l.length) (hb : b < l.length), a ≠ b → (l[a]).1 ≠ (l[b]).1 := fun a b ha hb hab => by
    rcases Nat.lt_or_ge a b with u | u
    · exact h.one a b u hb
    · exact (h.one b a (by omega) ha).symm
  refine ⟨right_rem h.right hi, ?_, fun j hj => ?_, fun a b hab hb => ?_, fun t j hj => ?_⟩
  · have := cntN_one (p := usedS (setS X i .free)) (q := usedS X) hi (fun j hj => used_other hj) (usedS_not.2 hfree) (usedS_iff.2 hne)
    have := h.cnt
    omega
  · rw [getElem_cut hj hk]
    rw [hl] at hj
    have hjl : (if j < k then j else j + 1) < l.length := by split <;> omega
    have hjk : (if j < k then j else j + 1) ≠ k := by split <;> omega
    obtain ⟨m, hm, he⟩ := h.mem _ hjl
    refine ⟨m, ?_, ?_⟩
    · rw [where_set_other .free hi (fun _ q => dist _ _ hk hjl (Ne.symm hjk) (hnm.symm.trans q)) (fun q => absurd rfl q)]; exact hm
    · have : m ≠ i := by
        rintro rfl
        exact dist _ _ hk hjl (Ne.symm hjk) (hnm.symm.trans ((where_some h.right).1 hm).2.2)
      rw [slot_other this]; exact he
  · rw [getElem_cut (by omega) hk, getElem_cut hb hk]
    refine dist _ _ _ _ ?_
    split <;> split <;> omega
  · have ht : (l[k]).1 ≠ t := by
      rintro rfl
      rw [where_gone h.right hw] at hj; cases hj
    rw [where_set_other .free hi (fun _ q => ht (hnm.symm.trans q)) (fun q => absurd rfl q)] at hj
    obtain ⟨m, hm, he⟩ := h.all t j hj
    have hmk : m ≠ k := by rintro rfl; exact ht he
    refine ⟨if m < k then m else m - 1, by rw [hl]; split <;> omega, ?_⟩
    rw [getElem_cut (by rw [hl]; split <;> omega) hk, ← he]
    congr 2
    by_cases q : m < k
    · simp [q]
    · rw [if_neg q, if_neg (by omega)]; omega
end Go.Proofs.Ytinpdomcfijnmaa
