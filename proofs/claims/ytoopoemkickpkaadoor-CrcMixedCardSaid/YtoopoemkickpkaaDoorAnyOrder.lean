import Derived.WalkKit
import Derived.Orders
namespace Go.Proofs.YtoopoemkickpkaaDoor

/-! A region that draws its order: one step for each operation in place of one walk for each order. -/
section
variable {P : Program} {ops : Array Oper} {md : Region.Mode} {Q : Exit → Act → World → Prop}

theorem getD_set {xs : Array Bool} {i j : Nat} {d : Bool} (hi : i < xs.size) : (xs.setIfInBounds i true).getD j d = if i = j then true else xs.getD j d := by
  simp only [Array.getD_eq_getD_getElem?, Array.getElem?_setIfInBounds]
  by_cases h : i = j
  · subst h; simp [hi]
  · simp [h]
theorem ready_of {listed : Array Bool} {i : Nat} {o : Oper} (ho : ops[i]? = some o) (h1 : listed.getD i true = false) (h2 : ∀ e ∈ o.after, Region.binds md e = true → listed.getD e.on false = true) : i ∈ Region.ready md ops listed := by
  unfold Region.ready
  rw [List.mem_filter]
  have hi : i < ops.size := by
    rcases Nat.lt_or_ge i ops.size with h | h
    · exact h
    · rw [Array.getElem?_eq_none h] at ho; cases ho
  refine ⟨List.mem_range.2 hi, ?_⟩
  rw [h1, ho]
  simp only [Bool.not_false, Bool.true_and, Option.map_some, Option.getD_some, Array.all_eq_true']
  intro e he
  by_cases hb : Region.binds md e = true
  · simp [h2 e he hb]
  · simp [Bool.eq_false_iff.2 hb]
theorem of_ready {listed : Array Bool} {i : Nat} (h : i ∈ Region.ready md ops listed) : listed.getD i true = false ∧ ∃ o, ops[i]? = some o ∧ ∀ e ∈ o.after, Region.binds md e = true → listed.getD e.on false = true := by
  unfold Region.ready at h
  rw [List.mem_filter] at h
  obtain ⟨hi, h⟩ := h
  rw [List.mem_range] at hi
  rw [Array.getElem?_eq_getElem hi] at h ⊢
  simp only [Bool.and_eq_true, Bool.not_eq_true', Option.map_some, Option.getD_some, Array.all_eq_true'] at h
  refine ⟨h.1, _, rfl, fun e he hb => ?_⟩
  have := h.2 e he
  simpa [hb] using this
theorem all_listed (back : ∀ (i : Nat) (o : Oper), ops[i]? = some o → ∀ e ∈ o.after, e.on < i) {listed : Array Bool} (hs : listed.size = ops.size) (h : Region.ready md ops listed = []) : ∀ i, i < ops.size → listed.getD i false = true := by
  intro i
  induction i using Nat.strongRecOn with
  | _ i ih =>
    intro hi
    rcases hl : listed.getD i true with _ | _
    · have hm : i ∈ Region.ready md ops listed := ready_of (Array.getElem?_eq_getElem hi) hl fun e he _ => by
        have hb := back i _ (Array.getElem?_eq_getElem hi) e he
        exact ih e.on hb (by omega)
      rw [h] at hm
      cases hm
    · simp only [Array.getD_eq_getD_getElem?, Array.getElem?_eq_getElem (show i < listed.size by omega), Option.getD_some] at hl ⊢
      exact hl

theorem wpAny_inv (back : ∀ (i : Nat) (o : Oper), ops[i]? = some o → ∀ e ∈ o.after, e.on < i) (I : Array Bool → Act → World → Prop)
    (hstep : ∀ listed a w i o, ops[i]? = some o → i < listed.size → (∀ e ∈ o.after, Region.binds md e = true → listed.getD e.on false = true) → I listed a w → wpOp P ops Q i (I (listed.setIfInBounds i true)) a w)
    (hend : ∀ listed a w, (∀ i, i < ops.size → listed.getD i false = true) → I listed a w → Q .normal a w) :
    ∀ fuel listed a w, listed.size = ops.size → listed.toList.count false ≤ fuel → I listed a w → wpAny P md ops Q fuel listed a w := by
  intro fuel
  induction fuel with
  | zero =>
    intro listed a w hs hc hI
    have hr : Region.ready md ops listed = [] := by
      rcases hr : Region.ready md ops listed with _ | ⟨i, r⟩
      · rfl
      · have hm : i ∈ Region.ready md ops listed := by rw [hr]; simp
        obtain ⟨h1, _⟩ := of_ready hm
        exfalso
        have hi : i < listed.size := by
          rcases Nat.lt_or_ge i listed.size with h | h
          · exact h
          · simp [Array.getD_eq_getD_getElem?, Array.getElem?_eq_none h] at h1
        have hmem : false ∈ listed.toList := by
          have : listed[i] = false := by simpa [Array.getD_eq_getD_getElem?, Array.getElem?_eq_getElem hi] using h1
          rw [← this]
          simp
        have := List.count_pos_iff.2 hmem
        omega
    exact ⟨hr, hend _ _ _ (all_listed back hs hr) hI⟩
  | succ fuel ih =>
    intro listed a w hs hc hI
    refine ⟨fun hr => hend _ _ _ (all_listed back hs hr) hI, fun i hi => ?_⟩
    obtain ⟨h1, o, ho, h2⟩ := of_ready hi
    have hil : i < listed.size := by
      rcases Nat.lt_or_ge i listed.size with h | h
      · exact h
      · simp [Array.getD_eq_getD_getElem?, Array.getElem?_eq_none h] at h1
    refine wpOp_mono (fun a' w' h' => ih _ a' w' (by simp [hs]) ?_ h') (hstep listed a w i o ho hil h2 hI)
    have hli : listed.toList[i]? = some false := by
      have : listed[i] = false := by simpa [Array.getD_eq_getD_getElem?, Array.getElem?_eq_getElem hil] using h1
      simp [hil, this]
    have hil' : i < listed.toList.length := by simpa using hil
    rw [Array.toList_setIfInBounds, List.count_set hil']
    rw [List.getElem?_eq_getElem hil'] at hli
    injection hli with hli
    rw [hli]
    simp only [beq_self_eq_true, if_true, show (true == false) = false from rfl, Bool.false_eq_true, if_false]
    omega
end
end Go.Proofs.YtoopoemkickpkaaDoor
