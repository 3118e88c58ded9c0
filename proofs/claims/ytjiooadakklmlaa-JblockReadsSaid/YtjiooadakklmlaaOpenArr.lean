import Derived.Test.YtjiooadakklmlaaOpen
namespace Go.Proofs.Ytjiooadakklmlaa
open Go.ChangeShapes Go.WideShapes Go.ChangeAt Go.RowKit Go.Deep

/-! Arrays, opened: each element by the relation R. -/
theorem Reads.array {P : Program} {t e : TypeId} {n : Nat} {α : Type} {R : World → List Value → α → Prop} (ht : P.underlying t = some (.array n e)) (h : Reads P e R) :
    Reads P t (fun w cs (l : List α) => cs.length = P.cellsOf t ∧ l.length = n ∧ ∀ i x, l[i]? = some x → R w ((cs.drop (i * P.cellsOf e)).take (P.cellsOf e)) x) := by
  intro H enc w fuel cs x hx hsz
  obtain ⟨xs, m, _, rfl, hl, hn, hel⟩ := DataW.trod_array ht hx
  have hq : ∀ i, ∃ q : Option α, i < n → ∃ y, q = some y ∧ R w ((cs.drop (i * P.cellsOf e)).take (P.cellsOf e)) y := by
    intro i
    by_cases hi : i < n
    · have h1 := hel i hi
      have h2 : xs[i]? = some xs[i] := List.getElem?_eq_getElem (by omega)
      rw [h2] at h1
      obtain ⟨y, hy⟩ := h H enc w m _ _ h1 (fun k hk => hsz k (by
        simp only [DataW.weights, ht]
        exact mem_weightsAll (d := xs[i].1) (List.mem_map.2 ⟨_, List.getElem_mem _, rfl⟩) k hk))
      exact ⟨some y, fun _ => ⟨y, rfl, hy⟩⟩
    · exact ⟨none, fun q => absurd q hi⟩
  obtain ⟨Q, hQ⟩ := Classical.axiomOfChoice hq
  have key : ∀ k, k ≤ n → ∃ l : List α, l.length = k ∧ ∀ i x, l[i]? = some x → R w ((cs.drop (i * P.cellsOf e)).take (P.cellsOf e)) x := by
    intro k
    induction k with
    | zero => intro _; exact ⟨[], rfl, fun i x hx => by simp at hx⟩
    | succ k ih =>
      intro hk
      obtain ⟨l, h1, h2⟩ := ih (by omega)
      obtain ⟨y, _, hy⟩ := hQ k (by omega)
      refine ⟨l ++ [y], by simp [h1], fun i x hx => ?_⟩
      rw [List.getElem?_append] at hx
      split at hx
      · exact h2 i x hx
      · rename_i hni
        rcases Nat.lt_or_ge (i - l.length) 1 with u | u
        · obtain rfl : i = k := by omega
          rw [h1, Nat.sub_self] at hx
          simp at hx
          subst hx
          exact hy
        · rw [List.getElem?_eq_none (by simpa using u)] at hx; cases hx
  obtain ⟨l, h1, h2⟩ := key n (Nat.le_refl _)
  exact ⟨l, hl, h1, h2⟩
theorem okWide_array {P : Program} {w : World} {r : Reach} {base : Nat} {t e : TypeId} {n : Nat} {v : Value} (ht : P.underlying t = some (.array n e)) (h : Value.okWide P w r base t v) : ∃ cs, v = .agg cs ∧ cs.size = P.cellsOf t := by
  simp only [Value.okWide, ht] at h
  obtain ⟨cs, h1, h2, _⟩ := h
  exact ⟨cs, h1, h2⟩
end Go.Proofs.Ytjiooadakklmlaa
