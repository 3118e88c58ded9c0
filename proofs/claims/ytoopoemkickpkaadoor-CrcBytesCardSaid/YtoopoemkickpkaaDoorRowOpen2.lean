import Derived.Test.YtoopoemkickpkaaDoorRowOpen
import Derived.Test.YtoopoemkickpkaaDoorCrcSums1
import Derived.SizedLaws
import Derived.Deep.Slices
namespace Go.Proofs.YtoopoemkickpkaaDoor
open Go.ChangeShapes Go.WideShapes Go.ChangeAt Go.RowKit Go.Deep CrcM

/-- The form's own reach bounds a slice of bytes that came in. -/
theorem opened_sized {H : Type} {enc : TypeId × Value → H} {P : Program} {t e : TypeId} (ht : P.underlying t = some (.slice e)) (he : P.underlying e = some (.int .u8)) (hc : P.cellsOf e = 1) (hby : P.bytesOf e = 1) {W : World} {a0 : Option Addr} {len cap : Nat} {d0 : DataW H} {p : List MemPlace}
    {ts : List TypeId} {ds : List (DataW H)} {j : Nat} (hsz : (DataW.weightsEach P ts ds).all (· ≤ reachBytes) = true) (htj : ts[j]? = some t) (hdj : ds[j]? = some d0)
    (h0 : DataW.Trod enc P W 0 (fun _ => true) true t (.slice a0 len cap) d0 p) : len ≤ 140737488351232 := by
  obtain ⟨fuel, hf⟩ := h0
  rcases open_ints ht he hc hf with ⟨hcs, _⟩ | ⟨x, l, c, zs, hcs, _, hl, hm, hz, hx, hcell, hwz⟩
  · simp [Value.cells] at hcs
    obtain ⟨rfl, rfl, rfl⟩ := hcs
    omega
  · simp [Value.cells] at hcs
    obtain ⟨rfl, rfl, rfl⟩ := hcs
    simp only [Prod.mk.injEq] at hx
    obtain ⟨rfl, _⟩ := hx
    have := sized_slice hsz htj hdj ht
    rw [hby] at this
    simp only [lits, List.length_map, List.length_take, List.length_drop, reachBytes] at this
    simp at hz
    omega

theorem opened_list {H : Type} {enc : TypeId × Value → H} {P : Program} {t e u : TypeId} (ht : P.underlying t = some (.slice e)) (he : P.underlying e = some (.slice u)) (hu : P.underlying u = some (.int .u8)) (hce : P.cellsOf e = 1) (hcu : P.cellsOf u = 1) {W : World} {a0 : Option Addr} {len cap : Nat} {d0 : DataW H} {p : List MemPlace}
    (h0 : DataW.Trod enc P W 0 (fun _ => true) true t (.slice a0 len cap) d0 p) : ∃ ps : Pieces, ps.length = len ∧ Lst W a0 ps := by
  obtain ⟨fuel, hf⟩ := h0
  rcases open_slice1 ht hce hf with ⟨hcs, _⟩ | ⟨a, l, c, m, n, V, D, Pl, hcs, _, hl, hm, hmm, _, hV⟩
  · simp [Value.cells] at hcs
    obtain ⟨rfl, rfl, rfl⟩ := hcs
    exact ⟨[], rfl, fun h => absurd h (by simp)⟩
  · simp [Value.cells] at hcs
    obtain ⟨rfl, rfl, rfl⟩ := hcs
    simp at hmm
    subst hmm
    have hQ : ∀ i, ∃ q : Nat × (Nat → Nat), i < len → ∃ Ai ci, V i = .slice Ai q.1 ci ∧ Row W Ai q.1 q.2 := by
      intro i
      by_cases hi : i < len
      · obtain ⟨_, hd⟩ := hV i (by omega)
        rcases open_ints he hu hcu hd with ⟨h1, _⟩ | ⟨x, l2, c2, zs, h1, _, hl2, hm2, hz2, _, hcell, hwz⟩
        · simp at h1
          exact ⟨(0, fun i => (([] : List Int).getD i 0).toNat), fun _ => ⟨none, 0, h1, row_of (zs := []) (.inl ⟨rfl, rfl, rfl, rfl⟩)⟩⟩
        · simp at h1
          exact ⟨(l2, fun i => (zs.getD i 0).toNat), fun _ => ⟨some x, c2, h1, row_of (.inr ⟨x, rfl, hl2, hm2, by simpa using hz2, hcell, hwz⟩)⟩⟩
      · exact ⟨(0, fun _ => 0), fun h => absurd h hi⟩
    obtain ⟨Q, hQ⟩ := Classical.axiomOfChoice hQ
    refine ⟨(List.range len).map Q, by simp, fun h0 => ?_⟩
    have hlen : 0 < len := by simpa using h0
    obtain ⟨h1, _⟩ := hV 0 (by omega)
    obtain ⟨b, o, spot⟩ := a
    have hspot : spot = none := by simpa [Addr.add] using World.cell?_spot h1
    subst hspot
    refine ⟨b, o, rfl, ?_, fun i q hq => ?_⟩
    · have := World.block_lt_of_cell? _ _ h1
      simpa [Addr.add] using this
    · have hi : i < len := by
        rcases Nat.lt_or_ge i len with h | h
        · exact h
        · rw [List.getElem?_eq_none (by simpa using h)] at hq; cases hq
      rw [List.getElem?_map, List.getElem?_range hi] at hq
      cases hq
      obtain ⟨Ai, ci, e1, e2⟩ := hQ i hi
      obtain ⟨h3, _⟩ := hV i (by omega)
      have e : (⟨b, o, none⟩ : Addr).add i = ⟨b, o + i, none⟩ := by unfold Addr.add; split <;> simp_all
      rw [e, e1] at h3
      exact ⟨Ai, ci, h3, e2⟩

end Go.Proofs.YtoopoemkickpkaaDoor
