import Derived.Test.YtjiooadakklmlaaJbL5
import Derived.Maps.AppendAt
namespace Go.Proofs.Ytjiooadakklmlaa
open Go.RowKit

/-! append of a list that came in, nil or not, onto a row of the call's own; lists as rows of cells. -/
section
variable {P : Program} (w : World)
theorem append_list_run (base : Nat) (t ty e : TypeId) (i : TypeInfo) (z : Value) (size bytes : Nat) (ht : P.underlying t = some (.slice e)) (hi : P.info? e = some i) (hz : i.zero = some z) (hsize : i.size = size) (hby : i.bytes = bytes) (hzs : z.cells.size = size) (hsz : 0 < size) (hb64 : bytes ≤ 64)
    (v : Value) (k : Nat) (xs : List Value) (hown : w.ownsRow base e size v k xs) (A : Option Addr) (n c : Nat) (cs : List Value) (hl : cs.length = n * size) (hR : 0 < n → ∃ b o, A = some ⟨b, o, none⟩ ∧ ∀ j u, cs[j]? = some u → w.cell? ⟨b, o + j, none⟩ = some u) (h1 : ∀ u ∈ cs, u.oneCell' = true) (hlen : k + n ≤ 1000000) (hbase : base ≤ w.heap.size) :
    ∃ v' w', (Builtin.append_ #[t, t] ty #[v, .slice A n c]).run P w = .ok v' w' ∧ w'.ownsRow base e size v' (k + n) (xs ++ cs) ∧ w.grownBy w' v.ownBlock := by
  rcases A with _ | ad
  · have h0 : n = 0 := by
      rcases Nat.eq_zero_or_pos n with h | h
      · exact h
      · obtain ⟨b, o, e, _⟩ := hR h
        cases e
    subst h0
    have hc : cs = [] := List.eq_nil_of_length_eq_zero (by rw [hl, Nat.zero_mul])
    subst hc
    refine ⟨v, w, ?_, by simpa using hown, World.grownBy.refl w _⟩
    rcases hown.2 with ⟨rfl, rfl⟩ | ⟨g, cap, cur, rfl, _, _, hkc, _⟩
    · simp [Builtin.append_, run_underlying ht, sizeOf, typeInfo, hi, Builtin.lenOf, Builtin.firstCells]
    · simp [Builtin.append_, run_underlying ht, sizeOf, typeInfo, hi, Builtin.lenOf, Builtin.firstCells, hkc, storeCells]
  · have hcells : ∀ j u, cs[j]? = some u → w.cell? (ad.add j) = some u := by
      intro j u hu
      have hj : j < cs.length := by
        rcases Nat.lt_or_ge j cs.length with h | h
        · exact h
        · rw [List.getElem?_eq_none h] at hu; cases hu
      obtain ⟨b, o, e, hc⟩ := hR (by
        rcases Nat.eq_zero_or_pos n with h | h
        · subst h; rw [hl, Nat.zero_mul] at hj; omega
        · exact h)
      injection e with e
      subst e
      have e : (⟨b, o, none⟩ : Addr).add j = ⟨b, o + j, none⟩ := by unfold Addr.add; split <;> simp_all
      rw [e]; exact hc j u hu
    have hb : (k + n) * bytes ≤ 140737488355328 := Nat.le_trans (Nat.mul_le_mul hlen hb64) (by decide)
    obtain ⟨v', w', h1, h2, h3, _, _⟩ := run_append_own_at (P := P) w base t ty e i z size bytes ht hi hz hsize hby hzs hsz v k xs hown ad n c cs hl hcells h1 (by simp only [maxLen]; omega) hb hbase
    exact ⟨v', w', h1, h2, h3⟩
theorem at_append_list {ops : Array Oper} {rest : List Oper} {o : Oper} {a : Act} {Q : Exit → Act → World → Prop} (hgd : o.guard = none) (s x : Operand) (t : TypeId)
    (ho : o.op = .call { callee := .builtin .append, args := #[s, x], argTypes := #[t, t] })
    (base : Nat) (e : TypeId) (i : TypeInfo) (z : Value) (size bytes : Nat) (ht : P.underlying t = some (.slice e)) (hi : P.info? e = some i) (hz : i.zero = some z) (hsize : i.size = size) (hby : i.bytes = bytes) (hzs : z.cells.size = size) (hsz : 0 < size) (hb64 : bytes ≤ 64)
    (v : Value) (k : Nat) (xs : List Value) (hs : a.eval s = v) (hown : w.ownsRow base e size v k xs)
    (A : Option Addr) (n c : Nat) (cs : List Value) (hx : a.eval x = .slice A n c) (hl : cs.length = n * size) (hR : 0 < n → ∃ b o, A = some ⟨b, o, none⟩ ∧ ∀ j u, cs[j]? = some u → w.cell? ⟨b, o + j, none⟩ = some u) (h1 : ∀ u ∈ cs, u.oneCell' = true) (hlen : k + n ≤ 1000000) (hbase : base ≤ w.heap.size)
    (h : ∀ v' w', w'.ownsRow base e size v' (k + n) (xs ++ cs) → w.grownBy w' v.ownBlock → wpList P ops Q rest (a.put o.dst v') w') :
    wpList P ops Q (o :: rest) a w := by
  refine wpList_plain hgd fun K hK => ?_
  obtain ⟨v', w', hrun, h2, h3⟩ := append_list_run (P := P) w base t o.type e i z size bytes ht hi hz hsize hby hzs hsz hb64 v k xs hown A n c cs hl hR h1 hlen hbase
  unfold Oper.wp execOp
  simp only [ho, resolve, invoke, builtin, Sem.run_bind, Sem.run_pure, Result.andThen_ok, List.map_toArray, List.map_cons, List.map_nil, hs, hx, hrun]
  exact hK _ _ (h v' w' h2 h3)
end
theorem tags_cells {w : World} {A : Option Addr} {l : List TagV} (h : TagsAt w A l) : 0 < l.length → ∃ b o, A = some ⟨b, o, none⟩ ∧ ∀ j u, (tC l)[j]? = some u → w.cell? ⟨b, o + j, none⟩ = some u := fun h0 => by
  obtain ⟨b, o, e, _, hc⟩ := h h0
  refine ⟨b, o, e, fun j u hu => ?_⟩
  have hj : j < l.length * 2 := by
    rw [← tC_length]
    rcases Nat.lt_or_ge j (tC l).length with q | q
    · exact q
    · rw [List.getElem?_eq_none q] at hu; cases hu
  have hk : l[j / 2]? = some (l[j / 2]'(by omega)) := List.getElem?_eq_getElem (by omega)
  have e2 := tC_get hk (Nat.mod_lt j (by omega : 0 < 2))
  rw [show j / 2 * 2 + j % 2 = j by omega, hu] at e2
  have := hc (j / 2) _ hk (j % 2) u (by rw [Array.getElem?_toList, ← e2])
  rwa [show o + j / 2 * 2 + j % 2 = o + j by omega] at this
theorem nums_cells {w : World} {A : Option Addr} {l : List Nat} (h : NumsAt w A l) : 0 < l.length → ∃ b o, A = some ⟨b, o, none⟩ ∧ ∀ j u, (nC l)[j]? = some u → w.cell? ⟨b, o + j, none⟩ = some u := fun h0 => by
  obtain ⟨b, o, e, _, hc⟩ := h h0
  refine ⟨b, o, e, fun j u hu => ?_⟩
  unfold nC at hu
  rw [List.getElem?_map] at hu
  obtain ⟨v, hv, rfl⟩ := Option.map_eq_some_iff.1 hu
  exact hc j v hv
theorem run_buildT0 (w : World) : (Instr.buildSlice 25 0 #[]).run Try.prog w = .ok (.slice (some ⟨w.heap.size, 0, none⟩) 0 0) (w.alloc (.cells #[] 62)) := by
  obtain ⟨i, hi, hs⟩ := Option.map_eq_some_iff.1 tag_size2
  simp [Instr.buildSlice, run_underlying Try.underlying25, sizeOf, typeInfo, hi, newRow]
  rw [show Instr.fill (fun k => some (k * i.size, i.size)) (Array.map (fun _ => default) (Array.range 0)) [] = some #[] from by simp [Instr.fill, Array.range]]
  rfl
theorem u32_size1 : (Try.prog.info? 22).map (·.size) = some 1 := by kernel_rfl
theorem run_buildN0 (w : World) : (Instr.buildSlice 26 0 #[]).run Try.prog w = .ok (.slice (some ⟨w.heap.size, 0, none⟩) 0 0) (w.alloc (.cells #[] 22)) := by
  obtain ⟨i, hi, hs⟩ := Option.map_eq_some_iff.1 u32_size1
  simp [Instr.buildSlice, run_underlying Try.underlying26, sizeOf, typeInfo, hi, newRow]
  rw [show Instr.fill (fun k => some (k * i.size, i.size)) (Array.map (fun _ => default) (Array.range 0)) [] = some #[] from by simp [Instr.fill, Array.range]]
  rfl
theorem own_none {w : World} {base : Nat} (e : TypeId) (size : Nat) (hb : base ≤ w.heap.size) : (w.alloc (.cells #[] e)).ownsRow base e size (.slice (some ⟨w.heap.size, 0, none⟩) 0 0) 0 [] :=
  ⟨by simp, .inr ⟨w.heap.size, 0, #[], rfl, hb, heap_alloc_new w _, Nat.le_refl _, Nat.zero_le _, by simp, by simp⟩⟩
theorem low_app {w w' : World} {o : Obj} (hg : (w.alloc o).grownBy w' (some w.heap.size)) : Below w.heap.size w w' :=
  (below_new w o).trans (Only.below (B := w.heap.size) (show Only w.heap.size (w.alloc o) w' from ⟨hg.os, hg.tape, hg.output, hg.size, fun i hi hne => hg.block i hi hne⟩) (Nat.le_refl _) (by simp))
end Go.Proofs.Ytjiooadakklmlaa
