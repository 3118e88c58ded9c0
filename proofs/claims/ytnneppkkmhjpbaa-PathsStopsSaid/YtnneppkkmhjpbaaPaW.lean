import Derived.Test.YtnneppkkmhjpbaaPaA
import Derived.Maps.AppendAt
namespace Go.Proofs.Ytnneppkkmhjpbaa
open Go.RowKit

/-! append of a list that came in, nil or not, onto a row of the call's own; lists as rows of cells. -/
section
variable {P : Program} (w : World)
theorem append_list_run (base : Nat) (t ty e : TypeId) (i : TypeInfo) (z : Value) (size bytes : Nat) (ht : P.underlying t = some (.slice e)) (hi : P.info? e = some i) (hz : i.zero = some z) (hsize : i.size = size) (hby : i.bytes = bytes) (hzs : z.cells.size = size) (hsz : 0 < size) (hb64 : bytes ≤ 64)
    (v : Value) (k : Nat) (xs : List Value) (hown : w.ownsRow base e size v k xs) (A : Option Addr) (n c : Nat) (cs : List Value) (hl : cs.length = n * size) (hR : 0 < n → ∃ b o, A = some ⟨b, o, none⟩ ∧ ∀ j u, cs[j]? = some u → w.cell? ⟨b, o + j, none⟩ = some u) (h1 : ∀ u ∈ cs, u.oneCell' = true) (hlen : k + n ≤ 1000000) (hbase : base ≤ w.heap.size) :
    ∃ v' w', (Builtin.append_ #[t, t] ty #[v, .slice A n c]).run P w = .ok v' w' ∧ w'.ownsRow base e size v' (k + n) (xs ++ cs) ∧ w.grownBy w' v.ownBlock := by
  rcases A with _ | ad
  · have h0 : n = 0 := by
      rcases Nat.eq_zero_or_pos n with h | h
      · exact h
      · obtain ⟨b, o, e, _⟩ := hR h
        cases e
    subst h0
    have hc : cs = [] := List.eq_nil_of_length_eq_zero (by rw [hl, Nat.zero_mul])
    subst hc
    refine ⟨v, w, ?_, by simpa using hown, World.grownBy.refl w _⟩
    rcases hown.2 with ⟨rfl, rfl⟩ | ⟨g, cap, cur, rfl, _, _, hkc, _⟩
    · simp [Builtin.append_, run_underlying ht, sizeOf, typeInfo, hi, Builtin.lenOf, Builtin.firstCells]
    · simp [Builtin.append_, run_underlying ht, sizeOf, typeInfo, hi, Builtin.lenOf, Builtin.firstCells, hkc, storeCells]
  · have hcells : ∀ j u, cs[j]? = some u → w.cell? (ad.add j) = some u := by
      intro j u hu
      have hj : j < cs.length := by
        rcases Nat.lt_or_ge j cs.length with h | h
        · exact h
        · rw [List.getElem?_eq_none h] at hu; cases hu
      obtain ⟨b, o, e, hc⟩ := hR (by
        rcases Nat.eq_zero_or_pos n with h | h
        · subst h; rw [hl, Nat.zero_mul] at hj; omega
        · exact h)
      injection e with e
      subst e
      have e : (⟨b, o, none⟩ : Addr).add j = ⟨b, o + j, none⟩ := by unfold Addr.add; split <;> simp_all
      rw [e]; exact hc j u hu
    have hb : (k + n) * bytes ≤ 140737488355328 := Nat.le_trans (Nat.mul_le_mul hlen hb64) (by decide)
    obtain ⟨v', w', h1, h2, h3, _, _⟩ := run_append_own_at (P := P) w base t ty e i z size bytes ht hi hz hsize hby hzs hsz v k xs hown ad n c cs hl hcells h1 (by simp only [maxLen]; omega) hb hbase
    exact ⟨v', w', h1, h2, h3⟩
theorem at_append_list {ops : Array Oper} {rest : List Oper} {o : Oper} {a : Act} {Q : Exit → Act → World → Prop} (hgd : o.guard = none) (s x : Operand) (t : TypeId)
    (ho : o.op = .call { callee := .builtin .append, args := #[s, x], argTypes := #[t, t] })
    (base : Nat) (e : TypeId) (i : TypeInfo) (z : Value) (size bytes : Nat) (ht : P.underlying t = some (.slice e)) (hi : P.info? e = some i) (hz : i.zero = some z) (hsize : i.size = size) (hby : i.bytes = bytes) (hzs : z.cells.size = size) (hsz : 0 < size) (hb64 : bytes ≤ 64)
    (v : Value) (k : Nat) (xs : List Value) (hs : a.eval s = v) (hown : w.ownsRow base e size v k xs)
    (A : Option Addr) (n c : Nat) (cs : List Value) (hx : a.eval x = .slice A n c) (hl : cs.length = n * size) (hR : 0 < n → ∃ b o, A = some ⟨b, o, none⟩ ∧ ∀ j u, cs[j]? = some u → w.cell? ⟨b, o + j, none⟩ = some u) (h1 : ∀ u ∈ cs, u.oneCell' = true) (hlen : k + n ≤ 1000000) (hbase : base ≤ w.heap.size)
    (h : ∀ v' w', w'.ownsRow base e size v' (k + n) (xs ++ cs) → w.grownBy w' v.ownBlock → wpList P ops Q rest (a.put o.dst v') w') :
    wpList P ops Q (o :: rest) a w := by
  refine wpList_plain hgd fun K hK => ?_
  obtain ⟨v', w', hrun, h2, h3⟩ := append_list_run (P := P) w base t o.type e i z size bytes ht hi hz hsize hby hzs hsz hb64 v k xs hown A n c cs hl hR h1 hlen hbase
  unfold Oper.wp execOp
  simp only [ho, resolve, invoke, builtin, Sem.run_bind, Sem.run_pure, Result.andThen_ok, List.map_toArray, List.map_cons, List.map_nil, hs, hx, hrun]
  exact hK _ _ (h v' w' h2 h3)
end
theorem ints_cells {w : World} {A : Option Addr} {l : List Int} (h : IntsAt w A l) : 0 < l.length → ∃ b o, A = some ⟨b, o, none⟩ ∧ ∀ j u, (iC l)[j]? = some u → w.cell? ⟨b, o + j, none⟩ = some u := fun h0 => by
  obtain ⟨b, o, e, _, hc⟩ := h h0
  refine ⟨b, o, e, fun j u hu => ?_⟩
  unfold iC at hu
  rw [List.getElem?_map] at hu
  obtain ⟨v, hv, rfl⟩ := Option.map_eq_some_iff.1 hu
  exact hc j v hv
theorem run_buildI0 (w : World) : (Instr.buildSlice 22 0 #[]).run Try.prog w = .ok (.slice (some ⟨w.heap.size, 0, none⟩) 0 0) (w.alloc (.cells #[] 3)) := by
  obtain ⟨i, hi, hs⟩ := Option.map_eq_some_iff.1 (show (Try.prog.info? 3).map (·.size) = some 1 by kernel_rfl)
  simp [Instr.buildSlice, run_underlying Try.underlying22, sizeOf, typeInfo, hi, newRow]
  rw [show Instr.fill (fun k => some (k * i.size, i.size)) (Array.map (fun _ => default) (Array.range 0)) [] = some #[] from by simp [Instr.fill, Array.range]]
  rfl
theorem own_none {w : World} {base : Nat} (e : TypeId) (size : Nat) (hb : base ≤ w.heap.size) : (w.alloc (.cells #[] e)).ownsRow base e size (.slice (some ⟨w.heap.size, 0, none⟩) 0 0) 0 [] :=
  ⟨by simp, .inr ⟨w.heap.size, 0, #[], rfl, hb, heap_alloc_new w _, Nat.le_refl _, Nat.zero_le _, by simp, by simp⟩⟩
theorem low_app {w w' : World} {o : Obj} (hg : (w.alloc o).grownBy w' (some w.heap.size)) : Below w.heap.size w w' :=
  (below_newI w o).trans (Only.below (B := w.heap.size) (show Only w.heap.size (w.alloc o) w' from ⟨hg.os, hg.tape, hg.output, hg.size, fun i hi hne => hg.block i hi hne⟩) (Nat.le_refl _) (by simp))
end Go.Proofs.Ytnneppkkmhjpbaa
