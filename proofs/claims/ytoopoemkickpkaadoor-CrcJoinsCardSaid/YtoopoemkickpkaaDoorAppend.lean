import Derived.Test.YtoopoemkickpkaaDoorNumsOwn
import Derived.Maps.AppendAt
namespace Go.Proofs.YtoopoemkickpkaaDoor
open Go.RowKit

/-! append of bytes that came in, nil or not, onto a row of the call's own. -/
def vals8 (f : Nat → Nat) (n : Nat) : List Value := (List.range n).map fun i => Value.int .u8 ((f i : Nat) : Int)
theorem vals8_length (f : Nat → Nat) (n : Nat) : (vals8 f n).length = n := by simp [vals8]
theorem vals8_get {f : Nat → Nat} {n i : Nat} (h : i < n) : (vals8 f n)[i]? = some (.int .u8 ((f i : Nat) : Int)) := by
  simp [vals8, List.getElem?_range h]
theorem vals8_one {f : Nat → Nat} {n : Nat} : ∀ u ∈ vals8 f n, u.oneCell' = true := by
  intro u hu
  simp only [vals8, List.mem_map] at hu
  obtain ⟨i, _, rfl⟩ := hu
  rfl

section
variable {P : Program} (w : World)
theorem append_row_run (base : Nat) (t ty e : TypeId) (i : TypeInfo) (ht : P.underlying t = some (.slice e)) (hi : P.info? e = some i) (hz : i.zero = some (.int .u8 0)) (hsize : i.size = 1) (hby : i.bytes = 1)
    (v : Value) (k : Nat) (xs : List Value) (hown : w.ownsRow base e 1 v k xs) (A : Option Addr) (n c : Nat) (f : Nat → Nat) (hR : Row w A n f) (hlen : k + n ≤ 1000000) (hbase : base ≤ w.heap.size) :
    ∃ v' w', (Builtin.append_ #[t, t] ty #[v, .slice A n c]).run P w = .ok v' w' ∧ w'.ownsRow base e 1 v' (k + n) (xs ++ vals8 f n) ∧ w.grownBy w' v.ownBlock ∧ (v'.ownBlock = v.ownBlock ∨ v'.ownBlock = some w.heap.size) := by
  rcases A with _ | ad
  · have h0 : n = 0 := by
      rcases Nat.eq_zero_or_pos n with h | h
      · exact h
      · obtain ⟨b, o, e, _⟩ := hR.2 h
        cases e
    subst h0
    refine ⟨v, w, ?_, by simpa [vals8] using hown, World.grownBy.refl w _, .inl rfl⟩
    rcases hown.2 with ⟨rfl, rfl⟩ | ⟨g, cap, cur, rfl, _, _, hkc, _⟩
    · simp [Builtin.append_, run_underlying ht, sizeOf, typeInfo, hi, Builtin.lenOf, Builtin.firstCells]
    · simp [Builtin.append_, run_underlying ht, sizeOf, typeInfo, hi, Builtin.lenOf, Builtin.firstCells, hkc, storeCells]
  · have hcells : ∀ j u, (vals8 f n)[j]? = some u → w.cell? (ad.add j) = some u := by
      intro j u hu
      have hj : j < n := by
        rcases Nat.lt_or_ge j n with h | h
        · exact h
        · rw [List.getElem?_eq_none (by rw [vals8_length]; exact h)] at hu; cases hu
      obtain ⟨b, o, e, _, hc⟩ := hR.2 (by omega)
      injection e with e
      subst e
      have e : (⟨b, o, none⟩ : Addr).add j = ⟨b, o + j, none⟩ := by unfold Addr.add; split <;> simp_all
      rw [e, hc j hj, ← hu, vals8_get hj]
    obtain ⟨v', w', h1, h2, h3, _, h5⟩ := run_append_own_at (P := P) w base t ty e i (.int .u8 0) 1 1 ht hi hz hsize hby rfl (by omega) v k xs hown ad n c (vals8 f n) (by rw [vals8_length]; omega) hcells vals8_one (by simp only [maxLen]; omega) (by omega) hbase
    exact ⟨v', w', h1, h2, h3, h5⟩

theorem at_append_row {ops : Array Oper} {rest : List Oper} {o : Oper} {a : Act} {Q : Exit → Act → World → Prop} (hgd : o.guard = none) (s x : Operand) (t : TypeId)
    (ho : o.op = .call { callee := .builtin .append, args := #[s, x], argTypes := #[t, t] })
    (base : Nat) (e : TypeId) (i : TypeInfo) (ht : P.underlying t = some (.slice e)) (hi : P.info? e = some i) (hz : i.zero = some (.int .u8 0)) (hsize : i.size = 1) (hby : i.bytes = 1)
    (v : Value) (k : Nat) (xs : List Value) (hs : a.eval s = v) (hown : w.ownsRow base e 1 v k xs)
    (A : Option Addr) (n c : Nat) (f : Nat → Nat) (hx : a.eval x = .slice A n c) (hR : Row w A n f) (hlen : k + n ≤ 1000000) (hbase : base ≤ w.heap.size)
    (h : ∀ v' w', w'.ownsRow base e 1 v' (k + n) (xs ++ vals8 f n) → w.grownBy w' v.ownBlock → (v'.ownBlock = v.ownBlock ∨ v'.ownBlock = some w.heap.size) → wpList P ops Q rest (a.put o.dst v') w') :
    wpList P ops Q (o :: rest) a w := by
  refine wpList_plain hgd fun K hK => ?_
  obtain ⟨v', w', hrun, h2, h3, h4⟩ := append_row_run (P := P) w base t o.type e i ht hi hz hsize hby v k xs hown A n c f hR hlen hbase
  unfold Oper.wp execOp
  simp only [ho, resolve, invoke, builtin, Sem.run_bind, Sem.run_pure, Result.andThen_ok, List.map_toArray, List.map_cons, List.map_nil, hs, hx, hrun]
  exact hK _ _ (h v' w' h2 h3 h4)
end

/-- What an owned row of bytes is: a slice value of the call's own. -/
theorem own_of_row {w : World} {base : Nat} {e : TypeId} {v : Value} {n : Nat} {f : Nat → Nat} (hf : ∀ i, f i < 256) (h : w.ownsRow base e 1 v n (vals8 f n)) :
    ∃ A c, v = .slice A n c ∧ n ≤ c ∧ c ≤ maxLen ∧ Own w base A n f := by
  rcases h.2 with ⟨rfl, rfl⟩ | ⟨g, cap, cur, rfl, hb, hh, hnc, hm, hs, ht⟩
  · exact ⟨none, 0, rfl, Nat.le_refl _, Nat.zero_le _, hf, fun h => absurd h (by omega)⟩
  · refine ⟨_, _, rfl, hnc, hm, hf, fun _ => ⟨g, 0, rfl, hb, e, cur, hh, fun i hi => ?_⟩⟩
    have h1 := vals8_get (f := f) hi
    rw [← ht, List.getElem?_take] at h1
    simp only [Nat.mul_one, hi, if_true] at h1
    rw [Nat.zero_add, ← h1]
    simp

theorem at_append_nil {P : Program} (w : World) {ops : Array Oper} {rest : List Oper} {o : Oper} {a : Act} {Q : Exit → Act → World → Prop} (hgd : o.guard = none) (s x : Operand) (t : TypeId)
    (ho : o.op = .call { callee := .builtin .append, args := #[s, x], argTypes := #[t, t] })
    (e : TypeId) (i : TypeInfo) (ht : P.underlying t = some (.slice e)) (hi : P.info? e = some i) (hz : i.zero = some (.int .u8 0)) (hsize : i.size = 1) (hby : i.bytes = 1)
    (hs : a.eval s = .slice none 0 0) (A : Option Addr) (n c : Nat) (f : Nat → Nat) (hx : a.eval x = .slice A n c) (hR : Row w A n f) (hlen : n ≤ 1000000)
    (h : ∀ A' c' w', n ≤ c' → c' ≤ maxLen → Own w' w.heap.size A' n f → Below w.heap.size w w' → wpList P ops Q rest (a.put o.dst (.slice A' n c')) w') :
    wpList P ops Q (o :: rest) a w := by
  refine at_append_row w hgd s x t ho w.heap.size e i ht hi hz hsize hby (.slice none 0 0) 0 [] hs (World.ownsRow_nil _ _ _ _) A n c f hx hR (by omega) (Nat.le_refl _) fun v' w' h1 h2 _ => ?_
  rw [Nat.zero_add, List.nil_append] at h1
  obtain ⟨A', c', rfl, h3, h4, h5⟩ := own_of_row hR.1 h1
  exact h A' c' w' h3 h4 h5 ((Below.refl _ _).grown h2 (Nat.le_refl _) (fun k hk => by cases hk))

end Go.Proofs.YtoopoemkickpkaaDoor
