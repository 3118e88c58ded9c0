import Derived.Test.YtmlmpflfejbbcaaDoorRound
import Derived.Test.YtmlmpflfejbbcaaDoorRows
import Derived.WalkKit
namespace Go.Proofs.YtmlmpflfejbbcaaDoor
open Go.RowKit

/-! A region that draws its order and whose stores may come up among its other operations: a class of worlds that knows what has come up. Every operation's value is the same in all of them. -/
section
variable {P : Program} {ops : Array Oper} {md : Region.Mode} {D : Array Bool → World → Prop}
def sUpon (P : Program) (D : Array Bool → World → Prop) (i : Nat) (seen : Array Bool) (v : Value) : Result Next → Prop
  | .ok (.value u) w' => D (seen.setIfInBounds i true) w' ∧ u = v
  | .ok .skip w' => D (seen.setIfInBounds i true) w' ∧ v = undef
  | .ok (.enter f args) w' => Calls P f args w' fun e w'' => e = .returned v ∧ D (seen.setIfInBounds i true) w''
  | _ => False
def sAt (P : Program) (D : Array Bool → World → Prop) (o : Oper) (a : Act) (i : Nat) (v : Value) : Prop := ∀ seen w, seen.getD i true = false → D seen w → sUpon P D i seen v ((execOp a.eval o).run P w)
def sPass (D : Array Bool → World → Prop) (i : Nat) : Prop := ∀ seen w, seen.getD i true = false → D seen w → D (seen.setIfInBounds i true) w
def sYields (P : Program) (ops : Array Oper) (D : Array Bool → World → Prop) (o : Oper) (i : Nat) (v : Value) (a : Act) : Prop :=
  (Region.wanted o (yielded ops a.tmps) = true ∧ sAt P D o a i v) ∨ (Region.wanted o (yielded ops a.tmps) = false ∧ sPass D i ∧ v = undef)
def sOp (P : Program) (ops : Array Oper) (D : Array Bool → World → Prop) (i : Nat) (K : Act → Prop) (a : Act) : Prop := ∃ o v, ops[i]? = some o ∧ sYields P ops D o i v a ∧ K (a.put o.dst v)
theorem sOp_mono {i : Nat} {K K' : Act → Prop} {a : Act} (h : ∀ a, K a → K' a) : sOp P ops D i K a → sOp P ops D i K' a
  | ⟨o, v, h1, h2, h3⟩ => ⟨o, v, h1, h2, h _ h3⟩
theorem sYields_same {o : Oper} {i : Nat} {v : Value} {a a' : Act} (h : sYields P ops D o i v a) (he : execOp a'.eval o = execOp a.eval o) (hw : Region.wanted o (yielded ops a'.tmps) = Region.wanted o (yielded ops a.tmps)) : sYields P ops D o i v a' := by
  unfold sYields sAt at *
  rw [he, hw]
  exact h
theorem sOp_put {i j : Nat} {oi oj : Oper} {v : Value} {K : Act → Prop} {a : Act} (hj : ops[j]? = some oj) (hap : oi.apart ops oj = true) (hsi : ∀ cs b, oi.op ≠ .select cs b) (hsj : ∀ cs b, oj.op ≠ .select cs b)
    (hy : sYields P ops D oi i v a) (h : sOp P ops D j K (a.put oi.dst v)) : sOp P ops D j (fun a' => sYields P ops D oi i v a' ∧ K (a'.put oi.dst v)) a := by
  obtain ⟨h1, h2, h3⟩ := Oper.apart_spec hap
  obtain ⟨o, u, ho, hu, hK⟩ := h
  obtain rfl : o = oj := Option.some.inj (ho.symm.trans hj)
  refine ⟨o, u, ho, ?_, sYields_same hy (execOp_put oi hsi a o.dst u h3) (wanted_put oi a o.dst u h3), by rw [← Act.put_comm a v u h2]; exact hK⟩
  exact sYields_same hu (execOp_put o hsj a oi.dst v h1).symm (wanted_put o a oi.dst v h1).symm
def anyS (P : Program) (md : Region.Mode) (ops : Array Oper) (D : Array Bool → World → Prop) (Q : Act → Prop) : Nat → Array Bool → Act → Prop
  | 0, seen, a => Region.ready md ops seen = [] ∧ Q a
  | f + 1, seen, a => (Region.ready md ops seen = [] → Q a) ∧ ∀ i ∈ Region.ready md ops seen, sOp P ops D i (anyS P md ops D Q f (seen.setIfInBounds i true)) a
theorem anyS_first {Q : Act → Prop} {i : Nat} {oi : Oper} {v : Value} (hi : ops[i]? = some oi) (hsel : ∀ (j : Nat) (o : Oper) cs b, ops[j]? = some o → o.op ≠ .select cs b) :
    ∀ (f : Nat) (seen : Array Bool) (a : Act), (∀ j oj, ops[j]? = some oj → j ≠ i → seen.getD j true = false → (∀ e ∈ oj.after, Region.binds md e = true → e.on ≠ i) → oi.apart ops oj = true) →
      i ∈ Region.ready md ops seen → sYields P ops D oi i v a → anyS P md ops D Q f (seen.setIfInBounds i true) (a.put oi.dst v) → anyS P md ops D Q (f + 1) seen a := by
  intro f
  induction f with
  | zero =>
    intro seen a _ hr hy H
    refine ⟨fun h => (by rw [h] at hr; cases hr), fun j hj => ?_⟩
    by_cases e : j = i
    · subst e; exact ⟨oi, v, hi, hy, H⟩
    · have := ready_mono hj e
      rw [H.1] at this
      cases this
  | succ f ih =>
    intro seen a hfree hr hy H
    refine ⟨fun h => (by rw [h] at hr; cases hr), fun j hj => ?_⟩
    by_cases e : j = i
    · subst e; exact ⟨oi, v, hi, hy, H⟩
    · obtain ⟨hjun, oj, hoj, hall⟩ := mem_ready.1 hj
      have hap := hfree j oj hoj e hjun fun x hx hb hon => by
        have := hall x hx hb
        rw [hon, getD_both (mem_ready.1 hr).1] at this
        cases this
      refine sOp_mono (fun a' h => ih (seen.setIfInBounds j true) a' (fun k ok hk hki hkun hno => ?_) (ready_mono hr (Ne.symm e)) h.1 ?_) (sOp_put hoj hap (fun cs b => hsel i oi cs b hi) (fun cs b => hsel j oj cs b hoj) hy (H.2 j (ready_mono hj e)))
      · refine hfree k ok hk hki ?_ hno
        by_cases q : j = k
        · subst q; exact hjun
        · rwa [getD_set_ne true q] at hkun
      · rw [Array.setIfInBounds_comm _ _ e]; exact h.2
/-- The walk, in the text's order. -/
def wpS (P : Program) (ops : Array Oper) (D : Array Bool → World → Prop) (Q : Act → Prop) : Nat → Nat → Act → Prop
  | 0, _, a => Q a
  | f + 1, k, a => sOp P ops D k (wpS P ops D Q f (k + 1)) a
theorem anyS_lex {Q : Act → Prop} (hsel : Region.noSelect ops = true) : ∀ (f k : Nat) (seen : Array Bool) (a : Act), Region.lexFrom md ops f k seen = true → wpS P ops D Q f k a → anyS P md ops D Q f seen a
  | 0, _, _, _, hB, h => ⟨by simpa [Region.lexFrom] using hB, h⟩
  | f + 1, k, seen, a, hB, h => by
    simp only [Region.lexFrom, Bool.and_eq_true] at hB
    obtain ⟨o, v, h0, hy, hK⟩ := h
    exact anyS_first h0 (Region.noSelect_spec hsel) f seen a (Region.free_spec h0 hB.1.2) (by simpa using hB.1.1) hy (anyS_lex hsel f (k + 1) _ _ hB.2 hK)
theorem any_of_anyS {Q : Act → Prop} {Q' : Exit → Act → World → Prop} (hQ : ∀ seen a w, Region.ready md ops seen = [] → D seen w → Q a → Q' .normal a w) : ∀ (f : Nat) (seen : Array Bool) (a : Act) (w : World), D seen w → anyS P md ops D Q f seen a → wpAny P md ops Q' f seen a w
  | 0, seen, a, w, hD, h => ⟨h.1, hQ _ _ _ h.1 hD h.2⟩
  | f + 1, seen, a, w, hD, h => by
    refine ⟨fun h0 => hQ _ _ _ h0 hD (h.1 h0), fun i hi => ?_⟩
    obtain ⟨o, v, ho, hy, hK⟩ := h.2 i hi
    have hun := (mem_ready.1 hi).1
    unfold wpOp
    simp only [ho]
    rcases hy with ⟨hw, hv⟩ | ⟨hw, hp, rfl⟩
    · simp only [hw, if_true]
      refine .inl ?_
      have h3 := hv seen w hun hD
      unfold Oper.wp
      generalize (execOp a.eval o).run P w = r at h3 ⊢
      cases r with
      | ok n w' =>
        cases n with
        | value u => obtain ⟨h4, rfl⟩ := h3; exact any_of_anyS hQ f _ _ _ h4 hK
        | skip => obtain ⟨h4, rfl⟩ := h3; exact any_of_anyS hQ f _ _ _ h4 hK
        | enter g args => exact Calls.mono h3 fun e w'' q => by obtain ⟨rfl, h4⟩ := q; exact any_of_anyS hQ f _ _ _ h4 hK
        | _ => exact h3.elim
      | halt x w' => exact h3.elim
    · simp only [hw, Bool.false_eq_true, if_false]
      exact any_of_anyS hQ f _ _ _ (hp _ _ hun hD) hK
/-- All have come up. -/
def AllSeen (m : Nat) (seen : Array Bool) : Prop := ∀ i, i < m → seen.getD i false = true
def backB (ops : Array Oper) : Bool := (List.range ops.size).all fun i => match ops[i]? with
  | some o => o.after.all fun e => !Region.binds .any e || decide (e.on < i)
  | none => true
theorem allSeen_of {seen : Array Bool} (hb : backB ops = true) (hs : seen.size = ops.size) (h : Region.ready .any ops seen = []) : AllSeen ops.size seen := by
  intro i
  induction i using Nat.strongRecOn with
  | _ i ih =>
    intro hi
    rcases hl : seen.getD i true with _ | _
    · have hm : i ∈ Region.ready .any ops seen := by
        refine mem_ready.2 ⟨hl, ops[i], Array.getElem?_eq_getElem hi, fun e he hbd => ?_⟩
        have h1 := List.all_eq_true.1 hb i (List.mem_range.2 hi)
        rw [Array.getElem?_eq_getElem hi] at h1
        have h2 := (Array.all_eq_true_iff_forall_mem.1 h1) e he
        rw [hbd] at h2
        have h3 : e.on < i := by simpa using h2
        exact ih e.on h3 (by omega)
      rw [h] at hm
      cases hm
    · simp only [Array.getD_eq_getD_getElem?, Array.getElem?_eq_getElem (show i < seen.size by omega), Option.getD_some] at hl ⊢
      exact hl
theorem any_stores {Q : Exit → Act → World → Prop} {a : Act} {w : World} (hB : (Region.lexB .any ops && backB ops) = true) (hsz : ∀ seen w, D seen w → seen.size = ops.size) (hD : D (Array.replicate ops.size false) w)
    (h : wpS P ops D (fun a' => ∀ seen w', AllSeen ops.size seen → D seen w' → Q .normal a' w') ops.size 0 a) : wpAny P .any ops Q ops.size (Array.replicate ops.size false) a w := by
  rw [Bool.and_eq_true] at hB
  have hl := hB.1
  simp only [Region.lexB, Bool.and_eq_true] at hl
  exact any_of_anyS (fun seen a w h0 hD h => h seen w (allSeen_of hB.2 (hsz _ _ hD) h0) hD) _ _ _ _ hD (anyS_lex hl.1 _ _ _ _ hl.2 h)
theorem region_stores {id : Nat} {Q : Exit → Act → World → Prop} {a : Act} {w : World} (D : Array Bool → World → Prop) (hm : P.follows .mixedOrders = true) (hB : (Region.lexB .any ops && backB ops) = true) (hsz : ∀ seen w, D seen w → seen.size = ops.size) (hD : D (Array.replicate ops.size false) w.drew)
    (h : wpS P ops D (fun a' => ∀ seen w', AllSeen ops.size seen → D seen w' → Q .normal a' w') ops.size 0 a) : (Code.region id ops true).wp P Q a w :=
  wp_region_any hm (any_stores hB hsz hD h)
theorem round_stores {id l n : Nat} {Q : Exit → Act → World → Prop} {a : Act} {w : World} (D : Array Bool → World → Prop) (hm : P.follows .mixedOrders = true) (hd : ops.all noDefer = true) (hQ : ¬ LetsOut Q) (hB : (Region.lexB .any ops && backB ops) = true) (hsz : ∀ seen w, D seen w → seen.size = ops.size) (hD : D (Array.replicate ops.size false) w.drew)
    (h : wpS P ops D (fun a' => ∀ seen w', AllSeen ops.size seen → D seen w' → Q .normal a' w') ops.size 0 a) : (Code.region id ops true).wpIn (Fence.wide.inRound l) n P Q a w :=
  wpIn_region_any hm (wpAnyIn_plain hd hQ _ _ _ _ (any_stores hB hsz hD h))
/-- One step of the walk. -/
theorem wpS_step {Q : Act → Prop} {f k : Nat} {a : Act} {o : Oper} (v : Value) (ho : ops[k]? = some o) (hw : Region.wanted o (yielded ops a.tmps) = true) (hv : sAt P D o a k v) (hK : wpS P ops D Q f (k + 1) (a.put o.dst v)) : wpS P ops D Q (f + 1) k a :=
  ⟨o, v, ho, .inl ⟨hw, hv⟩, hK⟩
theorem sAt_value {o : Oper} {a : Act} {k : Nat} {v : Value} (hp : sPass D k) (h : ∀ seen w, D seen w → (execOp a.eval o).run P w = .ok (.value v) w) : sAt P D o a k v := fun seen w hs hD => by
  rw [h seen w hD]; exact ⟨hp _ _ hs hD, rfl⟩
theorem sAt_skip {o : Oper} {a : Act} {k : Nat} (u : World → World) (hp : ∀ seen w, seen.getD k true = false → D seen w → D (seen.setIfInBounds k true) (u w)) (h : ∀ seen w, D seen w → (execOp a.eval o).run P w = .ok .skip (u w)) : sAt P D o a k undef := fun seen w hs hD => by
  rw [h seen w hD]; exact ⟨hp _ _ hs hD, rfl⟩
end
end Go.Proofs.YtmlmpflfejbbcaaDoor
namespace Go.Proofs.YtmlmpflfejbbcaaDoor
open Go.RowKit

/-! What single operations do. -/
section
variable {o : Oper} {a : Act} {w : World}
theorem ex_fpart {x : Operand} {i b : Nat} (ho : o.op = .fieldAddr 95 x i) (hi : i < 5) (hx : a.eval x = .pointer (some ⟨b, 0, none⟩)) : (execOp a.eval o).run Tryd.prog w = .ok (.value (.pointer (some ⟨b, i, none⟩))) w := by
  generalize a.eval = ev at hx ⊢
  have h : i = 0 ∨ i = 1 ∨ i = 2 ∨ i = 3 ∨ i = 4 := by omega
  unfold execOp
  rcases h with rfl | rfl | rfl | rfl | rfl <;> simp only [ho, hx] <;> go_simp
theorem ex_load_int {x : Operand} {p : Addr} {n : Int} (ho : o.op = .load 3 x) (hx : a.eval x = .pointer (some p)) (hc : w.cell? p = some (.int .i64 n)) : (execOp a.eval o).run Tryd.prog w = .ok (.value (.int .i64 n)) w := by
  generalize a.eval = ev at hx ⊢
  unfold execOp
  simp only [ho, hx]
  go_simp
theorem ex_load_u8 {x : Operand} {p : Addr} {n : Int} (ho : o.op = .load 5 x) (hx : a.eval x = .pointer (some p)) (hc : w.cell? p = some (.int .u8 n)) : (execOp a.eval o).run Tryd.prog w = .ok (.value (.int .u8 n)) w := by
  generalize a.eval = ev at hx ⊢
  unfold execOp
  simp only [ho, hx]
  go_simp
theorem ex_add {x y : Operand} {n m : Int} (ho : o.op = .binOp .add 3 x y 3) (hx : a.eval x = .int .i64 n) (hy : a.eval y = .int .i64 m) (h : -9223372036854775808 ≤ n + m ∧ n + m ≤ 9223372036854775807) : (execOp a.eval o).run Tryd.prog w = .ok (.value (.int .i64 (n + m))) w := by
  generalize a.eval = ev at hx hy ⊢
  have hw : IntKind.i64.wrap (n + m) = n + m := by rw [IntKind.wrap_i64]; omega
  unfold execOp
  simp only [ho, hx, hy]
  go_simp
theorem ex_sub {x y : Operand} {n m : Int} (ho : o.op = .binOp .sub 3 x y 3) (hx : a.eval x = .int .i64 n) (hy : a.eval y = .int .i64 m) (h : -9223372036854775808 ≤ n - m ∧ n - m ≤ 9223372036854775807) : (execOp a.eval o).run Tryd.prog w = .ok (.value (.int .i64 (n - m))) w := by
  generalize a.eval = ev at hx hy ⊢
  have hw : IntKind.i64.wrap (n - m) = n - m := by rw [IntKind.wrap_i64]; omega
  unfold execOp
  simp only [ho, hx, hy]
  go_simp
theorem ex_store_int {x y : Operand} {p : Addr} {n k : Int} (ho : o.op = .store 3 x y) (hx : a.eval x = .pointer (some p)) (hy : a.eval y = .int .i64 n) (hc : w.cell? p = some (.int .i64 k)) (hf : w.frozen? p = false) : (execOp a.eval o).run Tryd.prog w = .ok .skip (w.setCell p (.int .i64 n)) := by
  generalize a.eval = ev at hx hy ⊢
  unfold execOp
  simp only [ho, hx, hy]
  go_simp
theorem ex_store_u8 {x y : Operand} {p : Addr} {n k : Int} (ho : o.op = .store 5 x y) (hx : a.eval x = .pointer (some p)) (hy : a.eval y = .int .u8 n) (hc : w.cell? p = some (.int .u8 k)) (hf : w.frozen? p = false) : (execOp a.eval o).run Tryd.prog w = .ok .skip (w.setCell p (.int .u8 n)) := by
  generalize a.eval = ev at hx hy ⊢
  unfold execOp
  simp only [ho, hx, hy]
  go_simp
end
end Go.Proofs.YtmlmpflfejbbcaaDoor
