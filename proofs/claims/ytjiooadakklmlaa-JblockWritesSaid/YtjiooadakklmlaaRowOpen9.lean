import Derived.Test.YtjiooadakklmlaaOpen
import Derived.Test.YtjiooadakklmlaaRowOpen
import Derived.Test.YtjiooadakklmlaaJbS
namespace Go.Proofs.Ytjiooadakklmlaa
open Go.ChangeShapes Go.WideShapes Go.ChangeAt Go.RowKit Go.Deep

/-! Heads, lists of numbers, lists of tags that come in. -/
theorem range9_two {w : World} {b o : Nat} {c r : List Value} (h : w.rangeAt b o (c ++ r)) : w.rangeAt b o c ∧ w.rangeAt b (o + c.length) r := by
  refine ⟨fun j v hv => h j v ?_, fun j v hv => ?_⟩
  · rw [List.getElem?_append_left]
    · exact hv
    · rcases Nat.lt_or_ge j c.length with q | q
      · exact q
      · rw [List.getElem?_eq_none q] at hv; cases hv
  · have := h (c.length + j) v (by rw [List.getElem?_append_right (by omega), Nat.add_sub_cancel_left]; exact hv)
    rw [← Nat.add_assoc] at this
    exact this
theorem range9_head {w : World} {b o : Nat} {v : Value} {r : List Value} (h : w.rangeAt b o ([v] ++ r)) : w.cell? ⟨b, o, none⟩ = some v ∧ w.rangeAt b (o + 1) r := by
  obtain ⟨h1, h2⟩ := range9_two h
  exact ⟨by simpa using h1 0 v rfl, h2⟩
abbrev R9Int (k : IntKind) : World → List Value → Int → Prop := fun _ cs n => cs = [.int k n] ∧ (Lit.int k n).wf = true
abbrev R9Bool : World → List Value → Bool → Prop := fun _ cs b => cs = [.bool b]
abbrev R9Cons {α β : Type} (R : World → List Value → α → Prop) (S : World → List Value → β → Prop) : World → List Value → α × β → Prop := fun w cs q => ∃ c r, cs = c ++ r ∧ R w c q.1 ∧ S w r q.2
abbrev R9Nil : World → List Value → Unit → Prop := fun _ _ _ => True
abbrev R9Sl (e : TypeId) {α : Type} (R : World → List Value → α → Prop) : World → List Value → Option Addr × Nat × List α → Prop := fun w cs q => cs = [.slice q.1 q.2.2.length q.2.1] ∧ SlR Try.prog e R w q.1 q.2.2.length q.2.1 q.2.2
theorem nat9_of {k : Int} (h : 0 ≤ k) : k = ((k.toNat : Nat) : Int) := by omega
theorem cells9_u32 : Try.prog.cellsOf 22 = 1 := by kernel_rfl
theorem cells9_tag : Try.prog.cellsOf 62 = 2 := by kernel_rfl
theorem cells9_head : Try.prog.cellsOf 24 = 2 := by kernel_rfl
theorem tag9_under : Try.prog.underlying 62 = some (.struct (Try.prog.fieldsOf 62)) := by kernel_rfl
set_option maxRecDepth 100000 in
theorem tag9_fields : ∃ f0 f1 : Field, Try.prog.fieldsOf 62 = #[f0, f1] ∧ f0.offset = 0 ∧ f1.offset = 1 ∧ f0.type = 22 ∧ f1.type = 4 := ⟨_, _, rfl, rfl, rfl, rfl, rfl⟩
theorem head9_under : Try.prog.underlying 24 = some (.struct (Try.prog.fieldsOf 24)) := by kernel_rfl
set_option maxRecDepth 100000 in
theorem head9_fields : ∃ f0 f1 : Field, Try.prog.fieldsOf 24 = #[f0, f1] ∧ f0.offset = 0 ∧ f1.offset = 1 ∧ f0.type = 22 ∧ f1.type = 3 := ⟨_, _, rfl, rfl, rfl, rfl, rfl⟩
theorem reads_tag9 : Reads Try.prog 62 (R9Cons (R9Int .u32) (R9Cons R9Bool R9Nil)) := by
  obtain ⟨f0, f1, e, o0, o1, t0, t1⟩ := tag9_fields
  refine Reads.struct tag9_under ?_
  rw [e]
  exact ReadsFs.cons o0 (by rw [t0]; exact Reads.int Try.underlying22) (ReadsFs.cons (by rw [o1, t0, cells9_u32]) (by rw [t1]; exact Reads.bool Try.underlying4) ReadsFs.nil)
theorem reads_head9 : Reads Try.prog 24 (R9Cons (R9Int .u32) (R9Cons (R9Int .i64) R9Nil)) := by
  obtain ⟨f0, f1, e, o0, o1, t0, t1⟩ := head9_fields
  refine Reads.struct head9_under ?_
  rw [e]
  exact ReadsFs.cons o0 (by rw [t0]; exact Reads.int Try.underlying22) (ReadsFs.cons (by rw [o1, t0, cells9_u32]) (by rw [t1]; exact Reads.int Try.underlying3) ReadsFs.nil)
theorem nums9_of {w : World} {A : Option Addr} {len cap : Nat} {l : List Int} (h : SlR Try.prog 22 (R9Int .u32) w A len cap l) (hw : ∀ x ∈ l, 0 ≤ x) : NumsAt w A (l.map Int.toNat) := fun h0 => by
  obtain ⟨b, o, e, hb, hc⟩ := h.mem (by simpa using h0)
  rw [cells9_u32] at hc
  refine ⟨b, o, e, hb, fun i p hp => ?_⟩
  rw [List.getElem?_map] at hp
  obtain ⟨q, hq, rfl⟩ := Option.map_eq_some_iff.1 hp
  obtain ⟨cs, _, hr, rfl, w1⟩ := hc i q hq
  have := hr 0 _ rfl
  rw [Nat.mul_one, Nat.add_zero] at this
  rw [this, ← nat9_of (hw q (List.mem_of_getElem? hq))]
theorem tags9_of {w : World} {A : Option Addr} {len cap : Nat} {l : List (Int × Bool × Unit)} (h : SlR Try.prog 62 (R9Cons (R9Int .u32) (R9Cons R9Bool R9Nil)) w A len cap l) (hw : ∀ x ∈ l, 0 ≤ x.1) : TagsAt w A (l.map fun q => (q.1.toNat, q.2.1)) := fun h0 => by
  obtain ⟨b, o, e, hb, hc⟩ := h.mem (by simpa using h0)
  rw [cells9_tag] at hc
  refine ⟨b, o, e, hb, fun i p hp => ?_⟩
  rw [List.getElem?_map] at hp
  obtain ⟨q, hq, rfl⟩ := Option.map_eq_some_iff.1 hp
  obtain ⟨cs, _, hr, c, r, rfl, ⟨rfl, w1⟩, c2, r2, rfl, rfl, _⟩ := hc i q hq
  obtain ⟨k1, k2⟩ := range9_head hr
  obtain ⟨k3, _⟩ := range9_head k2
  exact TAt.of (by show _ = some (Value.int .u32 ((q.1.toNat : Nat) : Int)); rw [← nat9_of (hw q (List.mem_of_getElem? hq))]; exact k1) k3
section
variable {H : Type} {enc : TypeId × Value → H} {W : World} {A : Option Addr} {n c : Nat} {d : DataW H} {p : List MemPlace} {ts : List TypeId} {ds : List (DataW H)} {j : Nat}
theorem opened9_sl {t e : TypeId} {α : Type} {R : World → List Value → α → Prop} (h : Reads Try.prog t (R9Sl e R)) (hsz : (DataW.weightsEach Try.prog ts ds).all (· ≤ reachBytes) = true) (htj : ts[j]? = some t) (hdj : ds[j]? = some d)
    (hT : DataW.Trod enc Try.prog W 0 (fun _ => true) true t (.slice A n c) d p) : ∃ l : List α, n = l.length ∧ SlR Try.prog e R W A n c l := by
  obtain ⟨q, e1, hS⟩ := h.arg hsz htj hdj hT
  simp [Value.cells] at e1
  obtain ⟨e1, e2, e3⟩ := e1
  subst e1 e2 e3
  exact ⟨_, rfl, hS⟩
theorem opened_nums9 (hsz : (DataW.weightsEach Try.prog ts ds).all (· ≤ reachBytes) = true) (htj : ts[j]? = some 26) (hdj : ds[j]? = some d)
    (hT : DataW.Trod enc Try.prog W 0 (fun _ => true) true 26 (.slice A n c) d p) : ∃ l : List Nat, n = l.length ∧ NumsAt W A l ∧ Small32 l ∧ n ≤ c := by
  obtain ⟨l, hl, hS⟩ := opened9_sl (Reads.slice Try.underlying26 (by rw [cells9_u32]; omega) (Reads.int Try.underlying22)) hsz htj hdj hT
  have hw : ∀ x ∈ l, 0 ≤ x ∧ x < 4294967296 := fun x hx => by
    obtain ⟨i, hi⟩ := List.getElem?_of_mem hx
    obtain ⟨b, o, _, _, hc⟩ := hS.mem (by have := (List.getElem?_eq_some_iff.1 hi).1; omega)
    obtain ⟨cs, _, _, _, w1⟩ := hc i x hi
    exact wf_u32 w1
  refine ⟨l.map Int.toNat, by rw [List.length_map]; exact hl, nums9_of hS fun x hx => (hw x hx).1, fun v hv => ?_, hS.le⟩
  obtain ⟨x, hx, rfl⟩ := List.mem_map.1 hv
  have := hw x hx
  omega
theorem opened_tags9 (hsz : (DataW.weightsEach Try.prog ts ds).all (· ≤ reachBytes) = true) (htj : ts[j]? = some 25) (hdj : ds[j]? = some d)
    (hT : DataW.Trod enc Try.prog W 0 (fun _ => true) true 25 (.slice A n c) d p) : ∃ l : List TagV, n = l.length ∧ TagsAt W A l ∧ SmallT l ∧ n ≤ c := by
  obtain ⟨l, hl, hS⟩ := opened9_sl (Reads.slice Try.underlying25 (by rw [cells9_tag]; omega) reads_tag9) hsz htj hdj hT
  have hw : ∀ x ∈ l, 0 ≤ x.1 ∧ x.1 < 4294967296 := fun x hx => by
    obtain ⟨i, hi⟩ := List.getElem?_of_mem hx
    obtain ⟨b, o, _, _, hc⟩ := hS.mem (by have := (List.getElem?_eq_some_iff.1 hi).1; omega)
    obtain ⟨cs, _, _, c, r, _, ⟨_, w1⟩, _⟩ := hc i x hi
    exact wf_u32 w1
  refine ⟨l.map fun q => (q.1.toNat, q.2.1), by rw [List.length_map]; exact hl, tags9_of hS fun x hx => (hw x hx).1, fun v hv => ?_, hS.le⟩
  obtain ⟨x, hx, rfl⟩ := List.mem_map.1 hv
  have := hw x hx
  show x.1.toNat < 4294967296
  omega
set_option maxRecDepth 100000 in
theorem opened_head9 {v : Value} {base : Nat} (hok : Value.okWide Try.prog W .any base 24 v) (hsz : (DataW.weightsEach Try.prog ts ds).all (· ≤ reachBytes) = true) (htj : ts[j]? = some 24) (hdj : ds[j]? = some d)
    (hT : DataW.Trod enc Try.prog W 0 (fun _ => true) true 24 v d p) : ∃ x : HeadV, v = .agg (hcs x) := by
  obtain ⟨q, c, r, e, ⟨rfl, w0⟩, c1, r1, rfl, ⟨rfl, w1⟩, _⟩ := reads_head9.arg hsz htj hdj hT
  obtain ⟨cs, rfl, hcs'⟩ := okWide_struct head9_under hok
  rw [cells9_head] at hcs'
  have e' : cs.toList = [.int .u32 q.1] ++ ([.int .i64 q.2.1] ++ r1) := e
  have hr : r1 = [] := List.eq_nil_of_length_eq_zero (by
    have h1 := congrArg List.length e'
    rw [Array.length_toList, hcs'] at h1
    simp at h1
    first
      | omega
      | (rw [h1]; rfl)
      | simpa using h1)
  subst hr
  have e2 : cs = #[.int .u32 q.1, .int .i64 q.2.1] := by
    rw [← Array.toList_inj, e']; rfl
  have u := wf_u32 w0
  exact ⟨⟨q.1.toNat, q.2.1⟩, by rw [e2]; unfold hcs; rw [← nat9_of u.1]⟩
end
end Go.Proofs.Ytjiooadakklmlaa
