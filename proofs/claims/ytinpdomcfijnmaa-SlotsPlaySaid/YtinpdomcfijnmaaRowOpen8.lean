import Derived.Test.YtinpdomcfijnmaaOpen
import Derived.Test.YtinpdomcfijnmaaRowOpen
import Derived.Test.YtinpdomcfijnmaaSloH
import Derived.ChangeMaps5
namespace Go.Proofs.Ytinpdomcfijnmaa
open Go.ChangeShapes Go.WideShapes Go.ChangeAt Go.RowKit Go.Deep

/-! Names, lists of names, lists of turns that come in. -/
theorem Reads.string {P : Program} {t : TypeId} (ht : P.underlying t = some .string) : Reads P t (fun _ cs (s : ByteArray) => cs = [.string s] ∧ s.size ≤ maxLen) := by
  intro H enc w fuel cs x h _
  obtain ⟨s, rfl, _, hw⟩ := DataW.trod_string ht h
  exact ⟨s, rfl, hw⟩
theorem range8_two {w : World} {b o : Nat} {c r : List Value} (h : w.rangeAt b o (c ++ r)) : w.rangeAt b o c ∧ w.rangeAt b (o + c.length) r := by
  refine ⟨fun j v hv => h j v ?_, fun j v hv => ?_⟩
  · rw [List.getElem?_append_left]
    · exact hv
    · rcases Nat.lt_or_ge j c.length with q | q
      · exact q
      · rw [List.getElem?_eq_none q] at hv; cases hv
  · have := h (c.length + j) v (by rw [List.getElem?_append_right (by omega), Nat.add_sub_cancel_left]; exact hv)
    rw [← Nat.add_assoc] at this
    exact this
theorem range8_head {w : World} {b o : Nat} {v : Value} {r : List Value} (h : w.rangeAt b o ([v] ++ r)) : w.cell? ⟨b, o, none⟩ = some v ∧ w.rangeAt b (o + 1) r := by
  obtain ⟨h1, h2⟩ := range8_two h
  exact ⟨by simpa using h1 0 v rfl, h2⟩
abbrev R8Int (k : IntKind) : World → List Value → Int → Prop := fun _ cs n => cs = [.int k n] ∧ (Lit.int k n).wf = true
abbrev R8Str : World → List Value → ByteArray → Prop := fun _ cs s => cs = [.string s] ∧ s.size ≤ maxLen
abbrev R8Cons {α β : Type} (R : World → List Value → α → Prop) (S : World → List Value → β → Prop) : World → List Value → α × β → Prop := fun w cs q => ∃ c r, cs = c ++ r ∧ R w c q.1 ∧ S w r q.2
abbrev R8Nil : World → List Value → Unit → Prop := fun _ _ _ => True
abbrev R8Sl (e : TypeId) {α : Type} (R : World → List Value → α → Prop) : World → List Value → Option Addr × Nat × List α → Prop := fun w cs q => cs = [.slice q.1 q.2.2.length q.2.1] ∧ SlR Try.prog e R w q.1 q.2.2.length q.2.1 q.2.2
theorem nat8_of {k : Int} (h : 0 ≤ k) : k = ((k.toNat : Nat) : Int) := by omega
theorem cells8_str : Try.prog.cellsOf 9 = 1 := by kernel_rfl
theorem bytes8_str : Try.prog.bytesOf 9 = 16 := by kernel_rfl
theorem turn_under : Try.prog.underlying 50 = some (.struct (Try.prog.fieldsOf 50)) := by kernel_rfl
theorem turn_fields : ∃ f0 f1 : Field, Try.prog.fieldsOf 50 = #[f0, f1] ∧ f0.offset = 0 ∧ f1.offset = 1 ∧ f0.type = 9 ∧ f1.type = 31 := ⟨_, _, rfl, rfl, rfl, rfl, rfl⟩
theorem cells8_turn : Try.prog.cellsOf 50 = 2 := by kernel_rfl
theorem bytes8_turn : Try.prog.bytesOf 50 = 24 := by kernel_rfl
theorem reads_turn : Reads Try.prog 50 (R8Cons R8Str (R8Cons (R8Int .u32) R8Nil)) := by
  obtain ⟨f0, f1, e, o0, o1, t0, t1⟩ := turn_fields
  refine Reads.struct turn_under ?_
  rw [e]
  exact ReadsFs.cons o0 (by rw [t0]; exact Reads.string Try.underlying9) (ReadsFs.cons (by rw [o1, t0, cells8_str]) (by rw [t1]; exact Reads.int Try.underlying31) ReadsFs.nil)
theorem strs_of {w : World} {A : Option Addr} {len cap : Nat} {l : List ByteArray} (h : SlR Try.prog 9 R8Str w A len cap l) : StrsAt w A l := fun h0 => by
  obtain ⟨b, o, e, hb, hc⟩ := h.mem h0
  rw [cells8_str] at hc
  refine ⟨b, o, e, hb, fun i x hx => ?_⟩
  obtain ⟨cs, _, hr, rfl, _⟩ := hc i x hx
  rw [Nat.mul_one] at hr
  simpa using hr 0 _ rfl
theorem turns_of {w : World} {A : Option Addr} {len cap : Nat} {l : List (ByteArray × Int × Unit)} (h : SlR Try.prog 50 (R8Cons R8Str (R8Cons (R8Int .u32) R8Nil)) w A len cap l) : TurnsAt w A (l.map fun q => (q.1, q.2.1.toNat)) := fun h0 => by
  obtain ⟨b, o, e, hb, hc⟩ := h.mem (by simpa using h0)
  rw [cells8_turn] at hc
  refine ⟨b, o, e, hb, fun i p hp => ?_⟩
  rw [List.getElem?_map] at hp
  obtain ⟨q, hq, rfl⟩ := Option.map_eq_some_iff.1 hp
  obtain ⟨cs, _, hr, c, r, rfl, ⟨rfl, w1⟩, c2, r2, rfl, ⟨rfl, w2⟩, _⟩ := hc i q hq
  obtain ⟨k1, k2⟩ := range8_head hr
  obtain ⟨k3, _⟩ := range8_head k2
  have u2 := wf_u32 w2
  exact ⟨k1, by show _ = some (Value.int .u32 ((q.2.1.toNat : Nat) : Int)); rw [← nat8_of u2.1]; exact k3, by show q.2.1.toNat < _; omega⟩
section
variable {H : Type} {enc : TypeId × Value → H} {W : World} {A : Option Addr} {n c : Nat} {d : DataW H} {p : List MemPlace} {ts : List TypeId} {ds : List (DataW H)} {j : Nat}
theorem opened8_sl {t e : TypeId} {α : Type} {R : World → List Value → α → Prop} (h : Reads Try.prog t (R8Sl e R)) (hsz : (DataW.weightsEach Try.prog ts ds).all (· ≤ reachBytes) = true) (htj : ts[j]? = some t) (hdj : ds[j]? = some d)
    (hT : DataW.Trod enc Try.prog W 0 (fun _ => true) true t (.slice A n c) d p) : ∃ l : List α, n = l.length ∧ SlR Try.prog e R W A n c l := by
  obtain ⟨q, e1, hS⟩ := h.arg hsz htj hdj hT
  simp [Value.cells] at e1
  obtain ⟨e1, e2, e3⟩ := e1
  subst e1 e2 e3
  exact ⟨_, rfl, hS⟩
theorem opened_strs8 (hsz : (DataW.weightsEach Try.prog ts ds).all (· ≤ reachBytes) = true) (htj : ts[j]? = some 55) (hdj : ds[j]? = some d)
    (hT : DataW.Trod enc Try.prog W 0 (fun _ => true) true 55 (.slice A n c) d p) : ∃ l : List ByteArray, n = l.length ∧ StrsAt W A l ∧ n ≤ 140737488355328 := by
  obtain ⟨l, hl, hS⟩ := opened8_sl (Reads.slice Try.underlying55 (by rw [cells8_str]; omega) (Reads.string Try.underlying9)) hsz htj hdj hT
  have hre := hS.reach
  have hle := hS.le
  rw [bytes8_str] at hre
  unfold reachBytes at hre
  exact ⟨_, hl, strs_of hS, by omega⟩
theorem opened_turns8 (hsz : (DataW.weightsEach Try.prog ts ds).all (· ≤ reachBytes) = true) (htj : ts[j]? = some 46) (hdj : ds[j]? = some d)
    (hT : DataW.Trod enc Try.prog W 0 (fun _ => true) true 46 (.slice A n c) d p) : ∃ l : List (ByteArray × Nat), n = l.length ∧ TurnsAt W A l ∧ n ≤ 140737488355328 := by
  obtain ⟨l, hl, hS⟩ := opened8_sl (Reads.slice Try.underlying46 (by rw [cells8_turn]; omega) reads_turn) hsz htj hdj hT
  have hre := hS.reach
  have hle := hS.le
  rw [bytes8_turn] at hre
  unfold reachBytes at hre
  exact ⟨_, by rw [List.length_map]; exact hl, turns_of hS, by omega⟩
end
end Go.Proofs.Ytinpdomcfijnmaa
