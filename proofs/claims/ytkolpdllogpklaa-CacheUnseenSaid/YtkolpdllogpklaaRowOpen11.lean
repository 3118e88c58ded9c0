import Derived.Test.YtkolpdllogpklaaOpen11
import Derived.Test.YtkolpdllogpklaaRowOpen
import Derived.Test.YtkolpdllogpklaaCaA
namespace Go.Proofs.Ytkolpdllogpklaa
open Go.ChangeShapes Go.WideShapes Go.ChangeAt Go.RowKit Go.Deep

/-! The arguments of the cache's statements. -/
theorem range11_two {w : World} {b o : Nat} {c r : List Value} (h : w.rangeAt b o (c ++ r)) : w.rangeAt b o c ∧ w.rangeAt b (o + c.length) r := by
  refine ⟨fun j v hv => h j v ?_, fun j v hv => ?_⟩
  · rw [List.getElem?_append_left]
    · exact hv
    · rcases Nat.lt_or_ge j c.length with q | q
      · exact q
      · rw [List.getElem?_eq_none q] at hv; cases hv
  · have := h (c.length + j) v (by rw [List.getElem?_append_right (by omega), Nat.add_sub_cancel_left]; exact hv)
    rw [← Nat.add_assoc] at this
    exact this
theorem range11_head {w : World} {b o : Nat} {v : Value} {r : List Value} (h : w.rangeAt b o ([v] ++ r)) : w.cell? ⟨b, o, none⟩ = some v ∧ w.rangeAt b (o + 1) r := by
  obtain ⟨h1, h2⟩ := range11_two h
  exact ⟨by simpa using h1 0 v rfl, h2⟩
abbrev R11Int (k : IntKind) : World → List Value → Int → Prop := fun _ cs n => cs = [.int k n] ∧ (Lit.int k n).wf = true
abbrev R11Cons {α β : Type} (R : World → List Value → α → Prop) (S : World → List Value → β → Prop) : World → List Value → α × β → Prop := fun w cs q => ∃ c r, cs = c ++ r ∧ R w c q.1 ∧ S w r q.2
abbrev R11Nil : World → List Value → Unit → Prop := fun _ _ _ => True
abbrev R11Sl (e : TypeId) {α : Type} (R : World → List Value → α → Prop) : World → List Value → Option Addr × Nat × List α → Prop := fun w cs q => cs = [.slice q.1 q.2.2.length q.2.1] ∧ SlR Try.prog e R w q.1 q.2.2.length q.2.1 q.2.2
abbrev R11Bool : World → List Value → Bool → Prop := fun _ cs b => cs = [.bool b]
theorem nat11_of {k : Int} (h : 0 ≤ k) : k = ((k.toNat : Nat) : Int) := by omega
theorem cells11_int : Try.prog.cellsOf 3 = 1 := by kernel_rfl
theorem cells11_u8 : Try.prog.cellsOf 5 = 1 := by kernel_rfl
theorem cells11_u32 : Try.prog.cellsOf 22 = 1 := by kernel_rfl
theorem cells11_bool : Try.prog.cellsOf 4 = 1 := by kernel_rfl
theorem cells11_do : Try.prog.cellsOf 85 = 3 := by kernel_rfl
theorem cells11_act : Try.prog.cellsOf 25 = 4 := by kernel_rfl
theorem do_under : Try.prog.underlying 85 = some (.struct (Try.prog.fieldsOf 85)) := by kernel_rfl
set_option maxRecDepth 100000 in
theorem do_fields : ∃ f0 f1 f2 : Field, Try.prog.fieldsOf 85 = #[f0, f1, f2] ∧ f0.offset = 0 ∧ f1.offset = 1 ∧ f2.offset = 2 ∧ f0.type = 5 ∧ f1.type = 3 ∧ f2.type = 22 := ⟨_, _, _, rfl, rfl, rfl, rfl, rfl, rfl, rfl⟩
theorem reads_do : OpReads Try.prog 85 (R11Cons (R11Int .u8) (R11Cons (R11Int .i64) (R11Cons (R11Int .u32) R11Nil))) := by
  obtain ⟨f0, f1, f2, e, o0, o1, o2, t0, t1, t2⟩ := do_fields
  refine OpReads.struct do_under ?_
  rw [e]
  exact ReadsFs.cons o0 (by rw [t0]; exact OpReads.int Try.underlying5) (ReadsFs.cons (by rw [o1, t0, cells11_u8]) (by rw [t1]; exact OpReads.int Try.underlying3) (ReadsFs.cons (by rw [o2, t0, t1, cells11_u8, cells11_int]) (by rw [t2]; exact OpReads.int Try.underlying22) ReadsFs.nil))
def doV (q : Int × Int × Int × Unit) : DoV := ⟨q.1.toNat, q.2.1, q.2.2.1.toNat⟩
theorem dos_of {w : World} {A : Option Addr} {len cap : Nat} {l : List (Int × Int × Int × Unit)} (h : SlR Try.prog 85 (R11Cons (R11Int .u8) (R11Cons (R11Int .i64) (R11Cons (R11Int .u32) R11Nil))) w A len cap l) : DosAt w A (l.map doV) ∧ ∀ x ∈ l.map doV, x.Fits := by
  refine ⟨fun h0 => ?_, fun x hx => ?_⟩
  · obtain ⟨b, o, e, hb, hc⟩ := h.mem (by simpa using h0)
    rw [cells11_do] at hc
    refine ⟨b, o, e, hb, fun i p hp => ?_⟩
    rw [List.getElem?_map] at hp
    obtain ⟨q, hq, rfl⟩ := Option.map_eq_some_iff.1 hp
    obtain ⟨cs, _, hr, c, r, rfl, ⟨rfl, w0⟩, c1, r1, rfl, ⟨rfl, w1⟩, c2, r2, rfl, ⟨rfl, w2⟩, _⟩ := hc i q hq
    obtain ⟨k0, hr⟩ := range11_head hr
    obtain ⟨k1, hr⟩ := range11_head hr
    obtain ⟨k2, _⟩ := range11_head hr
    have u0 := wf_u8 w0
    have u2 := wf_u32 w2
    exact ⟨by show _ = some (Value.int .u8 ((q.1.toNat : Nat) : Int)); rw [← nat11_of u0.1]; exact k0, k1, by show _ = some (Value.int .u32 ((q.2.2.1.toNat : Nat) : Int)); rw [← nat11_of u2.1]; exact k2⟩
  · obtain ⟨q, hq, rfl⟩ := List.mem_map.1 hx
    obtain ⟨i, hi⟩ := List.getElem?_of_mem hq
    obtain ⟨b, o, _, _, hc⟩ := h.mem (by have := (List.getElem?_eq_some_iff.1 hi).1; omega)
    obtain ⟨cs, _, hr, c, r, rfl, ⟨rfl, w0⟩, c1, r1, rfl, ⟨rfl, w1⟩, c2, r2, rfl, ⟨rfl, w2⟩, _⟩ := hc i q hi
    have u0 := wf_u8 w0
    have u2 := wf_u32 w2
    exact ⟨by show q.1.toNat < 256; omega, wf_i64 w1, by show q.2.2.1.toNat < 4294967296; omega⟩
theorem act11_under : Try.prog.underlying 25 = some (.struct (Try.prog.fieldsOf 25)) := by kernel_rfl
set_option maxRecDepth 100000 in
theorem act11_fields : ∃ f0 f1 f2 f3 : Field, Try.prog.fieldsOf 25 = #[f0, f1, f2, f3] ∧ f0.offset = 0 ∧ f1.offset = 1 ∧ f2.offset = 2 ∧ f3.offset = 3 ∧ f0.type = 5 ∧ f1.type = 3 ∧ f2.type = 22 ∧ f3.type = 23 := ⟨_, _, _, _, rfl, rfl, rfl, rfl, rfl, rfl, rfl, rfl, rfl⟩
theorem reads11_bools : OpReads Try.prog 23 (R11Sl 4 R11Bool) := OpReads.slice Try.underlying23 (by rw [cells11_bool]; omega) (OpReads.bool Try.underlying4)
abbrev R11Act : World → List Value → Int × Int × Int × (Option Addr × Nat × List Bool) × Unit → Prop := R11Cons (R11Int .u8) (R11Cons (R11Int .i64) (R11Cons (R11Int .u32) (R11Cons (R11Sl 4 R11Bool) R11Nil)))
theorem reads11_act : OpReads Try.prog 25 R11Act := by
  obtain ⟨f0, f1, f2, f3, e, o0, o1, o2, o3, t0, t1, t2, t3⟩ := act11_fields
  refine OpReads.struct act11_under ?_
  rw [e]
  exact ReadsFs.cons o0 (by rw [t0]; exact OpReads.int Try.underlying5) (ReadsFs.cons (by rw [o1, t0, cells11_u8]) (by rw [t1]; exact OpReads.int Try.underlying3) (ReadsFs.cons (by rw [o2, t0, t1, cells11_u8, cells11_int]) (by rw [t2]; exact OpReads.int Try.underlying22) (ReadsFs.cons (by rw [o3, t0, t1, t2, cells11_u8, cells11_int, cells11_u32]) (by rw [t3]; exact reads11_bools) ReadsFs.nil)))
def actV (q : Int × Int × Int × (Option Addr × Nat × List Bool) × Unit) : ActV := ⟨q.1.toNat, q.2.1, q.2.2.1.toNat, q.2.2.2.1.1, q.2.2.2.1.2.2.length, q.2.2.2.1.2.1⟩
theorem acts11_of {w : World} {A : Option Addr} {len cap : Nat} {l : List (Int × Int × Int × (Option Addr × Nat × List Bool) × Unit)} (h : SlR Try.prog 25 R11Act w A len cap l) : ActsIn w A (l.map actV) ∧ ∀ x ∈ l.map actV, x.Fits := by
  refine ⟨fun h0 => ?_, fun x hx => ?_⟩
  · obtain ⟨b, o, e, hb, hc⟩ := h.mem (by simpa using h0)
    rw [cells11_act] at hc
    refine ⟨b, o, e, hb, fun i p hp => ?_⟩
    rw [List.getElem?_map] at hp
    obtain ⟨q, hq, rfl⟩ := Option.map_eq_some_iff.1 hp
    obtain ⟨cs, _, hr, c, r, rfl, ⟨rfl, w0⟩, c1, r1, rfl, ⟨rfl, w1⟩, c2, r2, rfl, ⟨rfl, w2⟩, c3, r3, rfl, ⟨rfl, w3⟩, _⟩ := hc i q hq
    have u0 := wf_u8 w0
    have u2 := wf_u32 w2
    have e4 : (actV q).cells = [.int .u8 q.1] ++ ([.int .i64 q.2.1] ++ ([.int .u32 q.2.2.1] ++ [.slice q.2.2.2.1.1 q.2.2.2.1.2.2.length q.2.2.2.1.2.1])) := by
      show [Value.int .u8 ((q.1.toNat : Nat) : Int), Value.int .i64 q.2.1, Value.int .u32 ((q.2.2.1.toNat : Nat) : Int), _] = _
      rw [← nat11_of u0.1, ← nat11_of u2.1]; rfl
    rw [e4]
    intro j v hv
    refine hr j v ?_
    rw [← List.append_assoc, ← List.append_assoc, ← List.append_assoc]
    rw [← List.append_assoc, ← List.append_assoc] at hv
    rw [List.getElem?_append_left (by have := (List.getElem?_eq_some_iff.1 hv).1; exact this)]
    exact hv
  · obtain ⟨q, hq, rfl⟩ := List.mem_map.1 hx
    obtain ⟨i, hi⟩ := List.getElem?_of_mem hq
    obtain ⟨b, o, _, _, hc⟩ := h.mem (by have := (List.getElem?_eq_some_iff.1 hi).1; omega)
    obtain ⟨cs, _, hr, c, r, rfl, ⟨rfl, w0⟩, c1, r1, rfl, ⟨rfl, w1⟩, c2, r2, rfl, ⟨rfl, w2⟩, _⟩ := hc i q hi
    have u0 := wf_u8 w0
    have u2 := wf_u32 w2
    exact ⟨by show q.1.toNat < 256; omega, wf_i64 w1, by show q.2.2.1.toNat < 4294967296; omega⟩
section
variable {H : Type} {enc : TypeId × Value → H} {W : World} {A : Option Addr} {n c : Nat} {d : DataW H} {p : List MemPlace} {ts : List TypeId} {ds : List (DataW H)} {j : Nat}
theorem opened_sl11 {t e : TypeId} {α : Type} {R : World → List Value → α → Prop} (h : OpReads Try.prog t (R11Sl e R)) (hsz : (DataW.weightsEach Try.prog ts ds).all (· ≤ reachBytes) = true) (htj : ts[j]? = some t) (hdj : ds[j]? = some d)
    (hT : DataW.Trod enc Try.prog W 0 (fun _ => true) true t (.slice A n c) d p) : ∃ l : List α, n = l.length ∧ SlR Try.prog e R W A n c l := by
  obtain ⟨q, e1, hS⟩ := h.arg hsz htj hdj hT
  simp [Value.cells] at e1
  obtain ⟨e1, e2, e3⟩ := e1
  subst e1 e2 e3
  exact ⟨_, rfl, hS⟩
theorem opened_dos (hsz : (DataW.weightsEach Try.prog ts ds).all (· ≤ reachBytes) = true) (htj : ts[j]? = some 64) (hdj : ds[j]? = some d)
    (hT : DataW.Trod enc Try.prog W 0 (fun _ => true) true 64 (.slice A n c) d p) : ∃ l : List DoV, n = l.length ∧ DosAt W A l ∧ ∀ x ∈ l, x.Fits := by
  obtain ⟨l, hl, hS⟩ := opened_sl11 (OpReads.slice Try.underlying64 (by rw [cells11_do]; omega) reads_do) hsz htj hdj hT
  exact ⟨_, by rw [List.length_map]; exact hl, (dos_of hS).1, (dos_of hS).2⟩
theorem opened_acts11 (hsz : (DataW.weightsEach Try.prog ts ds).all (· ≤ reachBytes) = true) (htj : ts[j]? = some 57) (hdj : ds[j]? = some d)
    (hT : DataW.Trod enc Try.prog W 0 (fun _ => true) true 57 (.slice A n c) d p) : ∃ l : List ActV, n = l.length ∧ ActsIn W A l ∧ ∀ x ∈ l, x.Fits := by
  obtain ⟨l, hl, hS⟩ := opened_sl11 (OpReads.slice Try.underlying57 (by rw [cells11_act]; omega) reads11_act) hsz htj hdj hT
  exact ⟨_, by rw [List.length_map]; exact hl, (acts11_of hS).1, (acts11_of hS).2⟩
set_option maxRecDepth 100000 in
theorem opened_act11 {v : Value} {base : Nat} (hok : Value.okWide Try.prog W .any base 25 v) (hsz : (DataW.weightsEach Try.prog ts ds).all (· ≤ reachBytes) = true) (htj : ts[j]? = some 25) (hdj : ds[j]? = some d)
    (hT : DataW.Trod enc Try.prog W 0 (fun _ => true) true 25 v d p) : ∃ (kind at' f : Int) (K : Option Addr) (m c : Nat), v = .agg #[.int .u8 kind, .int .i64 at', .int .u32 f, .slice K m c] ∧ I64 at' := by
  obtain ⟨q, c, r, e, ⟨rfl, w0⟩, c1, r1, rfl, ⟨rfl, w1⟩, c2, r2, rfl, ⟨rfl, w2⟩, c3, r3, rfl, ⟨rfl, w3⟩, _⟩ := reads11_act.arg hsz htj hdj hT
  obtain ⟨cs, rfl, hcs⟩ := okWide_struct act11_under hok
  rw [cells11_act] at hcs
  have e' : cs.toList = [.int .u8 q.1] ++ ([.int .i64 q.2.1] ++ ([.int .u32 q.2.2.1] ++ ([.slice q.2.2.2.1.1 q.2.2.2.1.2.2.length q.2.2.2.1.2.1] ++ r3))) := e
  have hr : r3 = [] := List.eq_nil_of_length_eq_zero (by
    have h1 := congrArg List.length e'
    rw [Array.length_toList, hcs] at h1
    simp at h1
    first
      | omega
      | (rw [h1]; rfl)
      | simpa using h1)
  subst hr
  have e2 : cs = #[.int .u8 q.1, .int .i64 q.2.1, .int .u32 q.2.2.1, .slice q.2.2.2.1.1 q.2.2.2.1.2.2.length q.2.2.2.1.2.1] := by
    rw [← Array.toList_inj, e']; rfl
  exact ⟨_, _, _, _, _, _, by rw [e2], wf_i64 w1⟩
end
end Go.Proofs.Ytkolpdllogpklaa
