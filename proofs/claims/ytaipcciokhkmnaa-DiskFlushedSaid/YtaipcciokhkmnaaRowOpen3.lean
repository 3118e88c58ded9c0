import Derived.Test.YtaipcciokhkmnaaOpen
import Derived.Test.YtaipcciokhkmnaaRowOpen
import Derived.Test.YtaipcciokhkmnaaDLoads
namespace Go.Proofs.Ytaipcciokhkmnaa
open Go.ChangeShapes Go.WideShapes Go.ChangeAt Go.RowKit Go.Deep

/-! The arguments of the disk's statements. -/
theorem range_two {w : World} {b o : Nat} {c r : List Value} (h : w.rangeAt b o (c ++ r)) : w.rangeAt b o c ∧ w.rangeAt b (o + c.length) r := by
  refine ⟨fun j v hv => h j v ?_, fun j v hv => ?_⟩
  · rw [List.getElem?_append_left]
    · exact hv
    · rcases Nat.lt_or_ge j c.length with q | q
      · exact q
      · rw [List.getElem?_eq_none q] at hv; cases hv
  · have := h (c.length + j) v (by rw [List.getElem?_append_right (by omega), Nat.add_sub_cancel_left]; exact hv)
    rw [← Nat.add_assoc] at this
    exact this
theorem range_head {w : World} {b o : Nat} {v : Value} {r : List Value} (h : w.rangeAt b o ([v] ++ r)) : w.cell? ⟨b, o, none⟩ = some v ∧ w.rangeAt b (o + 1) r := by
  obtain ⟨h1, h2⟩ := range_two h
  exact ⟨by simpa using h1 0 v rfl, h2⟩
theorem range_one {w : World} {b o : Nat} {v : Value} (h : w.rangeAt b o [v]) : w.cell? ⟨b, o, none⟩ = some v := by simpa using h 0 v rfl
abbrev RInt (k : IntKind) : World → List Value → Int → Prop := fun _ cs n => cs = [.int k n] ∧ (Lit.int k n).wf = true
abbrev RCons {α β : Type} (R : World → List Value → α → Prop) (S : World → List Value → β → Prop) : World → List Value → α × β → Prop := fun w cs q => ∃ c r, cs = c ++ r ∧ R w c q.1 ∧ S w r q.2
abbrev RNil : World → List Value → Unit → Prop := fun _ _ _ => True
abbrev RSl (e : TypeId) {α : Type} (R : World → List Value → α → Prop) : World → List Value → Option Addr × Nat × List α → Prop := fun w cs q => cs = [.slice q.1 q.2.2.length q.2.1] ∧ SlR Try.prog e R w q.1 q.2.2.length q.2.1 q.2.2
theorem nat_of {k : Int} (h : 0 ≤ k) : k = ((k.toNat : Nat) : Int) := by omega

theorem put_under : Try.prog.underlying 69 = some (.struct (Try.prog.fieldsOf 69)) := by kernel_rfl
theorem put_fields : ∃ f0 f1 : Field, Try.prog.fieldsOf 69 = #[f0, f1] ∧ f0.offset = 0 ∧ f1.offset = 1 ∧ f0.type = 3 ∧ f1.type = 28 := ⟨_, _, rfl, rfl, rfl, rfl, rfl⟩
theorem cells_int : Try.prog.cellsOf 3 = 1 := by kernel_rfl
theorem cells_u8 : Try.prog.cellsOf 5 = 1 := by kernel_rfl
theorem cells_u32 : Try.prog.cellsOf 28 = 1 := by kernel_rfl
theorem cells_bool : Try.prog.cellsOf 4 = 1 := by kernel_rfl
theorem cells_bools : Try.prog.cellsOf 39 = 1 := by kernel_rfl
theorem cells_put : Try.prog.cellsOf 69 = 2 := by kernel_rfl
theorem cells_act : Try.prog.cellsOf 41 = 4 := by kernel_rfl
theorem bytes_put : Try.prog.bytesOf 69 = 16 := by kernel_rfl
theorem bytes_act : Try.prog.bytesOf 41 = 48 := by kernel_rfl
theorem bytes_u32 : Try.prog.bytesOf 28 = 4 := by kernel_rfl
theorem bytes_bool : Try.prog.bytesOf 4 = 1 := by kernel_rfl
theorem reads_put : Reads Try.prog 69 (RCons (RInt .i64) (RCons (RInt .u32) RNil)) := by
  obtain ⟨f0, f1, e, o0, o1, t0, t1⟩ := put_fields
  refine Reads.struct put_under ?_
  rw [e]
  exact ReadsFs.cons o0 (by rw [t0]; exact Reads.int Try.underlying3) (ReadsFs.cons (by rw [o1, t0, cells_int]) (by rw [t1]; exact Reads.int Try.underlying28) ReadsFs.nil)
theorem act_under : Try.prog.underlying 41 = some (.struct (Try.prog.fieldsOf 41)) := by kernel_rfl
theorem act_fields : ∃ f0 f1 f2 f3 : Field, Try.prog.fieldsOf 41 = #[f0, f1, f2, f3] ∧ f0.offset = 0 ∧ f1.offset = 1 ∧ f2.offset = 2 ∧ f3.offset = 3 ∧ f0.type = 5 ∧ f1.type = 3 ∧ f2.type = 28 ∧ f3.type = 39 := ⟨_, _, _, _, rfl, rfl, rfl, rfl, rfl, rfl, rfl, rfl, rfl⟩
abbrev RBool : World → List Value → Bool → Prop := fun _ cs b => cs = [.bool b]
theorem reads_bools : Reads Try.prog 39 (RSl 4 RBool) := Reads.slice Try.underlying39 (by rw [cells_bool]; omega) (Reads.bool Try.underlying4)
abbrev RAct : World → List Value → Int × Int × Int × (Option Addr × Nat × List Bool) × Unit → Prop := RCons (RInt .u8) (RCons (RInt .i64) (RCons (RInt .u32) (RCons (RSl 4 RBool) RNil)))
theorem reads_act : Reads Try.prog 41 RAct := by
  obtain ⟨f0, f1, f2, f3, e, o0, o1, o2, o3, t0, t1, t2, t3⟩ := act_fields
  refine Reads.struct act_under ?_
  rw [e]
  exact ReadsFs.cons o0 (by rw [t0]; exact Reads.int Try.underlying5) (ReadsFs.cons (by rw [o1, t0, cells_u8]) (by rw [t1]; exact Reads.int Try.underlying3) (ReadsFs.cons (by rw [o2, t0, t1, cells_u8, cells_int]) (by rw [t2]; exact Reads.int Try.underlying28) (ReadsFs.cons (by rw [o3, t0, t1, t2, cells_u8, cells_int, cells_u32]) (by rw [t3]; exact reads_bools) ReadsFs.nil)))

theorem puts_of {w : World} {A : Option Addr} {len cap : Nat} {l : List (Int × Int × Unit)} (h : SlR Try.prog 69 (RCons (RInt .i64) (RCons (RInt .u32) RNil)) w A len cap l) : PutsAt w A (l.map fun q => (q.1, q.2.1.toNat)) := fun h0 => by
  obtain ⟨b, o, e, hb, hc⟩ := h.mem (by simpa using h0)
  rw [cells_put] at hc
  refine ⟨b, o, e, hb, fun i p hp => ?_⟩
  rw [List.getElem?_map] at hp
  obtain ⟨q, hq, rfl⟩ := Option.map_eq_some_iff.1 hp
  obtain ⟨cs, _, hr, c, r, rfl, ⟨rfl, w1⟩, c2, r2, rfl, ⟨rfl, w2⟩, _⟩ := hc i q hq
  obtain ⟨k1, k2⟩ := range_head hr
  obtain ⟨k3, _⟩ := range_head k2
  have u1 := wf_i64 w1
  have u2 := wf_u32 w2
  exact ⟨k1, by show _ = some (Value.int .u32 ((q.2.1.toNat : Nat) : Int)); rw [← nat_of u2.1]; exact k3, u1.1, u1.2, by show q.2.1.toNat < _; omega⟩
theorem bools_of {w : World} {A : Option Addr} {len cap : Nat} {l : List Bool} (h : SlR Try.prog 4 RBool w A len cap l) : Bools w A l := fun h0 => by
  obtain ⟨b, o, e, hb, hc⟩ := h.mem h0
  rw [cells_bool] at hc
  refine ⟨b, o, e, hb, fun i x hx => ?_⟩
  obtain ⟨cs, _, hr, rfl⟩ := hc i x hx
  rw [Nat.mul_one] at hr
  exact range_one hr
theorem u32s_of {w : World} {A : Option Addr} {len cap : Nat} {l : List Int} (h : SlR Try.prog 28 (RInt .u32) w A len cap l) : U32At w A (l.map Int.toNat) := fun h0 => by
  obtain ⟨b, o, e, hb, hc⟩ := h.mem (by simpa using h0)
  rw [cells_u32] at hc
  refine ⟨b, o, e, hb, fun i p hp => ?_⟩
  rw [List.getElem?_map] at hp
  obtain ⟨q, hq, rfl⟩ := Option.map_eq_some_iff.1 hp
  obtain ⟨cs, _, hr, rfl, w2⟩ := hc i q hq
  rw [Nat.mul_one] at hr
  have u2 := wf_u32 w2
  exact ⟨by rw [← nat_of u2.1]; exact range_one hr, by omega⟩
theorem acts_of {w : World} {A : Option Addr} {len cap : Nat} {l : List (Int × Int × Int × (Option Addr × Nat × List Bool) × Unit)} (h : SlR Try.prog 41 RAct w A len cap l) : ActsAt w A (l.map fun q => (q.1.toNat, q.2.1, q.2.2.1.toNat)) := fun h0 => by
  obtain ⟨b, o, e, hb, hc⟩ := h.mem (by simpa using h0)
  rw [cells_act] at hc
  refine ⟨b, o, e, hb, fun i p hp => ?_⟩
  rw [List.getElem?_map] at hp
  obtain ⟨q, hq, rfl⟩ := Option.map_eq_some_iff.1 hp
  obtain ⟨cs, _, hr, c, r, rfl, ⟨rfl, w0⟩, c1, r1, rfl, ⟨rfl, w1⟩, c2, r2, rfl, ⟨rfl, w2⟩, _⟩ := hc i q hq
  obtain ⟨k0, hr⟩ := range_head hr
  obtain ⟨k1, hr⟩ := range_head hr
  obtain ⟨k2, _⟩ := range_head hr
  have u0 := wf_u8 w0
  have u1 := wf_i64 w1
  have u2 := wf_u32 w2
  exact ⟨by show _ = some (Value.int .u8 ((q.1.toNat : Nat) : Int)); rw [← nat_of u0.1]; exact k0, k1, by show _ = some (Value.int .u32 ((q.2.2.1.toNat : Nat) : Int)); rw [← nat_of u2.1]; exact k2, by show q.1.toNat < _; omega, u1.1, u1.2, by show q.2.2.1.toNat < _; omega⟩
theorem kacts_of {w : World} {A : Option Addr} {len cap : Nat} {l : List (Int × Int × Int × (Option Addr × Nat × List Bool) × Unit)} (h : SlR Try.prog 41 RAct w A len cap l) : KActsAt w A (l.map fun q => (q.1.toNat, q.2.1, q.2.2.1.toNat, q.2.2.2.1.1, q.2.2.2.1.2.2.length, q.2.2.2.1.2.1, q.2.2.2.1.2.2)) := fun h0 => by
  obtain ⟨b, o, e, hb, hc⟩ := h.mem (by simpa using h0)
  rw [cells_act] at hc
  refine ⟨b, o, e, hb, fun i p hp => ?_⟩
  rw [List.getElem?_map] at hp
  obtain ⟨q, hq, rfl⟩ := Option.map_eq_some_iff.1 hp
  obtain ⟨cs, _, hr, c, r, rfl, ⟨rfl, w0⟩, c1, r1, rfl, ⟨rfl, w1⟩, c2, r2, rfl, ⟨rfl, w2⟩, c3, r3, rfl, ⟨rfl, w3⟩, _⟩ := hc i q hq
  obtain ⟨k0, hr⟩ := range_head hr
  obtain ⟨k1, hr⟩ := range_head hr
  obtain ⟨k2, hr⟩ := range_head hr
  obtain ⟨k3, _⟩ := range_head hr
  have u0 := wf_u8 w0
  have u1 := wf_i64 w1
  have u2 := wf_u32 w2
  have hB := bools_of w3
  have hre := w3.reach
  have hle := w3.le
  rw [bytes_bool] at hre
  refine ⟨by show _ = some (Value.int .u8 ((q.1.toNat : Nat) : Int)); rw [← nat_of u0.1]; exact k0, k1, by show _ = some (Value.int .u32 ((q.2.2.1.toNat : Nat) : Int)); rw [← nat_of u2.1]; exact k2, k3, by show q.1.toNat < _; omega, u1.2, by show q.2.2.1.toNat < _; omega, rfl, hB, fun h1 g o e => ?_, by unfold reachBytes at hre; show q.2.2.2.1.2.2.length ≤ _; omega⟩
  obtain ⟨b2, o2, e2, h2, _⟩ := hB h1
  rw [e2] at e
  cases e
  exact h2

section
variable {H : Type} {enc : TypeId × Value → H} {W : World} {A : Option Addr} {n c : Nat} {d : DataW H} {p : List MemPlace} {ts : List TypeId} {ds : List (DataW H)} {j : Nat}
theorem opened_sl {t e : TypeId} {α : Type} {R : World → List Value → α → Prop} (h : Reads Try.prog t (RSl e R)) (hsz : (DataW.weightsEach Try.prog ts ds).all (· ≤ reachBytes) = true) (htj : ts[j]? = some t) (hdj : ds[j]? = some d)
    (hT : DataW.Trod enc Try.prog W 0 (fun _ => true) true t (.slice A n c) d p) : ∃ l : List α, n = l.length ∧ SlR Try.prog e R W A n c l := by
  obtain ⟨q, e1, hS⟩ := h.arg hsz htj hdj hT
  simp [Value.cells] at e1
  obtain ⟨e1, e2, e3⟩ := e1
  subst e1 e2 e3
  exact ⟨_, rfl, hS⟩
theorem opened_puts (hsz : (DataW.weightsEach Try.prog ts ds).all (· ≤ reachBytes) = true) (htj : ts[j]? = some 62) (hdj : ds[j]? = some d)
    (hT : DataW.Trod enc Try.prog W 0 (fun _ => true) true 62 (.slice A n c) d p) : ∃ l : Puts, n = l.length ∧ PutsAt W A l ∧ n ≤ 140737488355328 := by
  obtain ⟨l, hl, hS⟩ := opened_sl (Reads.slice Try.underlying62 (by rw [cells_put]; omega) reads_put) hsz htj hdj hT
  have hre := hS.reach
  have hle := hS.le
  rw [bytes_put] at hre
  unfold reachBytes at hre
  exact ⟨_, by rw [List.length_map]; exact hl, puts_of hS, by omega⟩
theorem opened_bools (hsz : (DataW.weightsEach Try.prog ts ds).all (· ≤ reachBytes) = true) (htj : ts[j]? = some 39) (hdj : ds[j]? = some d)
    (hT : DataW.Trod enc Try.prog W 0 (fun _ => true) true 39 (.slice A n c) d p) : ∃ l : List Bool, n = l.length ∧ Bools W A l ∧ n ≤ 140737488355328 ∧ (0 < l.length → ∀ g o, A = some ⟨g, o, none⟩ → g < W.heap.size) := by
  obtain ⟨l, hl, hS⟩ := opened_sl reads_bools hsz htj hdj hT
  have hre := hS.reach
  have hle := hS.le
  rw [bytes_bool] at hre
  unfold reachBytes at hre
  refine ⟨_, hl, bools_of hS, by omega, fun h1 g o e => ?_⟩
  obtain ⟨b2, o2, e2, h2, _⟩ := bools_of hS h1
  rw [e2] at e
  cases e
  exact h2
theorem opened_u32s (hsz : (DataW.weightsEach Try.prog ts ds).all (· ≤ reachBytes) = true) (htj : ts[j]? = some 22) (hdj : ds[j]? = some d)
    (hT : DataW.Trod enc Try.prog W 0 (fun _ => true) true 22 (.slice A n c) d p) : ∃ l : List Nat, n = l.length ∧ U32At W A l ∧ n ≤ 140737488355328 := by
  obtain ⟨l, hl, hS⟩ := opened_sl (Reads.slice Try.underlying22 (by rw [cells_u32]; omega) (Reads.int Try.underlying28)) hsz htj hdj hT
  have hre := hS.reach
  have hle := hS.le
  rw [bytes_u32] at hre
  unfold reachBytes at hre
  exact ⟨_, by rw [List.length_map]; exact hl, u32s_of hS, by omega⟩
theorem opened_acts (hsz : (DataW.weightsEach Try.prog ts ds).all (· ≤ reachBytes) = true) (htj : ts[j]? = some 23) (hdj : ds[j]? = some d)
    (hT : DataW.Trod enc Try.prog W 0 (fun _ => true) true 23 (.slice A n c) d p) : n ≤ 140737488355328 ∧ (∃ l : Acts, n = l.length ∧ ActsAt W A l) ∧ ∃ l : KActs, n = l.length ∧ KActsAt W A l := by
  obtain ⟨l, hl, hS⟩ := opened_sl (Reads.slice Try.underlying23 (by rw [cells_act]; omega) reads_act) hsz htj hdj hT
  have hre := hS.reach
  have hle := hS.le
  rw [bytes_act] at hre
  unfold reachBytes at hre
  exact ⟨by omega, ⟨_, by rw [List.length_map]; exact hl, acts_of hS⟩, ⟨_, by rw [List.length_map]; exact hl, kacts_of hS⟩⟩
theorem opened_act {v : Value} {base : Nat} (hok : Value.okWide Try.prog W .any base 41 v) (hsz : (DataW.weightsEach Try.prog ts ds).all (· ≤ reachBytes) = true) (htj : ts[j]? = some 41) (hdj : ds[j]? = some d)
    (hT : DataW.Trod enc Try.prog W 0 (fun _ => true) true 41 v d p) : ∃ (kind at' f : Int) (K : Option Addr) (m c : Nat), v = .agg #[.int .u8 kind, .int .i64 at', .int .u32 f, .slice K m c] ∧ 0 ≤ f ∧ f < 4294967296 := by
  obtain ⟨q, c, r, e, ⟨rfl, w0⟩, c1, r1, rfl, ⟨rfl, w1⟩, c2, r2, rfl, ⟨rfl, w2⟩, c3, r3, rfl, ⟨rfl, w3⟩, _⟩ := reads_act.arg hsz htj hdj hT
  obtain ⟨cs, rfl, hcs⟩ := okWide_struct act_under hok
  rw [cells_act] at hcs
  have e' : cs.toList = [.int .u8 q.1] ++ ([.int .i64 q.2.1] ++ ([.int .u32 q.2.2.1] ++ ([.slice q.2.2.2.1.1 q.2.2.2.1.2.2.length q.2.2.2.1.2.1] ++ r3))) := e
  have hr : r3 = [] := List.eq_nil_of_length_eq_zero (by
    have h1 := congrArg List.length e'
    rw [Array.length_toList, hcs] at h1
    simp at h1
    first
      | omega
      | (rw [h1]; rfl)
      | simpa using h1)
  subst hr
  have e2 : cs = #[.int .u8 q.1, .int .i64 q.2.1, .int .u32 q.2.2.1, .slice q.2.2.2.1.1 q.2.2.2.1.2.2.length q.2.2.2.1.2.1] := by
    rw [← Array.toList_inj, e']; rfl
  exact ⟨_, _, _, _, _, _, by rw [e2], (wf_u32 w2).1, (wf_u32 w2).2⟩
end
end Go.Proofs.Ytaipcciokhkmnaa
