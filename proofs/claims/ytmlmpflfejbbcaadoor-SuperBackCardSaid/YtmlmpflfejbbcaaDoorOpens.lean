import Derived.Test.YtmlmpflfejbbcaaDoorBaseN
import Derived.ProofKit
import Derived.OpenShut
import Derived.ChangeOld
import Derived.Below
import Derived.Test.YtmlmpflfejbbcaaDoorRows
import Derived.WalkKit
import Derived.SizedLaws
import Derived.Deep.Slices
import Derived.Deep.MidRow
import Derived.Test.YtmlmpflfejbbcaaDoorBaseG
import Derived.Test.YtmlmpflfejbbcaaDoorSupA
import Derived.Test.YtmlmpflfejbbcaaDoorBaseC
import Derived.Test.YtmlmpflfejbbcaaDoorTie
import Derived.LaidMore
import Derived.Stop.Joined
namespace Go.Proofs.YtmlmpflfejbbcaaDoor
open Go.ChangeShapes Go.WideShapes Go.ChangeAt Go.RowKit

theorem row_own : ownKnob Tryd.prog.godebug = none := by kernel_rfl
theorem row_laidOut : laidOutB Tryd.prog = true := by kernel_rfl

/-- What a slice of bytes that came in reads as. -/
theorem row_of {w : World} {a : Option Addr} {len cap : Nat} {zs : List Int}
    (h : (a = none ∧ len = 0 ∧ cap = 0 ∧ zs = []) ∨
      ∃ x, a = some x ∧ len ≤ cap ∧ cap ≤ maxLen ∧ zs.length = cap ∧ (∀ i, i < zs.length → w.cell? (x.add i) = some (.int .u8 (zs.getD i 0))) ∧ ∀ n ∈ zs, (Lit.int .u8 n).wf = true) :
    Row w a len (fun i => (zs.getD i 0).toNat) := by
  rcases h with ⟨rfl, rfl, rfl, rfl⟩ | ⟨x, rfl, hl, hm, hz, hc, hw⟩
  · exact ⟨fun i => by simp, fun h => absurd h (by omega)⟩
  · have hb : ∀ i, 0 ≤ zs.getD i 0 ∧ zs.getD i 0 < 256 := by
      intro i
      rw [List.getD_eq_getElem?_getD]
      rcases hx : zs[i]? with _ | y
      · simp
      · have := hw y (List.mem_of_getElem? hx)
        have h1 : IntKind.u8.min = 0 := rfl
        have h2 : IntKind.u8.max = 255 := rfl
        simp only [Lit.wf, Bool.and_eq_true, decide_eq_true_eq] at this
        simp
        omega
    refine ⟨fun i => by have := hb i; show (zs.getD i 0).toNat < 256; omega, fun hn => ?_⟩
    obtain ⟨b, o, spot⟩ := x
    have h0 := hc 0 (by omega)
    have hspot : spot = none := by simpa [Addr.add] using World.cell?_spot h0
    subst hspot
    refine ⟨b, o, rfl, ?_, fun i hi => ?_⟩
    · have := World.block_lt_of_cell? _ _ h0
      simpa [Addr.add] using this
    · have h1 := hc i (by omega)
      have e : (⟨b, o, none⟩ : Addr).add i = ⟨b, o + i, none⟩ := by unfold Addr.add; split <;> simp_all
      rw [e] at h1
      rw [h1]
      have := hb i
      show some (Value.int .u8 (zs.getD i 0)) = some (Value.int .u8 (((zs.getD i 0).toNat : Nat) : Int))
      rw [Int.toNat_of_nonneg this.1]

theorem opened_row {H : Type} {enc : TypeId × Value → H} {P : Program} {t e : TypeId} (ht : P.underlying t = some (.slice e)) (he : P.underlying e = some (.int .u8)) (hc : P.cellsOf e = 1) {W : World} {a0 : Option Addr} {len cap : Nat} {d0 : DataW H} {p : List MemPlace}
    (h0 : DataW.Trod enc P W 0 (fun _ => true) true t (.slice a0 len cap) d0 p) : ∃ f : Nat → Nat, Row W a0 len f := by
  obtain ⟨fuel, hf⟩ := h0
  rcases open_ints ht he hc hf with ⟨hcs, _⟩ | ⟨x, l, c, zs, hcs, _, hl, hm, hz, _, hcell, hwz⟩
  · simp [Value.cells] at hcs
    obtain ⟨rfl, rfl, rfl⟩ := hcs
    exact ⟨_, row_of (zs := []) (.inl ⟨rfl, rfl, rfl, rfl⟩)⟩
  · simp [Value.cells] at hcs
    obtain ⟨rfl, rfl, rfl⟩ := hcs
    exact ⟨_, row_of (.inr ⟨_, rfl, hl, hm, by simpa using hz, hcell, hwz⟩)⟩

theorem opened_cap {H : Type} {enc : TypeId × Value → H} {P : Program} {t e : TypeId} (ht : P.underlying t = some (.slice e)) (he : P.underlying e = some (.int .u8)) (hc : P.cellsOf e = 1) {W : World} {a0 : Option Addr} {len cap : Nat} {d0 : DataW H} {p : List MemPlace}
    (h0 : DataW.Trod enc P W 0 (fun _ => true) true t (.slice a0 len cap) d0 p) : len ≤ cap ∧ cap ≤ 9223372036854775807 := by
  obtain ⟨fuel, hf⟩ := h0
  rcases open_ints ht he hc hf with ⟨hcs, _⟩ | ⟨x, l, c, zs, hcs, _, hl, hm, hz, _, hcell, hwz⟩
  · simp [Value.cells] at hcs
    obtain ⟨rfl, rfl, rfl⟩ := hcs
    omega
  · simp [Value.cells] at hcs
    obtain ⟨rfl, rfl, rfl⟩ := hcs
    unfold maxLen at hm
    omega

theorem wf_i64 {n : Int} (h : (Lit.int .i64 n).wf = true) : -9223372036854775808 ≤ n ∧ n ≤ 9223372036854775807 := by
  have h1 : IntKind.i64.min = -9223372036854775808 := rfl
  have h2 : IntKind.i64.max = 9223372036854775807 := rfl
  simp only [Lit.wf, Bool.and_eq_true, decide_eq_true_eq] at h
  omega
theorem wf_u32 {n : Int} (h : (Lit.int .u32 n).wf = true) : 0 ≤ n ∧ n < 4294967296 := by
  have h1 : IntKind.u32.min = 0 := rfl
  have h2 : IntKind.u32.max = 4294967295 := rfl
  simp only [Lit.wf, Bool.and_eq_true, decide_eq_true_eq] at h
  omega
theorem wf_u16 {n : Int} (h : (Lit.int .u16 n).wf = true) : 0 ≤ n ∧ n < 65536 := by
  have h1 : IntKind.u16.min = 0 := rfl
  have h2 : IntKind.u16.max = 65535 := rfl
  simp only [Lit.wf, Bool.and_eq_true, decide_eq_true_eq] at h
  omega
theorem wf_u8 {n : Int} (h : (Lit.int .u8 n).wf = true) : 0 ≤ n ∧ n < 256 := by
  have h1 : IntKind.u8.min = 0 := rfl
  have h2 : IntKind.u8.max = 255 := rfl
  simp only [Lit.wf, Bool.and_eq_true, decide_eq_true_eq] at h
  omega

end Go.Proofs.YtmlmpflfejbbcaaDoor
namespace Go.Proofs.YtmlmpflfejbbcaaDoor
open Go.ChangeShapes Go.WideShapes Go.ChangeAt Go.RowKit Go.Deep

/-! What an argument reads as, part by part: 'Reads P t R': cells that read by the type t (and are within the form's reach) stand in the relation R to some plain datum. -/
def Reads (P : Program) (t : TypeId) {α : Type} (R : World → List Value → α → Prop) : Prop :=
  ∀ (H : Type) (enc : TypeId × Value → H) (w : World) (fuel : Nat) (cs : List Value) (x : DataW H × List MemPlace),
    DataW.trod enc P w 0 (fun _ => true) true fuel t cs = some x → (∀ n ∈ x.1.weights P t, n ≤ reachBytes) → ∃ a, R w cs a
theorem Reads.int {P : Program} {t : TypeId} {k : IntKind} (ht : P.underlying t = some (.int k)) : Reads P t (fun _ cs (n : Int) => cs = [.int k n] ∧ (Lit.int k n).wf = true) := by
  intro H enc w fuel cs x h _
  obtain ⟨n, rfl, _, hw⟩ := DataW.trod_int ht h
  exact ⟨n, rfl, hw⟩
theorem Reads.bool {P : Program} {t : TypeId} (ht : P.underlying t = some .bool) : Reads P t (fun _ cs (b : Bool) => cs = [.bool b]) := by
  intro H enc w fuel cs x h _
  obtain ⟨b, rfl, _⟩ := DataW.trod_bool ht h
  exact ⟨b, rfl⟩
/-- A slice that came in: its elements by the relation R. -/
structure SlR {α : Type} (P : Program) (e : TypeId) (R : World → List Value → α → Prop) (w : World) (A : Option Addr) (len cap : Nat) (l : List α) : Prop where
  len_eq : len = l.length
  le : len ≤ cap
  most : cap ≤ maxLen
  reach : cap * P.bytesOf e ≤ reachBytes
  mem : 0 < l.length → ∃ b o, A = some ⟨b, o, none⟩ ∧ b < w.heap.size ∧ ∀ i x, l[i]? = some x → ∃ cs, cs.length = P.cellsOf e ∧ w.rangeAt b (o + i * P.cellsOf e) cs ∧ R w cs x
theorem mem_weightsAll {H : Type} {P : Program} {e : TypeId} : ∀ {l : List (DataW H)} {d : DataW H}, d ∈ l → ∀ n ∈ d.weights P e, n ∈ DataW.weightsAll P e l
  | d0 :: l, d, hd, n, hn => by
    simp only [DataW.weightsAll, List.mem_append]
    rcases List.mem_cons.1 hd with rfl | hd
    · exact .inl hn
    · exact .inr (mem_weightsAll hd n hn)
theorem add_mid0 (b o i : Nat) : (⟨b, o, none⟩ : Addr).add i = ⟨b, o + i, none⟩ := by unfold Addr.add; split <;> simp_all
theorem Reads.slice {P : Program} {t e : TypeId} {α : Type} {R : World → List Value → α → Prop} (ht : P.underlying t = some (.slice e)) (hp : 0 < P.cellsOf e) (h : Reads P e R) :
    Reads P t (fun w cs (q : Option Addr × Nat × List α) => cs = [.slice q.1 q.2.2.length q.2.1] ∧ SlR P e R w q.1 q.2.2.length q.2.1 q.2.2) := by
  intro H enc w fuel cs x hx hsz
  rcases open_slice ht hx with ⟨rfl, rfl⟩ | ⟨a, len, cap, m, n, D, Pl, rfl, _, hl, hm, hmm, rfl, hel⟩
  · exact ⟨(none, 0, []), rfl, rfl, Nat.le_refl _, Nat.zero_le _, by simp, fun h => absurd h (by simp)⟩
  · simp only [if_true] at hmm
    subst hmm
    have hw : (len + (m - len)) * P.bytesOf e ≤ reachBytes := by
      have := hsz ((((List.range len).map D).length + ((List.range (m - len)).map fun j => D (len + j)).length) * P.bytesOf e) (by simp [DataW.weights, ht])
      simpa using this
    have hq : ∀ i, ∃ q : Option α, i < len → ∃ y, q = some y ∧ ∃ cs, cs.length = P.cellsOf e ∧ w.cells? 0 (a.add (i * P.cellsOf e)) (P.cellsOf e) = some cs ∧ R w cs y := by
      intro i
      by_cases hi : i < len
      · obtain ⟨cs', h1, h2⟩ := hel i (by omega)
        obtain ⟨y, hy⟩ := h H enc w n cs' (D i, Pl i) h2 (fun k hk => hsz k (by
          simp only [DataW.weights, ht]
          refine List.mem_cons_of_mem _ (List.mem_append_left _ (mem_weightsAll (d := D i) ?_ k hk))
          exact List.mem_map.2 ⟨i, List.mem_range.2 hi, rfl⟩))
        exact ⟨some y, fun _ => ⟨y, rfl, cs', (World.cells?_some h1).2.1, h1, hy⟩⟩
      · exact ⟨none, fun q => absurd q hi⟩
    obtain ⟨Q, hQ⟩ := Classical.axiomOfChoice hq
    have hlen : ((List.range len).filterMap Q).length = len := by
      have : ∀ k, k ≤ len → ((List.range k).filterMap Q).length = k := by
        intro k
        induction k with
        | zero => intro _; rfl
        | succ k ih =>
          intro hk
          obtain ⟨y, hy, _⟩ := hQ k (by omega)
          rw [List.range_succ, List.filterMap_append, List.length_append, ih (by omega)]
          simp [hy]
      exact this len (Nat.le_refl _)
    have hget : ∀ k, k ≤ len → ∀ i x, ((List.range k).filterMap Q)[i]? = some x → i < k ∧ Q i = some x := by
      intro k
      induction k with
      | zero => intro _ i x hx; simp at hx
      | succ k ih =>
        intro hk i x hx
        obtain ⟨y, hy, _⟩ := hQ k (by omega)
        have hlk : ((List.range k).filterMap Q).length = k := by
          have : ∀ j, j ≤ k → ((List.range j).filterMap Q).length = j := by
            intro j
            induction j with
            | zero => intro _; rfl
            | succ j ihj =>
              intro hj
              obtain ⟨z, hz, _⟩ := hQ j (by omega)
              rw [List.range_succ, List.filterMap_append, List.length_append, ihj (by omega)]
              simp [hz]
          exact this k (Nat.le_refl _)
        rw [List.range_succ, List.filterMap_append, List.getElem?_append, hlk] at hx
        split at hx
        · obtain ⟨h1, h2⟩ := ih (by omega) i x hx
          exact ⟨by omega, h2⟩
        · simp [hy] at hx
          have : i = k := by
            rcases Nat.lt_or_ge i (k + 1) with q | q
            · omega
            · rw [List.getElem?_eq_none (by simp; omega)] at hx; cases hx
          subst this
          simp at hx
          exact ⟨by omega, by rw [hy, hx]⟩
    refine ⟨(some a, m, (List.range len).filterMap Q), by rw [hlen], rfl, by rw [hlen]; exact hl, hm, ?_, fun h0 => ?_⟩
    · rw [show len + (m - len) = m by omega] at hw; exact hw
    · dsimp only at h0
      rw [hlen] at h0
      obtain ⟨y, _, cs0, _, h1, _⟩ := hQ 0 h0
      obtain ⟨_, hc0, hcell⟩ := World.cells?_some h1
      obtain ⟨b, o, spot⟩ := a
      have h00 := hcell 0 hp
      rw [List.getElem?_eq_getElem (by omega)] at h00
      have hspot : spot = none := by simpa [Addr.add] using World.cell?_spot h00
      subst hspot
      refine ⟨b, o, rfl, ?_, fun i x hx => ?_⟩
      · have := World.block_lt_of_cell? _ _ h00
        simpa [Addr.add] using this
      · obtain ⟨hi, hqi⟩ := hget len (Nat.le_refl _) i x hx
        obtain ⟨y, hy, cs, hcl, h1, hR⟩ := hQ i hi
        rw [hqi] at hy
        cases hy
        refine ⟨cs, hcl, fun j v hv => ?_, hR⟩
        obtain ⟨_, _, hcell⟩ := World.cells?_some h1
        have hj : j < P.cellsOf e := by
          rcases Nat.lt_or_ge j cs.length with q | q
          · omega
          · rw [List.getElem?_eq_none q] at hv; cases hv
        have := hcell j hj
        rw [add_mid0, add_mid0, hv] at this
        exact this
/-! Structs, a field at a time. -/
def ReadsFs (P : Program) (fs : List Field) (off : Nat) {α : Type} (R : World → List Value → α → Prop) : Prop :=
  ∀ (H : Type) (enc : TypeId × Value → H) (w : World) (fuel : Nat) (cs : List Value) (xs : List (DataW H × List MemPlace)), xs.length = fs.length →
    (∀ (i : Nat) (f : Field), fs[i]? = some f → DataW.trod enc P w 0 (fun _ => true) true fuel f.type ((cs.drop f.offset).take (P.cellsOf f.type)) = xs[i]?) →
    (∀ n ∈ DataW.weightsEach P (fs.map (·.type)) (xs.map (·.1)), n ≤ reachBytes) → ∃ a, R w (cs.drop off) a
theorem ReadsFs.nil {P : Program} {off : Nat} : ReadsFs P [] off (fun _ _ (_ : Unit) => True) := fun _ _ _ _ _ _ _ _ _ => ⟨(), trivial⟩
theorem ReadsFs.cons {P : Program} {f : Field} {fs : List Field} {off : Nat} {α β : Type} {R : World → List Value → α → Prop} {S : World → List Value → β → Prop} (ho : f.offset = off) (hr : Reads P f.type R) (hs : ReadsFs P fs (off + P.cellsOf f.type) S) :
    ReadsFs P (f :: fs) off (fun w cs (q : α × β) => ∃ c r, cs = c ++ r ∧ R w c q.1 ∧ S w r q.2) := by
  intro H enc w fuel cs xs hl hx hw
  match xs, hl with
  | x :: xs, hl =>
    have h0 := hx 0 f rfl
    rw [ho] at h0
    obtain ⟨a, ha⟩ := hr H enc w fuel _ x h0 (fun n hn => hw n (by simp only [List.map_cons, DataW.weightsEach, List.mem_append]; exact .inl hn))
    obtain ⟨b, hb⟩ := hs H enc w fuel cs xs (by simpa using hl) (fun i g hg => hx (i + 1) g hg) (fun n hn => hw n (by simp only [List.map_cons, DataW.weightsEach, List.mem_append]; exact .inr hn))
    refine ⟨(a, b), _, _, ?_, ha, hb⟩
    rw [← List.drop_drop, List.take_append_drop]
theorem Reads.struct {P : Program} {t : TypeId} {fs : Array Field} {α : Type} {R : World → List Value → α → Prop} (ht : P.underlying t = some (.struct fs)) (h : ReadsFs P fs.toList 0 R) : Reads P t R := by
  intro H enc w fuel cs x hx hw
  obtain ⟨xs, n, _, rfl, _, hl, hf⟩ := DataW.trod_struct ht hx
  obtain ⟨a, ha⟩ := h H enc w n cs xs (by simpa using hl) (fun i f hi => hf i f (by simpa using hi)) (fun k hk => hw k (by simpa [DataW.weights, ht] using hk))
  exact ⟨a, by simpa using ha⟩
/-! An argument. -/
theorem Reads.arg {P : Program} {t : TypeId} {α : Type} {R : World → List Value → α → Prop} (h : Reads P t R) {H : Type} {enc : TypeId × Value → H} {W : World} {v : Value} {d : DataW H} {p : List MemPlace}
    {ts : List TypeId} {ds : List (DataW H)} {j : Nat} (hsz : (DataW.weightsEach P ts ds).all (· ≤ reachBytes) = true) (htj : ts[j]? = some t) (hdj : ds[j]? = some d)
    (hT : DataW.Trod enc P W 0 (fun _ => true) true t v d p) : ∃ a, R W v.cells.toList a := by
  obtain ⟨fuel, hf⟩ := hT
  exact h H enc W fuel _ _ hf fun n hn => of_decide_eq_true (List.all_eq_true.1 hsz _ (DataW.weights_mem_each htj hdj n hn))
end Go.Proofs.YtmlmpflfejbbcaaDoor
namespace Go.Proofs.YtmlmpflfejbbcaaDoor
open Go.ChangeShapes Go.WideShapes Go.ChangeAt Go.RowKit Go.Deep

/-! A geometry that comes in. -/
abbrev RI : World → List Value → Int → Prop := fun _ cs n => cs = [.int .i64 n] ∧ (Lit.int .i64 n).wf = true
abbrev RCons {α β : Type} (R : World → List Value → α → Prop) (S : World → List Value → β → Prop) : World → List Value → α × β → Prop := fun w cs q => ∃ c r, cs = c ++ r ∧ R w c q.1 ∧ S w r q.2
abbrev RNil : World → List Value → Unit → Prop := fun _ _ _ => True
theorem geo_under : Tryd.prog.underlying 23 = some (.struct (Tryd.prog.fieldsOf 23)) := by kernel_rfl
set_option maxRecDepth 100000 in
theorem geo_fields : ∃ f0 f1 f2 f3 : Field, Tryd.prog.fieldsOf 23 = #[f0, f1, f2, f3] ∧ f0.offset = 0 ∧ f1.offset = 1 ∧ f2.offset = 2 ∧ f3.offset = 3 ∧ f0.type = 3 ∧ f1.type = 3 ∧ f2.type = 3 ∧ f3.type = 3 := ⟨_, _, _, _, rfl, rfl, rfl, rfl, rfl, rfl, rfl, rfl, rfl⟩
theorem cells_int : Tryd.prog.cellsOf 3 = 1 := by kernel_rfl
theorem cells_geo : Tryd.prog.cellsOf 23 = 4 := by kernel_rfl
theorem reads_geo : Reads Tryd.prog 23 (RCons RI (RCons RI (RCons RI (RCons RI RNil)))) := by
  obtain ⟨f0, f1, f2, f3, e, o0, o1, o2, o3, t0, t1, t2, t3⟩ := geo_fields
  refine Reads.struct geo_under ?_
  rw [e]
  have ri := Reads.int Tryd.underlying3
  exact ReadsFs.cons o0 (by rw [t0]; exact ri) (ReadsFs.cons (by rw [o1, t0, cells_int]) (by rw [t1]; exact ri) (ReadsFs.cons (by rw [o2, t0, t1, cells_int]) (by rw [t2]; exact ri) (ReadsFs.cons (by rw [o3, t0, t1, t2, cells_int]) (by rw [t3]; exact ri) ReadsFs.nil)))
set_option maxRecDepth 100000 in
theorem opened_geo {H : Type} {enc : TypeId × Value → H} {W : World} {d : DataW H} {p : List MemPlace} {ts : List TypeId} {ds : List (DataW H)} {j : Nat} {v : Value} {base : Nat} (hok : Value.okWide Tryd.prog W .any base 23 v) (hsz : (DataW.weightsEach Tryd.prog ts ds).all (· ≤ reachBytes) = true) (htj : ts[j]? = some 23) (hdj : ds[j]? = some d)
    (hT : DataW.Trod enc Tryd.prog W 0 (fun _ => true) true 23 v d p) : ∃ g : GeoV, v = .agg (gcs g) ∧ g.Fits := by
  obtain ⟨q, c, r, e, ⟨rfl, w0⟩, c1, r1, rfl, ⟨rfl, w1⟩, c2, r2, rfl, ⟨rfl, w2⟩, c3, r3, rfl, ⟨rfl, w3⟩, _⟩ := reads_geo.arg hsz htj hdj hT
  obtain ⟨cs, rfl, hcs⟩ := okWide_struct geo_under hok
  rw [cells_geo] at hcs
  have e' : cs.toList = [.int .i64 q.1] ++ ([.int .i64 q.2.1] ++ ([.int .i64 q.2.2.1] ++ ([.int .i64 q.2.2.2.1] ++ r3))) := e
  have hr : r3 = [] := List.eq_nil_of_length_eq_zero (by
    have h1 := congrArg List.length e'
    rw [Array.length_toList, hcs] at h1
    simp at h1
    first
      | omega
      | (rw [h1]; rfl)
      | simpa using h1)
  subst hr
  have e2 : cs = #[.int .i64 q.1, .int .i64 q.2.1, .int .i64 q.2.2.1, .int .i64 q.2.2.2.1] := by
    rw [← Array.toList_inj, e']; rfl
  exact ⟨⟨q.1, q.2.1, q.2.2.1, q.2.2.2.1⟩, by rw [e2, gcs_eq], ⟨wf_i64 w0, wf_i64 w1, wf_i64 w2, wf_i64 w3⟩⟩
end Go.Proofs.YtmlmpflfejbbcaaDoor
namespace Go.Proofs.YtmlmpflfejbbcaaDoor
open Go.ChangeShapes Go.WideShapes Go.ChangeAt Go.RowKit Go.Deep

/-! Arrays, opened: each element by the relation R. -/
theorem Reads.array {P : Program} {t e : TypeId} {n : Nat} {α : Type} {R : World → List Value → α → Prop} (ht : P.underlying t = some (.array n e)) (h : Reads P e R) :
    Reads P t (fun w cs (l : List α) => cs.length = P.cellsOf t ∧ l.length = n ∧ ∀ i x, l[i]? = some x → R w ((cs.drop (i * P.cellsOf e)).take (P.cellsOf e)) x) := by
  intro H enc w fuel cs x hx hsz
  obtain ⟨xs, m, _, rfl, hl, hn, hel⟩ := DataW.trod_array ht hx
  have hq : ∀ i, ∃ q : Option α, i < n → ∃ y, q = some y ∧ R w ((cs.drop (i * P.cellsOf e)).take (P.cellsOf e)) y := by
    intro i
    by_cases hi : i < n
    · have h1 := hel i hi
      have h2 : xs[i]? = some xs[i] := List.getElem?_eq_getElem (by omega)
      rw [h2] at h1
      obtain ⟨y, hy⟩ := h H enc w m _ _ h1 (fun k hk => hsz k (by
        simp only [DataW.weights, ht]
        exact mem_weightsAll (d := xs[i].1) (List.mem_map.2 ⟨_, List.getElem_mem _, rfl⟩) k hk))
      exact ⟨some y, fun _ => ⟨y, rfl, hy⟩⟩
    · exact ⟨none, fun q => absurd q hi⟩
  obtain ⟨Q, hQ⟩ := Classical.axiomOfChoice hq
  have key : ∀ k, k ≤ n → ∃ l : List α, l.length = k ∧ ∀ i x, l[i]? = some x → R w ((cs.drop (i * P.cellsOf e)).take (P.cellsOf e)) x := by
    intro k
    induction k with
    | zero => intro _; exact ⟨[], rfl, fun i x hx => by simp at hx⟩
    | succ k ih =>
      intro hk
      obtain ⟨l, h1, h2⟩ := ih (by omega)
      obtain ⟨y, _, hy⟩ := hQ k (by omega)
      refine ⟨l ++ [y], by simp [h1], fun i x hx => ?_⟩
      rw [List.getElem?_append] at hx
      split at hx
      · exact h2 i x hx
      · rename_i hni
        rcases Nat.lt_or_ge (i - l.length) 1 with u | u
        · obtain rfl : i = k := by omega
          rw [h1, Nat.sub_self] at hx
          simp at hx
          subst hx
          exact hy
        · rw [List.getElem?_eq_none (by simpa using u)] at hx; cases hx
  obtain ⟨l, h1, h2⟩ := key n (Nat.le_refl _)
  exact ⟨l, hl, h1, h2⟩
theorem okWide_array {P : Program} {w : World} {r : Reach} {base : Nat} {t e : TypeId} {n : Nat} {v : Value} (ht : P.underlying t = some (.array n e)) (h : Value.okWide P w r base t v) : ∃ cs, v = .agg cs ∧ cs.size = P.cellsOf t := by
  simp only [Value.okWide, ht] at h
  obtain ⟨cs, h1, h2, _⟩ := h
  exact ⟨cs, h1, h2⟩
end Go.Proofs.YtmlmpflfejbbcaaDoor
namespace Go.Proofs.YtmlmpflfejbbcaaDoor
open Go.ChangeShapes Go.WideShapes Go.ChangeAt Go.RowKit Go.Deep

/-! A block that comes in. -/
abbrev RU8 : World → List Value → Int → Prop := fun _ cs n => cs = [.int .u8 n] ∧ (Lit.int .u8 n).wf = true
abbrev RArr (t e : TypeId) (n : Nat) {α : Type} (R : World → List Value → α → Prop) : World → List Value → List α → Prop := fun w cs l => cs.length = Tryd.prog.cellsOf t ∧ l.length = n ∧ ∀ i x, l[i]? = some x → R w ((cs.drop (i * Tryd.prog.cellsOf e)).take (Tryd.prog.cellsOf e)) x
theorem blk_under : Tryd.prog.underlying 29 = some (.array 256 5) := by kernel_rfl
theorem blk_cells : Tryd.prog.cellsOf 29 = 256 := by kernel_rfl
theorem u8_cells : Tryd.prog.cellsOf 5 = 1 := by kernel_rfl
theorem reads_blk : Reads Tryd.prog 29 (RArr 29 5 256 RU8) := Reads.array blk_under (Reads.int Tryd.underlying5)
set_option maxRecDepth 100000 in
theorem opened_blk {H : Type} {enc : TypeId × Value → H} {W : World} {d : DataW H} {p : List MemPlace} {ts : List TypeId} {ds : List (DataW H)} {j : Nat} {v : Value} {base : Nat} (hok : Value.okWide Tryd.prog W .any base 29 v) (hsz : (DataW.weightsEach Tryd.prog ts ds).all (· ≤ reachBytes) = true) (htj : ts[j]? = some 29) (hdj : ds[j]? = some d)
    (hT : DataW.Trod enc Tryd.prog W 0 (fun _ => true) true 29 v d p) : ∃ X : Blk, v = .agg (arr X) := by
  obtain ⟨l, _, h2, h3⟩ := reads_blk.arg hsz htj hdj hT
  obtain ⟨cs, rfl, hcs⟩ := okWide_array blk_under hok
  rw [blk_cells] at hcs
  rw [u8_cells] at h3
  have hv : ∀ i, i < 256 → ∃ n : Int, l[i]? = some n ∧ cs[i]? = some (.int .u8 n) ∧ 0 ≤ n ∧ n < 256 := by
    intro i hi
    have e1 : l[i]? = some l[i] := List.getElem?_eq_getElem (by omega)
    obtain ⟨h4, h5⟩ := h3 i _ e1
    have h6 : cs.toList[i]? = some (.int .u8 l[i]) := by
      have := congrArg (·[0]?) h4
      simpa [List.getElem?_take, Value.cells] using this
    have h7 := wf_u8 h5
    exact ⟨l[i], e1, by simpa using h6, h7.1, h7.2⟩
  have hlt : ∀ i, i < 256 → (l.getD i 0).toNat < 256 := fun i hi => by
    obtain ⟨n, e1, _, h5, h6⟩ := hv i hi
    rw [List.getD_eq_getElem?_getD, e1]
    show n.toNat < 256
    omega
  refine ⟨Blk.of (fun i => (l.getD i 0).toNat) hlt, ?_⟩
  rw [arr_ext hcs fun i hi => ?_]
  obtain ⟨n, e1, e2, h5, h6⟩ := hv i hi
  rw [e2, Blk.of_f hi, List.getD_eq_getElem?_getD, e1]
  show _ = some (Value.int .u8 ((n.toNat : Nat) : Int))
  rw [Int.toNat_of_nonneg h5]
end Go.Proofs.YtmlmpflfejbbcaaDoor
namespace Go.Proofs.YtmlmpflfejbbcaaDoor
open Go.ChangeShapes Go.WideShapes Go.ChangeAt Go.RowKit Go.Deep

/-! A superblock that comes in, and a list of descriptors. -/
abbrev RU32 : World → List Value → Int → Prop := fun _ cs n => cs = [.int .u32 n] ∧ (Lit.int .u32 n).wf = true
set_option maxRecDepth 100000 in
theorem super_under : Tryd.prog.underlying 26 = some (.struct (Tryd.prog.fieldsOf 26)) := by kernel_rfl
set_option maxRecDepth 100000 in
theorem super_fields : ∃ f0 f1 : Field, Tryd.prog.fieldsOf 26 = #[f0, f1] ∧ f0.offset = 0 ∧ f1.offset = 4 ∧ f0.type = 23 ∧ f1.type = 24 := ⟨_, _, rfl, rfl, rfl, rfl, rfl⟩
set_option maxRecDepth 100000 in
theorem cells_super : Tryd.prog.cellsOf 26 = 5 := by kernel_rfl
set_option maxRecDepth 100000 in
theorem reads_super : Reads Tryd.prog 26 (RCons (RCons RI (RCons RI (RCons RI (RCons RI RNil)))) (RCons RU32 RNil)) := by
  obtain ⟨f0, f1, e, o0, o1, t0, t1⟩ := super_fields
  refine Reads.struct super_under ?_
  rw [e]
  exact ReadsFs.cons o0 (by rw [t0]; exact reads_geo) (ReadsFs.cons (by rw [o1, t0, cells_geo]) (by rw [t1]; exact Reads.int Tryd.underlying24) ReadsFs.nil)
set_option maxRecDepth 100000 in
theorem desc_under : Tryd.prog.underlying 48 = some (.struct (Tryd.prog.fieldsOf 48)) := by kernel_rfl
set_option maxRecDepth 100000 in
theorem desc_fields : ∃ f0 f1 f2 : Field, Tryd.prog.fieldsOf 48 = #[f0, f1, f2] ∧ f0.offset = 0 ∧ f1.offset = 1 ∧ f2.offset = 2 ∧ f0.type = 3 ∧ f1.type = 3 ∧ f2.type = 3 := ⟨_, _, _, rfl, rfl, rfl, rfl, rfl, rfl, rfl⟩
set_option maxRecDepth 100000 in
theorem cells_desc : Tryd.prog.cellsOf 48 = 3 := by kernel_rfl
set_option maxRecDepth 100000 in
theorem bytes_desc : Tryd.prog.bytesOf 48 = 24 := by kernel_rfl
abbrev RD : World → List Value → Int × Int × Int × Unit → Prop := RCons RI (RCons RI (RCons RI RNil))
set_option maxRecDepth 100000 in
theorem reads_desc : Reads Tryd.prog 48 RD := by
  obtain ⟨f0, f1, f2, e, o0, o1, o2, t0, t1, t2⟩ := desc_fields
  refine Reads.struct desc_under ?_
  rw [e]
  have ri := Reads.int Tryd.underlying3
  exact ReadsFs.cons o0 (by rw [t0]; exact ri) (ReadsFs.cons (by rw [o1, t0, cells_int]) (by rw [t1]; exact ri) (ReadsFs.cons (by rw [o2, t0, t1, cells_int]) (by rw [t2]; exact ri) ReadsFs.nil))
set_option maxRecDepth 100000 in
theorem reads_descs : Reads Tryd.prog 27 (fun w cs (q : Option Addr × Nat × List (Int × Int × Int × Unit)) => cs = [.slice q.1 q.2.2.length q.2.1] ∧ SlR Tryd.prog 48 RD w q.1 q.2.2.length q.2.1 q.2.2) :=
  Reads.slice Tryd.underlying27 (by rw [cells_desc]; omega) reads_desc
def descV (q : Int × Int × Int × Unit) : DescV := ⟨q.1, q.2.1, q.2.2.1⟩
set_option maxRecDepth 100000 in
theorem opened_descs {H : Type} {enc : TypeId × Value → H} {W : World} {d : DataW H} {p : List MemPlace} {ts : List TypeId} {ds : List (DataW H)} {j : Nat} {A : Option Addr} {n c : Nat} (hsz : (DataW.weightsEach Tryd.prog ts ds).all (· ≤ reachBytes) = true) (htj : ts[j]? = some 27) (hdj : ds[j]? = some d)
    (hT : DataW.Trod enc Tryd.prog W 0 (fun _ => true) true 27 (.slice A n c) d p) : ∃ l : List DescV, n = l.length ∧ n ≤ c ∧ DRow W A l := by
  obtain ⟨q, e, hs⟩ := reads_descs.arg hsz htj hdj hT
  have e' : [Value.slice A n c] = [Value.slice q.1 q.2.2.length q.2.1] := e
  injection e' with e1 _
  injection e1 with e1 e2 e3
  subst e1
  refine ⟨q.2.2.map descV, by rw [List.length_map]; exact e2, by rw [e2, e3]; exact hs.le, ?_, ?_, fun h0 => ?_⟩
  · have h1 := hs.le; have h2 := hs.reach
    rw [bytes_desc] at h2
    have h3 : reachBytes ≤ 140737488355328 := by decide
    rw [List.length_map]; omega
  · intro d hd
    obtain ⟨x, hx, rfl⟩ := List.mem_map.1 hd
    obtain ⟨i, hi⟩ := List.mem_iff_getElem?.1 hx
    have hpos : 0 < q.2.2.length := by
      rcases Nat.eq_zero_or_pos q.2.2.length with z | z
      · rw [List.eq_nil_of_length_eq_zero z] at hi; simp at hi
      · exact z
    obtain ⟨b, o, _, _, hc⟩ := hs.mem hpos
    obtain ⟨cs, _, _, c1, r1, _, ⟨_, w1⟩, c2, r2, _, ⟨_, w2⟩, c3, r3, _, ⟨_, w3⟩, _⟩ := hc i x hi
    exact ⟨wf_i64 w1, wf_i64 w2, wf_i64 w3⟩
  · rw [List.length_map] at h0
    obtain ⟨b, o, h1, h2, hc⟩ := hs.mem h0
    refine ⟨b, o, h1, h2, fun k d hd => ?_⟩
    rw [List.getElem?_map] at hd
    obtain ⟨x, hx, rfl⟩ := Option.map_eq_some_iff.1 hd
    obtain ⟨cs, hcl, hra, c1, r1, rfl, ⟨rfl, w1⟩, c2, r2, rfl, ⟨rfl, w2⟩, c3, r3, rfl, ⟨rfl, w3⟩, _⟩ := hc k x hx
    rw [cells_desc] at hra
    intro i v hv
    rw [dcs_eq] at hv
    refine hra i v ?_
    match i, hv with
    | 0, hv => exact hv
    | 1, hv => exact hv
    | 2, hv => exact hv
set_option maxRecDepth 100000 in
theorem opened_super {H : Type} {enc : TypeId × Value → H} {W : World} {d : DataW H} {p : List MemPlace} {ts : List TypeId} {ds : List (DataW H)} {j : Nat} {v : Value} {base : Nat} (hok : Value.okWide Tryd.prog W .any base 26 v) (hsz : (DataW.weightsEach Tryd.prog ts ds).all (· ≤ reachBytes) = true) (htj : ts[j]? = some 26) (hdj : ds[j]? = some d)
    (hT : DataW.Trod enc Tryd.prog W 0 (fun _ => true) true 26 v d p) : ∃ s : SuperV, v = .agg (scs s) ∧ s.Fits := by
  obtain ⟨q, cg, cr, e, ⟨c0, r0, rfl, ⟨rfl, w0⟩, c1, r1, rfl, ⟨rfl, w1⟩, c2, r2, rfl, ⟨rfl, w2⟩, c3, r3, rfl, ⟨rfl, w3⟩, _⟩, c4, r4, rfl, ⟨rfl, w4⟩, _⟩ := reads_super.arg hsz htj hdj hT
  obtain ⟨cs, rfl, hcs⟩ := okWide_struct super_under hok
  rw [cells_super] at hcs
  have e' : cs.toList = ([.int .i64 q.1.1] ++ ([.int .i64 q.1.2.1] ++ ([.int .i64 q.1.2.2.1] ++ ([.int .i64 q.1.2.2.2.1] ++ r3)))) ++ ([.int .u32 q.2.1] ++ r4) := e
  have hl := congrArg List.length e'
  rw [Array.length_toList, hcs] at hl
  simp at hl
  have h3 : r3 = [] := List.eq_nil_of_length_eq_zero (by omega)
  have h4 : r4 = [] := List.eq_nil_of_length_eq_zero (by omega)
  subst h3 h4
  have hu := wf_u32 w4
  refine ⟨⟨⟨q.1.1, q.1.2.1, q.1.2.2.1, q.1.2.2.2.1⟩, q.2.1.toNat⟩, ?_, ⟨wf_i64 w0, wf_i64 w1, wf_i64 w2, wf_i64 w3⟩, by show q.2.1.toNat < 4294967296; omega⟩
  have e2 : cs = #[.int .i64 q.1.1, .int .i64 q.1.2.1, .int .i64 q.1.2.2.1, .int .i64 q.1.2.2.2.1, .int .u32 q.2.1] := by
    rw [← Array.toList_inj, e']; rfl
  rw [e2, scs_eq]
  show _ = Value.agg #[.int .i64 q.1.1, .int .i64 q.1.2.1, .int .i64 q.1.2.2.1, .int .i64 q.1.2.2.2.1, .int .u32 ((q.2.1.toNat : Nat) : Int)]
  rw [Int.toNat_of_nonneg hu.1]
end Go.Proofs.YtmlmpflfejbbcaaDoor
namespace Go.Proofs.YtmlmpflfejbbcaaDoor
open Go.ChangeShapes Go.WideShapes Go.ChangeAt Go.RowKit CrcM

theorem stand_of {P : Program} {ps : Array TypeId} (h : (ps.toList.all fun t => !P.wantsStandIn t) = true) : ∀ (j : Nat) t, ps[j]? = some t → P.wantsStandIn t = false := by
  intro j t ht
  rw [List.all_eq_true] at h
  have := h t (by rw [Array.mem_toList_iff]; exact Array.mem_of_getElem? ht)
  simpa using this

/-- The listed variables, as every row of this seat lists them. -/
abbrev laids {H : Type} : List (String × DataW H) := [("quern/crc.steps", Rows.laid_quern_crc_steps)]
theorem gSteps : Tryd.prog.globalNamed "quern/crc.steps" = some 0 := by kernel_rfl
theorem tSteps : (Tryd.prog.globals[0]?).map (·.type) = some 107 := by kernel_rfl

/-- The door's own heap meets the condition. -/
theorem door_met (os : Os) (args : Array Value) : laidMetH Tryd.prog laids ((World.doorLaid Tryd.prog 100 os).forCall (fun _ _ => 0) ⟨#[], args, []⟩).memory :=
  laidMetH_of_parts3 (fuel := 8) (laidMet_of_run' 8 (by kernel_rfl) (by kernel_rfl)) (by kernel_rfl) (by kernel_rfl)

def steps16 : List Nat := [0, 498536548, 997073096, 651767980, 1994146192, 1802195444, 1303535960, 1342533948, 3988292384, 4027552580, 3604390888, 3412177804, 2607071920, 2262029012, 2685067896, 3183342108]
theorem steps16_at : ∀ i, i < 16 → steps16[i]? = some (shN 4 i) := by decide +kernel

set_option maxRecDepth 100000 in
/-- What the condition gives: the table's cells. -/
theorem env_of_laid {W : World} (h : laidMetH Tryd.prog laids W) : Env W := by
  rw [MakeChecks.laidMetH_plain _ _ _ (by kernel_rfl)] at h
  obtain ⟨ps, ⟨g0, t0, cs0, f0, p0, q0, hg0, ht0, hv0, hd0, _, _⟩, _, _⟩ := h
  obtain rfl := Option.some.inj (gSteps.symm.trans hg0)
  obtain rfl := Option.some.inj (tSteps.symm.trans ht0)
  have c1 : Tryd.prog.cellsOf 24 = 1 := by kernel_rfl
  obtain ⟨xs, m1, rfl, hx1, hlen, hn, hel⟩ := DataW.trod_array Tryd.underlying107 hd0
  have hx := congrArg Prod.fst hx1
  simp only at hx
  have hL : xs.map (·.1) = steps16.map (fun n => DataW.lit (.int .u32 ((n : Nat) : Int))) := by
    have : (DataW.agg (steps16.map (fun n => DataW.lit (.int .u32 ((n : Nat) : Int)))) : DataW Unit) = DataW.agg (xs.map (·.1)) := hx
    injection this with this
    exact this.symm
  have hcell : ∀ i, i < 16 → W.cell? ⟨0, i, none⟩ = some (.int .u32 ((shN 4 i : Nat) : Int)) := by
    intro i hi
    have h1 := hel i hi
    have h2 : (xs.map (·.1))[i]? = some (DataW.lit (.int .u32 ((shN 4 i : Nat) : Int))) := by
      rw [hL, List.getElem?_map, steps16_at i hi]; rfl
    rw [List.getElem?_map] at h2
    rcases hxi : xs[i]? with _ | x
    · rw [hxi] at h2; cases h2
    rw [hxi] at h1 h2
    obtain ⟨k, e1, e2, _⟩ := DataW.trod_int Tryd.underlying24 h1
    rw [e2] at h2
    simp at h2
    rw [c1, Nat.mul_one] at e1
    have h3 := World.var?_cell hg0 hv0 i
    have h4 : cs0.toList[i]? = some (.int .u32 k) := by
      have := congrArg (·[0]?) e1
      simpa using this
    rw [h3, ← h2, ← h4]
    simp
  exact ⟨by simpa using World.block_lt_of_cell? _ _ (hcell 0 (by omega)), hcell⟩

end Go.Proofs.YtmlmpflfejbbcaaDoor
