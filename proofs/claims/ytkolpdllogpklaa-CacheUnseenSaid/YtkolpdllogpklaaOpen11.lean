import Derived.Test.YtkolpdllogpklaaRows
import Derived.WalkKit
import Derived.ProofKit
import Derived.OpenShut
import Derived.ChangeOld
import Derived.Below
import Derived.SizedLaws
import Derived.Deep.Slices
import Derived.Deep.MidRow
namespace Go.Proofs.Ytkolpdllogpklaa
open Go.ChangeShapes Go.WideShapes Go.ChangeAt Go.RowKit Go.Deep

/-! What an argument reads as, part by part: 'OpReads P t R': cells that read by the type t (and are within the form's reach) stand in the relation R to some plain datum. -/
def OpReads (P : Program) (t : TypeId) {α : Type} (R : World → List Value → α → Prop) : Prop :=
  ∀ (H : Type) (enc : TypeId × Value → H) (w : World) (fuel : Nat) (cs : List Value) (x : DataW H × List MemPlace),
    DataW.trod enc P w 0 (fun _ => true) true fuel t cs = some x → (∀ n ∈ x.1.weights P t, n ≤ reachBytes) → ∃ a, R w cs a
theorem OpReads.int {P : Program} {t : TypeId} {k : IntKind} (ht : P.underlying t = some (.int k)) : OpReads P t (fun _ cs (n : Int) => cs = [.int k n] ∧ (Lit.int k n).wf = true) := by
  intro H enc w fuel cs x h _
  obtain ⟨n, rfl, _, hw⟩ := DataW.trod_int ht h
  exact ⟨n, rfl, hw⟩
theorem OpReads.bool {P : Program} {t : TypeId} (ht : P.underlying t = some .bool) : OpReads P t (fun _ cs (b : Bool) => cs = [.bool b]) := by
  intro H enc w fuel cs x h _
  obtain ⟨b, rfl, _⟩ := DataW.trod_bool ht h
  exact ⟨b, rfl⟩
/-- A slice that came in: its elements by the relation R. -/
structure SlR {α : Type} (P : Program) (e : TypeId) (R : World → List Value → α → Prop) (w : World) (A : Option Addr) (len cap : Nat) (l : List α) : Prop where
  len_eq : len = l.length
  le : len ≤ cap
  most : cap ≤ maxLen
  reach : cap * P.bytesOf e ≤ reachBytes
  mem : 0 < l.length → ∃ b o, A = some ⟨b, o, none⟩ ∧ b < w.heap.size ∧ ∀ i x, l[i]? = some x → ∃ cs, cs.length = P.cellsOf e ∧ w.rangeAt b (o + i * P.cellsOf e) cs ∧ R w cs x
theorem mem_weightsAll {H : Type} {P : Program} {e : TypeId} : ∀ {l : List (DataW H)} {d : DataW H}, d ∈ l → ∀ n ∈ d.weights P e, n ∈ DataW.weightsAll P e l
  | d0 :: l, d, hd, n, hn => by
    simp only [DataW.weightsAll, List.mem_append]
    rcases List.mem_cons.1 hd with rfl | hd
    · exact .inl hn
    · exact .inr (mem_weightsAll hd n hn)
theorem add_mid0 (b o i : Nat) : (⟨b, o, none⟩ : Addr).add i = ⟨b, o + i, none⟩ := by unfold Addr.add; split <;> simp_all
theorem OpReads.slice {P : Program} {t e : TypeId} {α : Type} {R : World → List Value → α → Prop} (ht : P.underlying t = some (.slice e)) (hp : 0 < P.cellsOf e) (h : OpReads P e R) :
    OpReads P t (fun w cs (q : Option Addr × Nat × List α) => cs = [.slice q.1 q.2.2.length q.2.1] ∧ SlR P e R w q.1 q.2.2.length q.2.1 q.2.2) := by
  intro H enc w fuel cs x hx hsz
  rcases open_slice ht hx with ⟨rfl, rfl⟩ | ⟨a, len, cap, m, n, D, Pl, rfl, _, hl, hm, hmm, rfl, hel⟩
  · exact ⟨(none, 0, []), rfl, rfl, Nat.le_refl _, Nat.zero_le _, by simp, fun h => absurd h (by simp)⟩
  · simp only [if_true] at hmm
    subst hmm
    have hw : (len + (m - len)) * P.bytesOf e ≤ reachBytes := by
      have := hsz ((((List.range len).map D).length + ((List.range (m - len)).map fun j => D (len + j)).length) * P.bytesOf e) (by simp [DataW.weights, ht])
      simpa using this
    have hq : ∀ i, ∃ q : Option α, i < len → ∃ y, q = some y ∧ ∃ cs, cs.length = P.cellsOf e ∧ w.cells? 0 (a.add (i * P.cellsOf e)) (P.cellsOf e) = some cs ∧ R w cs y := by
      intro i
      by_cases hi : i < len
      · obtain ⟨cs', h1, h2⟩ := hel i (by omega)
        obtain ⟨y, hy⟩ := h H enc w n cs' (D i, Pl i) h2 (fun k hk => hsz k (by
          simp only [DataW.weights, ht]
          refine List.mem_cons_of_mem _ (List.mem_append_left _ (mem_weightsAll (d := D i) ?_ k hk))
          exact List.mem_map.2 ⟨i, List.mem_range.2 hi, rfl⟩))
        exact ⟨some y, fun _ => ⟨y, rfl, cs', (World.cells?_some h1).2.1, h1, hy⟩⟩
      · exact ⟨none, fun q => absurd q hi⟩
    obtain ⟨Q, hQ⟩ := Classical.axiomOfChoice hq
    have hlen : ((List.range len).filterMap Q).length = len := by
      have : ∀ k, k ≤ len → ((List.range k).filterMap Q).length = k := by
        intro k
        induction k with
        | zero => intro _; rfl
        | succ k ih =>
          intro hk
          obtain ⟨y, hy, _⟩ := hQ k (by omega)
          rw [List.range_succ, List.filterMap_append, List.length_append, ih (by omega)]
          simp [hy]
      exact this len (Nat.le_refl _)
    have hget : ∀ k, k ≤ len → ∀ i x, ((List.range k).filterMap Q)[i]? = some x → i < k ∧ Q i = some x := by
      intro k
      induction k with
      | zero => intro _ i x hx; simp at hx
      | succ k ih =>
        intro hk i x hx
        obtain ⟨y, hy, _⟩ := hQ k (by omega)
        have hlk : ((List.range k).filterMap Q).length = k := by
          have : ∀ j, j ≤ k → ((List.range j).filterMap Q).length = j := by
            intro j
            induction j with
            | zero => intro _; rfl
            | succ j ihj =>
              intro hj
              obtain ⟨z, hz, _⟩ := hQ j (by omega)
              rw [List.range_succ, List.filterMap_append, List.length_append, ihj (by omega)]
              simp [hz]
          exact this k (Nat.le_refl _)
        rw [List.range_succ, List.filterMap_append, List.getElem?_append, hlk] at hx
        split at hx
        · obtain ⟨h1, h2⟩ := ih (by omega) i x hx
          exact ⟨by omega, h2⟩
        · simp [hy] at hx
          have : i = k := by
            rcases Nat.lt_or_ge i (k + 1) with q | q
            · omega
            · rw [List.getElem?_eq_none (by simp; omega)] at hx; cases hx
          subst this
          simp at hx
          exact ⟨by omega, by rw [hy, hx]⟩
    refine ⟨(some a, m, (List.range len).filterMap Q), by rw [hlen], rfl, by rw [hlen]; exact hl, hm, ?_, fun h0 => ?_⟩
    · rw [show len + (m - len) = m by omega] at hw; exact hw
    · dsimp only at h0
      rw [hlen] at h0
      obtain ⟨y, _, cs0, _, h1, _⟩ := hQ 0 h0
      obtain ⟨_, hc0, hcell⟩ := World.cells?_some h1
      obtain ⟨b, o, spot⟩ := a
      have h00 := hcell 0 hp
      rw [List.getElem?_eq_getElem (by omega)] at h00
      have hspot : spot = none := by simpa [Addr.add] using World.cell?_spot h00
      subst hspot
      refine ⟨b, o, rfl, ?_, fun i x hx => ?_⟩
      · have := World.block_lt_of_cell? _ _ h00
        simpa [Addr.add] using this
      · obtain ⟨hi, hqi⟩ := hget len (Nat.le_refl _) i x hx
        obtain ⟨y, hy, cs, hcl, h1, hR⟩ := hQ i hi
        rw [hqi] at hy
        cases hy
        refine ⟨cs, hcl, fun j v hv => ?_, hR⟩
        obtain ⟨_, _, hcell⟩ := World.cells?_some h1
        have hj : j < P.cellsOf e := by
          rcases Nat.lt_or_ge j cs.length with q | q
          · omega
          · rw [List.getElem?_eq_none q] at hv; cases hv
        have := hcell j hj
        rw [add_mid0, add_mid0, hv] at this
        exact this
/-! Structs, a field at a time. -/
def ReadsFs (P : Program) (fs : List Field) (off : Nat) {α : Type} (R : World → List Value → α → Prop) : Prop :=
  ∀ (H : Type) (enc : TypeId × Value → H) (w : World) (fuel : Nat) (cs : List Value) (xs : List (DataW H × List MemPlace)), xs.length = fs.length →
    (∀ (i : Nat) (f : Field), fs[i]? = some f → DataW.trod enc P w 0 (fun _ => true) true fuel f.type ((cs.drop f.offset).take (P.cellsOf f.type)) = xs[i]?) →
    (∀ n ∈ DataW.weightsEach P (fs.map (·.type)) (xs.map (·.1)), n ≤ reachBytes) → ∃ a, R w (cs.drop off) a
theorem ReadsFs.nil {P : Program} {off : Nat} : ReadsFs P [] off (fun _ _ (_ : Unit) => True) := fun _ _ _ _ _ _ _ _ _ => ⟨(), trivial⟩
theorem ReadsFs.cons {P : Program} {f : Field} {fs : List Field} {off : Nat} {α β : Type} {R : World → List Value → α → Prop} {S : World → List Value → β → Prop} (ho : f.offset = off) (hr : OpReads P f.type R) (hs : ReadsFs P fs (off + P.cellsOf f.type) S) :
    ReadsFs P (f :: fs) off (fun w cs (q : α × β) => ∃ c r, cs = c ++ r ∧ R w c q.1 ∧ S w r q.2) := by
  intro H enc w fuel cs xs hl hx hw
  match xs, hl with
  | x :: xs, hl =>
    have h0 := hx 0 f rfl
    rw [ho] at h0
    obtain ⟨a, ha⟩ := hr H enc w fuel _ x h0 (fun n hn => hw n (by simp only [List.map_cons, DataW.weightsEach, List.mem_append]; exact .inl hn))
    obtain ⟨b, hb⟩ := hs H enc w fuel cs xs (by simpa using hl) (fun i g hg => hx (i + 1) g hg) (fun n hn => hw n (by simp only [List.map_cons, DataW.weightsEach, List.mem_append]; exact .inr hn))
    refine ⟨(a, b), _, _, ?_, ha, hb⟩
    rw [← List.drop_drop, List.take_append_drop]
theorem OpReads.struct {P : Program} {t : TypeId} {fs : Array Field} {α : Type} {R : World → List Value → α → Prop} (ht : P.underlying t = some (.struct fs)) (h : ReadsFs P fs.toList 0 R) : OpReads P t R := by
  intro H enc w fuel cs x hx hw
  obtain ⟨xs, n, _, rfl, _, hl, hf⟩ := DataW.trod_struct ht hx
  obtain ⟨a, ha⟩ := h H enc w n cs xs (by simpa using hl) (fun i f hi => hf i f (by simpa using hi)) (fun k hk => hw k (by simpa [DataW.weights, ht] using hk))
  exact ⟨a, by simpa using ha⟩
/-! An argument. -/
theorem OpReads.arg {P : Program} {t : TypeId} {α : Type} {R : World → List Value → α → Prop} (h : OpReads P t R) {H : Type} {enc : TypeId × Value → H} {W : World} {v : Value} {d : DataW H} {p : List MemPlace}
    {ts : List TypeId} {ds : List (DataW H)} {j : Nat} (hsz : (DataW.weightsEach P ts ds).all (· ≤ reachBytes) = true) (htj : ts[j]? = some t) (hdj : ds[j]? = some d)
    (hT : DataW.Trod enc P W 0 (fun _ => true) true t v d p) : ∃ a, R W v.cells.toList a := by
  obtain ⟨fuel, hf⟩ := hT
  exact h H enc W fuel _ _ hf fun n hn => of_decide_eq_true (List.all_eq_true.1 hsz _ (DataW.weights_mem_each htj hdj n hn))
end Go.Proofs.Ytkolpdllogpklaa
