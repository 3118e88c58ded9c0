import Derived.WalkKit
import Derived.StillTail
import Derived.StillTactics
import Derived.Deep.Quiet
import Derived.BigQuiet
import Derived.Below
namespace Go.Proofs.Ytnneppkkmhjpbaa
open Go.RowKit

/-! A region that draws its order: its first n operations in whatever order, one step for each (their values may hang on the world: memory that is made), then the others one by one. -/
section
variable {P : Program} {ops : Array Oper} {Q : Exit → Act → World → Prop}
def backwardB (ops : Array Oper) : Bool := (List.range ops.size).all fun i => match ops[i]? with
  | some o => o.after.all fun e => !Region.binds .any e || decide (e.on < i)
  | none => true
theorem backward_of (h : backwardB ops = true) {i : Nat} {o : Oper} (ho : ops[i]? = some o) {e : Edge} (he : e ∈ o.after) (hb : Region.binds .any e = true) : e.on < i := by
  have h1 := List.all_eq_true.1 h i (List.mem_range.2 (Array.getElem?_eq_some_iff.1 ho).1)
  rw [ho] at h1
  have h2 := (Array.all_eq_true_iff_forall_mem.1 h1) e he
  rw [hb] at h2
  simpa using h2
theorem some_ready (hb : backwardB ops = true) {seen : Array Bool} : ∀ i, i < ops.size → seen.getD i true = false → ∃ j, j ∈ Region.ready .any ops seen := by
  intro i
  induction i using Nat.strongRecOn with
  | _ i ih =>
    intro hi hun
    by_cases h : ∀ e ∈ ops[i].after, Region.binds .any e = true → seen.getD e.on false = true
    · exact ⟨i, mem_ready.2 ⟨hun, _, Array.getElem?_eq_getElem hi, h⟩⟩
    · obtain ⟨e, h1⟩ := Classical.not_forall.1 h
      obtain ⟨he, h2⟩ := Classical.not_imp.1 h1
      obtain ⟨hbd, h3⟩ := Classical.not_imp.1 h2
      have hlt := backward_of hb (Array.getElem?_eq_getElem hi) he hbd
      have h4 : seen.getD e.on false = false := by simpa using h3
      by_cases hs : e.on < seen.size
      · exact ih e.on hlt (by omega) (getD_in hs h4)
      · have : seen.getD i true = true := by simp [Array.getElem?_eq_none (show seen.size ≤ i by omega)]
        rw [this] at hun; cases hun
def firstOps (n m : Nat) : Array Bool := ((List.range m).map fun i => decide (i < n)).toArray
theorem all_first {n : Nat} {seen : Array Bool} (inv : HeadInv .any ops n seen) (h : ∀ i, i < n → seen.getD i true = true) : seen = firstOps n ops.size := by
  apply Array.ext_getElem?
  intro i
  unfold firstOps
  by_cases hi : i < ops.size
  · have hs : i < seen.size := by rw [inv.size]; exact hi
    by_cases q : i < n
    · have := h i q
      simp [hs] at this
      simp [hi, hs, this, q]
    · have := inv.tail i (by omega) hi
      simp [hs] at this
      simp [hi, hs, this, q]
  · rw [Array.getElem?_eq_none (by rw [inv.size]; omega), Array.getElem?_eq_none (by simp; omega)]
/-- How many of the first n have not come up. -/
def left (n : Nat) (seen : Array Bool) : Nat := (List.range n).countP fun i => !seen.getD i true
theorem left_zero {n : Nat} {seen : Array Bool} (h : left n seen = 0) : ∀ i, i < n → seen.getD i true = true := by
  intro i hi
  have := List.countP_eq_zero.1 h i (List.mem_range.2 hi)
  simpa using this
theorem left_pos {n f : Nat} {seen : Array Bool} (h : left n seen = f + 1) : ∃ i, i < n ∧ seen.getD i true = false := by
  have : 0 < left n seen := by omega
  obtain ⟨i, hi, h2⟩ := List.countP_pos_iff.1 this
  exact ⟨i, List.mem_range.1 hi, by simpa using h2⟩
theorem countP_one {p q : Nat → Bool} (i : Nat) (hp : p i = true) (hq : q i = false) (h : ∀ j, j ≠ i → p j = q j) : ∀ (l : List Nat), l.Nodup → i ∈ l → l.countP p = l.countP q + 1
  | [], _, hi => by simp at hi
  | a :: l, hn, hi => by
    rw [List.nodup_cons] at hn
    by_cases e : a = i
    · subst e
      rw [List.countP_cons_of_pos hp, List.countP_cons_of_neg (by simp [hq])]
      congr 1
      exact List.countP_congr fun j hj => by rw [h j (fun e => hn.1 (e ▸ hj))]
    · have hi' : i ∈ l := by
        rcases List.mem_cons.1 hi with q | q
        · exact absurd q.symm e
        · exact q
      have := countP_one i hp hq h l hn.2 hi'
      rw [List.countP_cons, List.countP_cons, this, h a e]
      omega
theorem left_set {n f i : Nat} {seen : Array Bool} (h : left n seen = f + 1) (hi : i < n) (hun : seen.getD i true = false) : left n (seen.setIfInBounds i true) = f := by
  have hs : i < seen.size := by
    rcases Nat.lt_or_ge i seen.size with q | q
    · exact q
    · simp [Array.getElem?_eq_none q] at hun
  have := countP_one (p := fun j => !seen.getD j true) (q := fun j => !(seen.setIfInBounds i true).getD j true) i (by simp only [hun]; rfl) (by simp [hs]) (fun j hj => by rw [getD_set_ne true (Ne.symm hj)]) (List.range n) List.nodup_range (List.mem_range.2 hi)
  unfold left at h ⊢
  omega
theorem any_vals {n g : Nat} (hs : Region.sinkB .any ops n = true) (hc : Region.chainB .any ops n = true) (hbk : backwardB ops = true) (hn : n < ops.size) (hq : Region.seqB .any ops g n (firstOps n ops.size) = true)
    (I : Array Bool → Act → World → Prop)
    (hstep : ∀ seen a w i, i < n → seen.getD i true = false → i ∈ Region.ready .any ops seen → HeadInv .any ops n seen → I seen a w → wpOp P ops Q i (I (seen.setIfInBounds i true)) a w)
    (l : List Oper) (hl : ∀ j, l[j]? = ops[n + j]?) (hg : l.length = g)
    (hend : ∀ a w, I (firstOps n ops.size) a w → wpList P ops Q l a w) :
    ∀ (f : Nat) (seen : Array Bool) (a : Act) (w : World), left n seen = f → HeadInv .any ops n seen → I seen a w → wpAny P .any ops Q (f + g) seen a w
  | 0, seen, a, w, hf, inv, hI => by
    have e := all_first inv (left_zero hf)
    subst e
    rw [Nat.zero_add]
    subst hg
    exact wpAny_of_seq l n _ a w hl hq (hend a w hI)
  | f + 1, seen, a, w, hf, inv, hI => by
    obtain ⟨i0, h0, hun0⟩ := left_pos hf
    rw [Nat.succ_add]
    refine ⟨fun hr => ?_, fun i hi => ?_⟩
    · obtain ⟨j, hj⟩ := some_ready hbk i0 (by omega) hun0
      rw [hr] at hj; cases hj
    · have hin : i < n := Nat.lt_of_not_le fun q => tail_waits hs hc hn inv _ i0 rfl h0 hun0 i q hi
      have hun := (mem_ready.1 hi).1
      exact wpOp_mono (fun a' w' h' => any_vals hs hc hbk hn hq I hstep l hl hg hend f _ a' w' (left_set hf hin hun) (inv.set hi hin) h') (hstep seen a w i hin hun hi inv hI)
/-- What stays of a frame while such operations are carried out: all slots but theirs. -/
structure Keeps (ds : List Tmp) (A0 a : Act) : Prop where
  size : a.tmps.size = A0.tmps.size
  defers : a.defers = A0.defers
  slot : ∀ t, t ∉ ds → a.tmps[t]? = A0.tmps[t]?
theorem Keeps.refl (ds : List Tmp) (A0 : Act) : Keeps ds A0 A0 := ⟨rfl, rfl, fun _ _ => rfl⟩
theorem Keeps.put {ds : List Tmp} {A0 a : Act} (h : Keeps ds A0 a) {t : Tmp} (ht : t ∈ ds) (v : Value) : Keeps ds A0 (a.put (some t) v) :=
  ⟨by simp [Act.put, h.size], h.defers, fun u hu => by
    have : t ≠ u := fun e => hu (e ▸ ht)
    simp [Act.put, Array.getElem?_setIfInBounds_ne this, h.slot u hu]⟩
theorem Keeps.eval {ds : List Tmp} {A0 a : Act} (h : Keeps ds A0 a) {t : Tmp} (ht : t ∉ ds) : a.eval (.tmp t) = A0.eval (.tmp t) := by
  unfold Act.eval
  simp only [Array.getD_eq_getD_getElem?, h.slot t ht]
theorem eval_same {a : Act} {t : Tmp} {v : Value} (h : t < a.tmps.size) : (a.put (some t) v).eval (.tmp t) = v := by
  simp [Act.eval, Act.put, h]
theorem eval_other {a : Act} {t u : Tmp} {v : Value} (h : t ≠ u) : (a.put (some t) v).eval (.tmp u) = a.eval (.tmp u) := by
  simp [Act.eval, Act.put, Array.getElem?_setIfInBounds_ne h]
/-- The whole frame, slot by slot. -/
theorem Keeps.lit {ds : List Tmp} {A0 a : Act} (h : Keeps ds A0 a) (N : Nat) (hN : A0.tmps.size = N) : a = ⟨((List.range N).map fun t => if ds.contains t then a.eval (.tmp t) else A0.eval (.tmp t)).toArray, A0.defers⟩ := by
  obtain ⟨tm, df⟩ := a
  have hd := h.defers
  simp only at hd
  subst hd
  congr 1
  apply Array.ext_getElem?
  intro i
  have hz := h.size
  simp only at hz
  by_cases hi : i < N
  · have hi2 : i < tm.size := by omega
    have hi3 : i < A0.tmps.size := by omega
    have hs := h.slot i
    simp only at hs
    by_cases q : i ∈ ds
    · simp [hi, q, Act.eval, hi2]
    · have := hs q
      simp [hi2, hi3] at this
      simp [hi, q, Act.eval, hi2, hi3, this]
  · rw [Array.getElem?_eq_none (by omega), Array.getElem?_eq_none (by simp; omega)]
theorem Keeps.lit2 {ds : List Tmp} {A0 a : Act} (h : Keeps ds A0 a) (N : Nat) (hN : A0.tmps.size = N) : ∃ x : Nat → Value, (∀ t, a.eval (.tmp t) = x t) ∧ a = ⟨((List.range N).map fun t => if ds.contains t then x t else A0.eval (.tmp t)).toArray, A0.defers⟩ :=
  ⟨fun t => a.eval (.tmp t), fun _ => rfl, h.lit N hN⟩
theorem belowT {w0 w w' : World} (h : Below w0.heap.size w0 w) (k : Below w.heap.size w w') : Below w0.heap.size w0 w' := h.trans (k.mono h.size)
theorem wp_region_vals {id n : Nat} {A0 : Act} {w : World} {l : List Oper} (d : Nat → Tmp) (V : Nat → Value → World → Prop) (hm : P.follows .mixedOrders = true)
    (hB : (Region.sinkB .any l.toArray n && Region.chainB .any l.toArray n && backwardB l.toArray && decide (n < l.length) && Region.seqB .any l.toArray (l.length - n) n (firstOps n l.toArray.size) && (l.all fun o => o.guard.isNone)) = true)
    (hd : (List.range n).all (fun i => (List.range n).all fun j => i == j || d i != d j) = true) (hz : (List.range n).all (fun i => decide (d i < A0.tmps.size)) = true) (hdst : (List.range n).all (fun i => ((l[i]?).map (fun o => o.dst == some (d i))).getD false) = true)
    (hV : ∀ i v w w', V i v w → Below w.heap.size w w' → V i v w')
    (hstep : ∀ i o a w', i < n → l[i]? = some o → Keeps ((List.range n).map d) A0 a → Below w.heap.size w.drew w' → (∀ e ∈ o.after, Region.binds .any e = true → V e.on (a.eval (.tmp (d e.on))) w') → o.wp P a w' (fun a' w'' => ∃ v, a' = a.put o.dst v ∧ V i v w'' ∧ Below w'.heap.size w' w'') Q)
    (hend : ∀ a w', Keeps ((List.range n).map d) A0 a → Below w.heap.size w.drew w' → (∀ i, i < n → V i (a.eval (.tmp (d i))) w') → wpList P l.toArray Q (l.drop n) a w') : (Code.region id l.toArray true).wp P Q A0 w := by
  simp only [Bool.and_eq_true, decide_eq_true_eq] at hB
  obtain ⟨⟨⟨⟨⟨hs, hc⟩, hbk⟩, hn⟩, hq⟩, hgd⟩ := hB
  have hn' : n < l.toArray.size := by simpa using hn
  refine wp_region_any hm ?_
  have inv : HeadInv .any l.toArray n (Array.replicate l.toArray.size false) := ⟨by simp, fun j oj _ hl => (by rw [getD_replicate_false] at hl; cases hl), fun t _ ht => getD_in (by simpa using ht) (getD_replicate_false _ _)⟩
  have hleft : left n (Array.replicate l.toArray.size false) = n := by
    unfold left
    rw [List.countP_eq_length.2]
    · simp
    · intro i hi
      rw [getD_in (by simpa using (Nat.lt_trans (List.mem_range.1 hi) hn)) (getD_replicate_false _ _)]
      rfl
  have hdd : ∀ i j, i < n → j < n → i ≠ j → d i ≠ d j := fun i j hi hj hne => by
    have := List.all_eq_true.1 (List.all_eq_true.1 hd i (List.mem_range.2 hi)) j (List.mem_range.2 hj)
    simp [hne] at this
    exact this
  have H := any_vals (P := P) (Q := Q) (g := l.length - n) hs hc hbk hn' hq
    (fun seen a w' => Keeps ((List.range n).map d) A0 a ∧ Below w.heap.size w.drew w' ∧ ∀ i, i < n → seen.getD i false = true → V i (a.eval (.tmp (d i))) w')
    (fun seen a w' i hi hun hr inv' ⟨hk, hb, hv⟩ => by
      obtain ⟨_, o, ho, hall⟩ := mem_ready.1 hr
      have ho' : l[i]? = some o := by simpa using ho
      have hg : o.guard = none := by
        have := List.all_eq_true.1 hgd o (List.mem_of_getElem? ho')
        simpa using this
      have hdo : o.dst = some (d i) := by
        have := List.all_eq_true.1 hdst i (List.mem_range.2 hi)
        rw [ho'] at this
        simpa using this
      have hw := hstep i o a w' hi ho' hk hb (fun e he hbd => hv e.on (by have := backward_of hbk ho he hbd; omega) (hall e he hbd))
      unfold wpOp
      simp only [ho]
      have hwant : Region.wanted o (yielded l.toArray a.tmps) = true := by simp [Region.wanted, hg]
      simp only [hwant, if_true]
      refine .inl (Oper.wp_mono ?_ hw)
      rintro a' w'' ⟨v, rfl, hvi, hb2⟩
      rw [hdo]
      have hmem : d i ∈ (List.range n).map d := List.mem_map.2 ⟨i, List.mem_range.2 hi, rfl⟩
      refine ⟨hk.put hmem v, hb.trans (hb2.mono hb.size), fun j hj hlj => ?_⟩
      by_cases e : i = j
      · subst e
        rw [eval_same (by
          have := List.all_eq_true.1 hz i (List.mem_range.2 hi)
          rw [hk.size]
          simpa using this)]
        exact hvi
      · rw [eval_other (hdd i j hi hj e)]
        rw [getD_set_ne false e] at hlj
        exact hV j _ _ _ (hv j hj hlj) hb2)
    (l.drop n) (fun j => by simp [List.getElem?_drop]) (by simp)
    (fun a w' ⟨hk, hb, hv⟩ => hend a w' hk hb fun i hi => hv i hi (by
      unfold firstOps
      have : i < l.length := by omega
      simp [this, hi]))
    n _ A0 w.drew hleft inv ⟨Keeps.refl _ _, Below.refl _ _, fun i _ h => by rw [getD_replicate_false] at h; cases h⟩
  rwa [show n + (l.length - n) = l.toArray.size by simp; omega] at H
end
theorem wp_value {P : Program} {o : Oper} {a : Act} {w w' : World} {v : Value} {K : Act → World → Prop} {Q : Exit → Act → World → Prop} (hrun : (execOp a.eval o).run P w = .ok (.value v) w') (hk : K (a.put o.dst v) w') : o.wp P a w K Q := by
  unfold Oper.wp
  rw [hrun]
  exact hk
theorem wp_enter {P : Program} {o : Oper} {a : Act} {w w' : World} {f : FuncId} {args : Array Value} {K : Act → World → Prop} {Q : Exit → Act → World → Prop} (hrun : (execOp a.eval o).run P w = .ok (.enter f args) w') (hk : Calls P f args w' fun e w'' => ∃ v, e = .returned v ∧ K (a.put o.dst v) w'') : o.wp P a w K Q := by
  unfold Oper.wp
  rw [hrun]
  exact hk.mono fun e w'' ⟨v, he, h⟩ => by subst he; exact h
end Go.Proofs.Ytnneppkkmhjpbaa
