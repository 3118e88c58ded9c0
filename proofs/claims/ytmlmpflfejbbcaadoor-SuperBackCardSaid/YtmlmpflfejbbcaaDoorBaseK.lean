import Derived.WalkKit
import Derived.StillTail
import Derived.StillTactics
import Derived.Deep.Quiet
import Derived.BigQuiet
import Derived.RangeFuncCalls
import Derived.RangeFuncBound
import Derived.RangeFuncNested
import Derived.Below
namespace Go.Proofs.YtmlmpflfejbbcaaDoor

/-! A region that draws its order whose first n operations are quiet in a class of worlds (their values are the same in all of them, and they stay in the class: calls that only make memory, too), and whose others follow one by one behind all of these. -/
section
variable {P : Program} {ops : Array Oper} {md : Region.Mode} {C : World → Prop}
/-- Whatever of the first n comes up next, f times; then L. -/
def Heads (P : Program) (md : Region.Mode) (ops : Array Oper) (C : World → Prop) (n : Nat) (L : Array Bool → Act → Prop) : Nat → Array Bool → Act → Prop
  | 0, seen, a => L seen a
  | f + 1, seen, a => (∃ i, i ∈ Region.ready md ops seen) ∧ ∀ i ∈ Region.ready md ops seen, i < n ∧ qOp P ops C i (Heads P md ops C n L f (seen.setIfInBounds i true)) a
theorem any_of_heads {n g : Nat} {L : Array Bool → Act → Prop} {Q : Exit → Act → World → Prop} (hL : ∀ seen a w, C w → L seen a → wpAny P md ops Q g seen a w) : ∀ (f : Nat) (seen : Array Bool) (a : Act) (w : World), C w → Heads P md ops C n L f seen a → wpAny P md ops Q (f + g) seen a w := by
  intro f
  induction f with
  | zero => intro seen a w hC h; rw [Nat.zero_add]; exact hL _ _ _ hC h
  | succ f ih =>
    intro seen a w hC h
    rw [Nat.succ_add]
    obtain ⟨⟨j, hj⟩, hall⟩ := h
    refine ⟨fun h0 => (by rw [h0] at hj; cases hj), fun i hi => ?_⟩
    exact wpOp_of_qOp hC (fun a' w' hw' h' => ih _ a' w' hw' h') (hall i hi).2
/-- One that may come now may be taken first. -/
theorem heads_first {n i : Nat} {oi : Oper} {v : Value} {L : Array Bool → Act → Prop} (hi : ops[i]? = some oi) (hsel : ∀ (j : Nat) (o : Oper) cs b, ops[j]? = some o → o.op ≠ .select cs b)
    (hs : Region.sinkB md ops n = true) (hc : Region.chainB md ops n = true) (hn : n < ops.size) (hin : i < n) (hdone : ∀ seen a, L seen a → ∀ j ∈ Region.ready md ops seen, n ≤ j) :
    ∀ (f : Nat) (seen : Array Bool) (a : Act), HeadInv md ops n seen →
      (∀ j oj, ops[j]? = some oj → j ≠ i → seen.getD j true = false → (∀ e ∈ oj.after, Region.binds md e = true → e.on ≠ i) → oi.apart ops oj = true) →
      i ∈ Region.ready md ops seen → YieldsIn P ops C oi v a → Heads P md ops C n L f (seen.setIfInBounds i true) (a.put oi.dst v) → Heads P md ops C n L (f + 1) seen a := by
  intro f
  induction f with
  | zero =>
    intro seen a inv _ hr hy H
    refine ⟨⟨i, hr⟩, fun j hj => ?_⟩
    have hjn : j < n := Nat.lt_of_not_le fun q => tail_waits hs hc hn inv _ i rfl hin (mem_ready.1 hr).1 j q hj
    refine ⟨hjn, ?_⟩
    by_cases e : j = i
    · subst e; exact hy.qOp hi H
    · exact absurd (hdone _ _ H j (ready_mono hj e)) (by omega)
  | succ f ih =>
    intro seen a inv hfree hr hy H
    refine ⟨⟨i, hr⟩, fun j hj => ?_⟩
    have hun := (mem_ready.1 hr).1
    have hjn : j < n := Nat.lt_of_not_le fun q => tail_waits hs hc hn inv _ i rfl hin hun j q hj
    refine ⟨hjn, ?_⟩
    by_cases e : j = i
    · subst e; exact hy.qOp hi H
    · obtain ⟨hjun, oj, hoj, hall⟩ := mem_ready.1 hj
      have hap := hfree j oj hoj e hjun fun x hx hb hon => by
        have := hall x hx hb
        rw [hon, getD_both hun] at this
        cases this
      have step := qOp_put hoj hap (fun cs b => hsel i oi cs b hi) (fun cs b => hsel j oj cs b hoj) hy (H.2 j (ready_mono hj e)).2
      refine qOp_mono (fun a' h => ih (seen.setIfInBounds j true) a' (inv.set hj hjn) (fun k ok hk hki hkun hno => ?_) (ready_mono hr (Ne.symm e)) h.1 ?_) step
      · refine hfree k ok hk hki ?_ hno
        by_cases q : j = k
        · subst q; exact hjun
        · rwa [getD_set_ne true q] at hkun
      · rw [Array.setIfInBounds_comm _ _ e]; exact h.2
theorem heads_lex {n g : Nat} {R : Act → Prop} (hsel : Region.noSelect ops = true) (hs : Region.sinkB md ops n = true) (hc : Region.chainB md ops n = true) (hn : n < ops.size) :
    ∀ (l : List Oper) (k : Nat) (seen : Array Bool) (a : Act), (∀ j, j < l.length → l[j]? = ops[k + j]?) → k + l.length = n → HeadInv md ops n seen → Region.lexHead md ops g l.length k seen = true →
      wpQuiet P ops C R l a → Heads P md ops C n (fun seen' a' => Region.seqB md ops g n seen' = true ∧ R a') l.length seen a := by
  intro l
  induction l with
  | nil =>
    intro k seen a _ hk _ hB h
    obtain rfl : k = n := by simpa using hk
    exact ⟨by simpa [Region.lexHead] using hB, h⟩
  | cons o l ih =>
    intro k seen a hl hk inv hB h
    have h0 : ops[k]? = some o := by have := hl 0 (by simp); simpa using this.symm
    simp only [List.length_cons, Region.lexHead, Bool.and_eq_true] at hB
    have hkn : k < n := by simp only [List.length_cons] at hk; omega
    have hr : k ∈ Region.ready md ops seen := by have := hB.1.1; simpa using this
    obtain ⟨v, hy, hK⟩ := yieldsIn_of_qOp (K := wpQuiet P ops C R l) h0 (show qOp P ops C k (wpQuiet P ops C R l) a by unfold qOp; simp only [h0]; exact h)
    refine heads_first h0 (Region.noSelect_spec hsel) hs hc hn hkn (fun seen' a' hL => seqB_ready hL.1) l.length seen a inv (Region.free_spec h0 hB.1.2) hr hy ?_
    refine ih (k + 1) _ _ (fun j hj => ?_) (by simp only [List.length_cons] at hk; omega) (inv.set hr hkn) hB.2 hK
    have := hl (j + 1) (by simp; omega)
    rw [List.getElem?_cons_succ] at this
    rw [this]
    congr 1
    omega
theorem wp_region_class_tail {id : Nat} {Q : Exit → Act → World → Prop} {a : Act} {w : World} {l : List Oper} (C : World → Prop) (n : Nat) (hm : P.follows .mixedOrders = true) (hB : Region.lexTailB .any l.toArray n = true) (hC : C w.drew)
    (h : wpQuiet P l.toArray C (fun a' => ∀ w', C w' → wpList P l.toArray Q (l.drop n) a' w') (l.take n) a) : (Code.region id l.toArray true).wp P Q a w := by
  simp only [Region.lexTailB, Bool.and_eq_true, decide_eq_true_eq] at hB
  obtain ⟨⟨⟨⟨hsel, hn⟩, hs⟩, hc⟩, hlex⟩ := hB
  have hnl : n < l.length := by simpa using hn
  have htl : (l.take n).length = n := by rw [List.length_take]; omega
  have hdl : (l.drop n).length = l.toArray.size - n := by rw [List.length_drop]; simp
  have inv : HeadInv .any l.toArray n (Array.replicate l.toArray.size false) := ⟨by simp, fun j oj _ hl => (by rw [getD_replicate_false] at hl; cases hl), fun t _ ht => getD_in (by simpa using ht) (getD_replicate_false _ _)⟩
  have H := heads_lex (md := .any) (g := l.toArray.size - n) (C := C) (P := P) hsel hs hc hn (l.take n) 0 _ a (fun j hj => by
    rw [htl] at hj
    simp [hj]) (by simpa using htl) inv (by rw [htl]; exact hlex) h
  refine wp_region_any hm ?_
  have H2 := any_of_heads (Q := Q) (g := l.toArray.size - n) (fun seen a' w' hw' hL => by
    have := wpAny_of_seq (md := .any) (Q' := Q) (l.drop n) n seen a' w' (fun j => by simp [List.getElem?_drop]) (by rw [hdl]; exact hL.1) (hL.2 w' hw')
    rwa [hdl] at this) _ _ _ _ hC H
  rw [htl, show n + (l.toArray.size - n) = l.toArray.size by omega] at H2
  exact H2
end
end Go.Proofs.YtmlmpflfejbbcaaDoor
namespace Go.Proofs.YtmlmpflfejbbcaaDoor

/-! A region that draws its order, in phases: some operations that are quiet in a class of worlds, in whatever order; then some that come one by one; then again such and such. The class is chosen anew behind those that come one by one. -/
section
variable {P : Program} {ops : Array Oper} {md : Region.Mode}

/-- Every operation behind number n waits, through others, for number n. -/
def hubB (md : Region.Mode) (ops : Array Oper) (n : Nat) : Bool := (List.range ops.size).all fun t => decide (t ≤ n) || (List.range t).any fun j => decide (n ≤ j) && Region.waitsFor md ops t j
theorem later_waits {n : Nat} {seen : Array Bool} (hs : Region.sinkB md ops n = true) (hh : hubB md ops n = true) (inv : HeadInv md ops n seen) {i : Nat} (hi : i < n) (hun : seen.getD i true = false) : ∀ t, n ≤ t → t ∉ Region.ready md ops seen := by
  have first : ∀ (d i : Nat), n - i = d → i < n → seen.getD i true = false → n ∉ Region.ready md ops seen := by
    intro d
    induction d using Nat.strongRecOn with
    | _ d ih =>
      intro i hd hi hun hr
      obtain ⟨_, ot, hot, hall⟩ := mem_ready.1 hr
      obtain ⟨j, hj, hw⟩ := List.any_eq_true.1 (List.all_eq_true.1 hs i (List.mem_range.2 hi))
      rw [Bool.and_eq_true, decide_eq_true_eq] at hw
      obtain ⟨oj, hoj, e, he, hb, hon⟩ := Region.waitsFor_spec hw.2
      have hjn := List.mem_range.1 hj
      have hno : seen.getD e.on false = true → False := fun q => by rw [hon, getD_both hun] at q; cases q
      rcases Nat.lt_or_ge j n with h | h
      · cases hl : seen.getD j false with
        | true => exact hno (inv.closed j oj hoj hl e he hb)
        | false => exact ih (n - j) (by omega) j rfl h (getD_in (by rw [inv.size]; exact (Array.getElem?_eq_some_iff.1 hoj).1) hl) hr
      · obtain rfl : j = n := by omega
        obtain rfl : oj = ot := Option.some.inj (hoj.symm.trans hot)
        exact hno (hall e he hb)
  intro t ht hr
  rcases Nat.eq_or_lt_of_le ht with rfl | h
  · exact first _ i rfl hi hun hr
  · obtain ⟨_, ot, hot, hall⟩ := mem_ready.1 hr
    have htl := (Array.getElem?_eq_some_iff.1 hot).1
    have h1 := List.all_eq_true.1 hh t (List.mem_range.2 htl)
    rw [Bool.or_eq_true, decide_eq_true_eq] at h1
    rcases h1 with h1 | h1
    · omega
    · obtain ⟨j, hj, hw⟩ := List.any_eq_true.1 h1
      rw [Bool.and_eq_true, decide_eq_true_eq] at hw
      obtain ⟨o', ho', e, he, hb, hon⟩ := Region.waitsFor_spec hw.2
      obtain rfl : o' = ot := Option.some.inj (ho'.symm.trans hot)
      have h2 := hall e he hb
      have hjt := List.mem_range.1 hj
      rw [hon, getD_both (inv.tail j hw.1 (by omega))] at h2
      cases h2

/-- Whatever of the first n comes up next, f times; then L. -/
def Quiets (P : Program) (md : Region.Mode) (ops : Array Oper) (C : World → Prop) (n : Nat) (L : Array Bool → Act → Prop) : Nat → Array Bool → Act → Prop
  | 0, seen, a => L seen a
  | f + 1, seen, a => (∃ i, i ∈ Region.ready md ops seen) ∧ ∀ i ∈ Region.ready md ops seen, i < n ∧ qOp P ops C i (Quiets P md ops C n L f (seen.setIfInBounds i true)) a
theorem any_of_quiets {C : World → Prop} {n g : Nat} {L : Array Bool → Act → Prop} {Q : Exit → Act → World → Prop} (hL : ∀ seen a w, C w → L seen a → wpAny P md ops Q g seen a w) : ∀ (f : Nat) (seen : Array Bool) (a : Act) (w : World), C w → Quiets P md ops C n L f seen a → wpAny P md ops Q (f + g) seen a w
  | 0, seen, a, w, hC, h => by rw [Nat.zero_add]; exact hL _ _ _ hC h
  | f + 1, seen, a, w, hC, h => by
    rw [Nat.succ_add]
    obtain ⟨⟨j, hj⟩, hall⟩ := h
    exact ⟨fun h0 => (by rw [h0] at hj; cases hj), fun i hi => wpOp_of_qOp hC (fun a' w' hw' h' => any_of_quiets hL f _ _ _ hw' h') (hall i hi).2⟩
def Waits (md : Region.Mode) (ops : Array Oper) (n : Nat) : Prop := ∀ seen, HeadInv md ops n seen → ∀ i, i < n → seen.getD i true = false → ∀ t, n ≤ t → t ∉ Region.ready md ops seen
theorem quiets_first {C : World → Prop} {n i : Nat} {oi : Oper} {v : Value} {L : Array Bool → Act → Prop} (hi : ops[i]? = some oi) (hsel : ∀ (j : Nat) (o : Oper) cs b, ops[j]? = some o → o.op ≠ .select cs b)
    (hw : Waits md ops n) (hin : i < n) (hdone : ∀ seen a, L seen a → ∀ j ∈ Region.ready md ops seen, n ≤ j) :
    ∀ (f : Nat) (seen : Array Bool) (a : Act), HeadInv md ops n seen →
      (∀ j oj, ops[j]? = some oj → j ≠ i → seen.getD j true = false → (∀ e ∈ oj.after, Region.binds md e = true → e.on ≠ i) → oi.apart ops oj = true) →
      i ∈ Region.ready md ops seen → YieldsIn P ops C oi v a → Quiets P md ops C n L f (seen.setIfInBounds i true) (a.put oi.dst v) → Quiets P md ops C n L (f + 1) seen a := by
  intro f
  induction f with
  | zero =>
    intro seen a inv _ hr hy H
    refine ⟨⟨i, hr⟩, fun j hj => ?_⟩
    have hjn : j < n := Nat.lt_of_not_le fun q => hw _ inv i hin (mem_ready.1 hr).1 j q hj
    refine ⟨hjn, ?_⟩
    by_cases e : j = i
    · subst e; exact hy.qOp hi H
    · exact absurd (hdone _ _ H j (ready_mono hj e)) (by omega)
  | succ f ih =>
    intro seen a inv hfree hr hy H
    refine ⟨⟨i, hr⟩, fun j hj => ?_⟩
    have hun := (mem_ready.1 hr).1
    have hjn : j < n := Nat.lt_of_not_le fun q => hw _ inv i hin hun j q hj
    refine ⟨hjn, ?_⟩
    by_cases e : j = i
    · subst e; exact hy.qOp hi H
    · obtain ⟨hjun, oj, hoj, hall⟩ := mem_ready.1 hj
      have hap := hfree j oj hoj e hjun fun x hx hb hon => by
        have := hall x hx hb
        rw [hon, getD_both hun] at this
        cases this
      have step := qOp_put hoj hap (fun cs b => hsel i oi cs b hi) (fun cs b => hsel j oj cs b hoj) hy (H.2 j (ready_mono hj e)).2
      refine qOp_mono (fun a' h => ih (seen.setIfInBounds j true) a' (inv.set hj hjn) (fun k ok hk hki hkun hno => ?_) (ready_mono hr (Ne.symm e)) h.1 ?_) step
      · refine hfree k ok hk hki ?_ hno
        by_cases q : j = k
        · subst q; exact hjun
        · rwa [getD_set_ne true q] at hkun
      · rw [Array.setIfInBounds_comm _ _ e]; exact h.2

/-- The checks, by the region's text alone. -/
def quietTo (md : Region.Mode) (ops : Array Oper) (B : Array Bool → Bool) : Nat → Nat → Array Bool → Bool
  | 0, _, seen => B seen
  | f + 1, k, seen => (Region.ready md ops seen).contains k && Region.free md ops seen k && quietTo md ops B f (k + 1) (seen.setIfInBounds k true)
def forcedTo (md : Region.Mode) (ops : Array Oper) (B : Array Bool → Bool) : Nat → Nat → Array Bool → Bool
  | 0, _, seen => B seen
  | g + 1, k, seen => decide (Region.ready md ops seen = [k]) && forcedTo md ops B g (k + 1) (seen.setIfInBounds k true)
def phB (md : Region.Mode) (ops : Array Oper) : List (Nat × Nat) → Nat → Array Bool → Bool
  | [], k, seen => decide (k ≤ ops.size) && quietTo md ops (fun s => (Region.ready md ops s).isEmpty) (ops.size - k) k seen
  | (n, m) :: rest, k, seen => decide (k + n + m + 1 ≤ ops.size) && Region.sinkB md ops (k + n) && hubB md ops (k + n) &&
      quietTo md ops (fun s => forcedTo md ops (fun s' => phB md ops rest (k + n + (m + 1)) s') (m + 1) (k + n) s) n k seen
def phPost (K : Act → World → Prop) (Q : Exit → Act → World → Prop) : Exit → Act → World → Prop
  | .normal, a, w => K a w
  | e, a, w => Q e a w
/-- The walk. -/
def wpPh (P : Program) (ops : Array Oper) (Q : Exit → Act → World → Prop) : List (Nat × Nat) → List Oper → (World → Prop) → Act → Prop
  | [], l, C, a => wpQuiet P ops C (fun a' => ∀ w, C w → Q .normal a' w) l a
  | (n, m) :: rest, l, C, a => wpQuiet P ops C (fun a' => ∀ w, C w → wpList P ops (phPost (fun a'' w'' => ∃ C' : World → Prop, C' w'' ∧ wpPh P ops Q rest (l.drop (n + (m + 1))) C' a'') Q) ((l.drop n).take (m + 1)) a' w) (l.take n) a

theorem quiets_lex {C : World → Prop} {n : Nat} {B : Array Bool → Bool} {R : Act → Prop} (hsel : Region.noSelect ops = true) (hw : Waits md ops n) (hB0 : ∀ s, B s = true → ∀ j ∈ Region.ready md ops s, n ≤ j) :
    ∀ (l : List Oper) (k : Nat) (seen : Array Bool) (a : Act), (∀ j, j < l.length → l[j]? = ops[k + j]?) → k + l.length = n → HeadInv md ops n seen → quietTo md ops B l.length k seen = true →
      wpQuiet P ops C R l a → Quiets P md ops C n (fun seen' a' => B seen' = true ∧ HeadInv md ops n seen' ∧ R a') l.length seen a
  | [], k, seen, a, _, hk, inv, hB, h => ⟨hB, inv, h⟩
  | o :: l, k, seen, a, hl, hk, inv, hB, h => by
    have h0 : ops[k]? = some o := by have := hl 0 (by simp); simpa using this.symm
    simp only [List.length_cons, quietTo, Bool.and_eq_true] at hB
    have hkn : k < n := by simp only [List.length_cons] at hk; omega
    have hr : k ∈ Region.ready md ops seen := by have := hB.1.1; simpa using this
    obtain ⟨v, hy, hK⟩ := yieldsIn_of_qOp (K := wpQuiet P ops C R l) h0 (show qOp P ops C k (wpQuiet P ops C R l) a by unfold qOp; simp only [h0]; exact h)
    refine quiets_first h0 (Region.noSelect_spec hsel) hw hkn (fun seen' a' hL => hB0 _ hL.1) l.length seen a inv (Region.free_spec h0 hB.1.2) hr hy ?_
    refine quiets_lex hsel hw hB0 l (k + 1) _ _ (fun j hj => ?_) (by simp only [List.length_cons] at hk; omega) (inv.set hr hkn) hB.2 hK
    have := hl (j + 1) (by simp; omega)
    rw [List.getElem?_cons_succ] at this
    rw [this]
    congr 1
    omega
theorem headInv_more {n n' : Nat} {seen : Array Bool} (inv : HeadInv md ops n seen) (h : n ≤ n') : HeadInv md ops n' seen := ⟨inv.size, inv.closed, fun t ht hl => inv.tail t (by omega) hl⟩
theorem any_of_forced {Q Q' : Exit → Act → World → Prop} {g : Nat} {B : Array Bool → Bool} : ∀ (l : List Oper) (k : Nat) (seen : Array Bool) (a : Act) (w : World), (∀ j, j < l.length → l[j]? = ops[k + j]?) → HeadInv md ops k seen → forcedTo md ops B l.length k seen = true →
    (∀ seen' a' w', B seen' = true → HeadInv md ops (k + l.length) seen' → Q' .normal a' w' → wpAny P md ops Q g seen' a' w') → (∀ e a' w', e ≠ .normal → Q' e a' w' → Q e a' w') →
    wpList P ops Q' l a w → wpAny P md ops Q (l.length + g) seen a w
  | [], k, seen, a, w, _, inv, hB, hn, _, h => by
    rw [List.length_nil, Nat.zero_add]
    exact hn _ _ _ hB inv h
  | o :: l, k, seen, a, w, hl, inv, hB, hn, hx, h => by
    have h0 : ops[k]? = some o := by have := hl 0 (by simp); simpa using this.symm
    simp only [List.length_cons, forcedTo, Bool.and_eq_true, decide_eq_true_eq] at hB
    rw [List.length_cons, show l.length + 1 + g = (l.length + g) + 1 by omega]
    refine ⟨fun q => (by rw [hB.1] at q; cases q), fun i hi => ?_⟩
    have hr := hi
    rw [hB.1] at hi
    obtain rfl : i = k := by simpa using hi
    have hw0 : wpOp P ops Q' i (wpList P ops Q' l) a w := by unfold wpOp; simp only [h0]; exact h
    have hlo : LetsOut Q' → LetsOut Q := fun ⟨a1, w1, z⟩ => ⟨a1, w1, hx _ _ _ (by simp) z⟩
    have hw : wpOp P ops Q i (wpList P ops Q' l) a w := by
      unfold wpOp at hw0 ⊢
      simp only [h0] at hw0 ⊢
      split
      · rename_i hq
        simp only [hq, if_true] at hw0
        refine hw0.imp (fun q => ?_) (fun z => ⟨z.1, hlo z.2⟩)
        unfold Oper.wp at q ⊢
        generalize (execOp a.eval o).run P w = r at q ⊢
        cases r with
        | ok n w' =>
          cases n with
          | enter f args =>
            refine Calls.mono q fun e w'' => ?_
            cases e with
            | returned v => exact fun z => z
            | panicked c => exact fun z => hx _ _ _ (by simp) z
            | outgrown => exact hlo
          | _ => exact q
        | halt x w' =>
          cases x with
          | panic v => exact hx _ _ _ (by simp) q
          | _ => exact q
      · rename_i hq
        simp only [hq] at hw0
        exact hw0
    refine wpOp_mono (fun a' w' h' => any_of_forced l (i + 1) _ a' w' (fun j hj => ?_) ((headInv_more inv (Nat.le_succ i)).set hr (Nat.lt_succ_self i) |> fun q => ⟨q.size, q.closed, q.tail⟩) hB.2 (fun s' a'' w'' z1 z2 z3 => hn s' a'' w'' z1 (by rw [List.length_cons, show i + (l.length + 1) = i + 1 + l.length by omega]; exact z2) z3) hx h') hw
    have := hl (j + 1) (by simp; omega)
    rw [List.getElem?_cons_succ] at this
    rw [this]
    congr 1
    omega

theorem wpQuiet_mono {C : World → Prop} {R R' : Act → Prop} (h : ∀ a, R a → R' a) : ∀ (l : List Oper) (a : Act), wpQuiet P ops C R l a → wpQuiet P ops C R' l a
  | [], a, hh => h a hh
  | o :: l, a, hh => by
    unfold wpQuiet at hh ⊢
    split
    · rename_i hw; simp only [hw, if_true] at hh; exact Oper.quiet_mono (wpQuiet_mono h l) hh
    · rename_i hw; simp only [hw] at hh; exact wpQuiet_mono h l _ hh
theorem any_of_ph {Q : Exit → Act → World → Prop} (hsel : Region.noSelect ops = true) : ∀ (segs : List (Nat × Nat)) (l : List Oper) (k : Nat) (seen : Array Bool) (a : Act) (C : World → Prop), (∀ j, l[j]? = ops[k + j]?) → HeadInv md ops k seen → phB md ops segs k seen = true →
    wpPh P ops Q segs l C a → ∀ w, C w → wpAny P md ops Q l.length seen a w
  | [], l, k, seen, a, C, hl, inv, hB, h, w, hC => by
    simp only [phB, Bool.and_eq_true, decide_eq_true_eq] at hB
    have hlen : l.length = ops.size - k := by
      refine Nat.le_antisymm (Nat.le_of_not_lt fun q => ?_) (Nat.le_of_not_lt fun q => ?_)
      · have := hl (ops.size - k)
        rw [List.getElem?_eq_getElem q, Array.getElem?_eq_none (by omega)] at this
        cases this
      · have := hl l.length
        rw [List.getElem?_eq_none (Nat.le_refl _), Array.getElem?_eq_getElem (by omega)] at this
        cases this
    have H := quiets_lex (n := ops.size) (B := fun s => (Region.ready md ops s).isEmpty) (C := C) hsel (fun s _ i _ _ t ht hr => by
        obtain ⟨_, ot, hot, _⟩ := mem_ready.1 hr
        have := (Array.getElem?_eq_some_iff.1 hot).1
        omega) (fun s hs j hj => by rw [List.isEmpty_iff] at hs; rw [hs] at hj; cases hj) l k seen a (fun j _ => hl j) (by omega) (headInv_more inv (by omega)) (by rw [hlen]; exact hB.2) h
    have H2 := any_of_quiets (Q := Q) (g := 0) (fun s a' w' hw' hL => ⟨List.isEmpty_iff.1 hL.1, hL.2.2 w' hw'⟩) _ _ _ _ hC H
    exact H2
  | (n, m) :: rest, l, k, seen, a, C, hl, inv, hB, h, w, hC => by
    simp only [phB, Bool.and_eq_true, decide_eq_true_eq] at hB
    obtain ⟨⟨⟨hsz, hs⟩, hh⟩, hq⟩ := hB
    have hlen : l.length = ops.size - k := by
      refine Nat.le_antisymm (Nat.le_of_not_lt fun q => ?_) (Nat.le_of_not_lt fun q => ?_)
      · have := hl (ops.size - k)
        rw [List.getElem?_eq_getElem q, Array.getElem?_eq_none (by omega)] at this
        cases this
      · have := hl l.length
        rw [List.getElem?_eq_none (Nat.le_refl _), Array.getElem?_eq_getElem (by omega)] at this
        cases this
    have htl : (l.take n).length = n := by rw [List.length_take]; omega
    have hfl : ((l.drop n).take (m + 1)).length = m + 1 := by rw [List.length_take, List.length_drop]; omega
    have H := quiets_lex (n := k + n) (B := fun s => forcedTo md ops (fun s' => phB md ops rest (k + n + (m + 1)) s') (m + 1) (k + n) s) (C := C) hsel (fun s inv' i hi hun => later_waits hs hh inv' hi hun) (fun s hs j hj => by
        simp only [forcedTo, Bool.and_eq_true, decide_eq_true_eq] at hs
        rw [hs.1] at hj
        have : j = k + n := by simpa using hj
        omega) (l.take n) k seen a (fun j hj => by
          rw [htl] at hj
          rw [List.getElem?_take_of_lt hj]; exact hl j) (by omega) (headInv_more inv (by omega)) (by rw [htl]; exact hq) h
    have H2 := any_of_quiets (Q := Q) (g := (m + 1) + (l.length - n - (m + 1))) (fun s a' w' hw' hL => by
      have hf := any_of_forced (md := md) (Q := Q) (g := l.length - n - (m + 1)) ((l.drop n).take (m + 1)) (k + n) s a' w' (fun j hj => by
        rw [hfl] at hj
        rw [List.getElem?_take_of_lt hj, List.getElem?_drop, hl, Nat.add_assoc]) hL.2.1 (by rw [hfl]; exact hL.1) (fun s' a'' w'' z1 z2 z3 => by
          obtain ⟨C', hC', h'⟩ := z3
          rw [hfl] at z2
          have := any_of_ph (Q := Q) hsel rest (l.drop (n + (m + 1))) (k + n + (m + 1)) s' a'' C' (fun j => by rw [List.getElem?_drop, hl]; congr 1; omega) z2 z1 h' w'' hC'
          rw [List.length_drop] at this
          rwa [show l.length - n - (m + 1) = l.length - (n + (m + 1)) by omega]) (fun e a'' w'' he z => by
          cases e <;> first | exact absurd rfl he | exact z) (hL.2.2 w' hw')
      rwa [hfl] at hf) _ _ _ _ hC H
    rwa [htl, show n + (m + 1 + (l.length - n - (m + 1))) = l.length by omega] at H2
theorem ph_seg {Q : Exit → Act → World → Prop} {n m : Nat} {rest : List (Nat × Nat)} {l l1 l2 l3 : List Oper} {C : World → Prop} {a : Act} (h1 : l.take n = l1) (h2 : (l.drop n).take (m + 1) = l2) (h3 : l.drop (n + (m + 1)) = l3)
    (h : wpQuiet P ops C (fun a' => ∀ w, C w → ∀ K : Act → World → Prop, (∀ (a'' : Act) (w'' : World) (C' : World → Prop), C' w'' → wpPh P ops Q rest l3 C' a'' → K a'' w'') → wpList P ops (phPost K Q) l2 a' w) l1 a) : wpPh P ops Q ((n, m) :: rest) l C a := by
  subst h1 h2 h3
  refine wpQuiet_mono (fun a' hh w hw => ?_) _ _ h
  exact hh w hw _ fun a'' w'' C' hC hp => ⟨C', hC, hp⟩
theorem wp_region_ph {id : Nat} {Q : Exit → Act → World → Prop} {a : Act} {w : World} {l : List Oper} (C : World → Prop) (segs : List (Nat × Nat)) (hm : P.follows .mixedOrders = true) (hB : (Region.noSelect l.toArray && phB .any l.toArray segs 0 (Array.replicate l.toArray.size false)) = true) (hC : C w.drew)
    (h : wpPh P l.toArray Q segs l C a) : (Code.region id l.toArray true).wp P Q a w := by
  rw [Bool.and_eq_true] at hB
  have inv : HeadInv .any l.toArray 0 (Array.replicate l.toArray.size false) := ⟨by simp, fun j oj _ hl => (by rw [getD_replicate_false] at hl; cases hl), fun t _ ht => getD_in (by simpa using ht) (getD_replicate_false _ _)⟩
  refine wp_region_any hm ?_
  have := any_of_ph (md := .any) (Q := Q) hB.1 segs l 0 _ a C (fun j => by simp) inv hB.2 h _ hC
  simpa using this
end
end Go.Proofs.YtmlmpflfejbbcaaDoor
namespace Go.Proofs.YtmlmpflfejbbcaaDoor
open Go.RowKit

/-! A function that is ranged over and has cells of its own, which it writes between two rounds: what it promises, and the walk of a range over it. The rounds' state may speak of what lay ahead of the statement alone. -/
/-- What a round must leave as it was: block b0, and what was made from block number s on. -/
structure Kept (b0 s : Nat) (A B : World) : Prop where
  size : A.heap.size ≤ B.heap.size
  same : ∀ (k : Nat) (o : Obj), k = b0 ∨ s ≤ k → A.heap[k]? = some o → B.heap[k]? = some o
theorem Kept.refl (b0 s : Nat) (A : World) : Kept b0 s A A := ⟨Nat.le_refl _, fun _ _ _ h => h⟩
theorem Kept.trans {b0 s : Nat} {A B C : World} (h : Kept b0 s A B) (k : Kept b0 s B C) : Kept b0 s A C := ⟨Nat.le_trans h.size k.size, fun i o hi ho => k.same i o hi (h.same i o hi ho)⟩
theorem Kept.mono {b0 s s' : Nat} {A B : World} (h : Kept b0 s A B) (hs : s ≤ s') : Kept b0 s' A B := ⟨h.size, fun i o hi ho => h.same i o (hi.imp id (Nat.le_trans hs)) ho⟩
theorem Kept.of_below {b0 s : Nat} {A B : World} (h : Below A.heap.size A B) : Kept b0 s A B := ⟨h.size, fun k _ _ ho => (h.block k (Array.getElem?_eq_some_iff.1 ho).1).trans ho⟩
/-- A store into a block below s that is not b0. -/
theorem Kept.setCell {b0 s : Nat} (W : World) {p : Addr} (h1 : p.block ≠ b0) (h2 : p.block < s) (v : Value) : Kept b0 s W (W.setCell p v) :=
  ⟨by simp [World.setCell], fun k o hk ho => by
    rw [Below.heap_setCell W p v k (by rcases hk with rfl | hk <;> omega)]; exact ho⟩
def Stays (s : Nat) (J : Nat → World → Prop) : Prop := ∀ k A B, J k A → Below s A B → J k B
/-- The promise: N rounds, one behind the other, with these values, as far as they go. -/
def IterSays (F : Fence) (n : Nat) (P : Program) (g : Nat) (lb : Array Value) (N : Nat) (vals : Nat → Array Value) (b0 : Nat) (w : World) : Prop :=
  ∀ (l : Nat) (J Jx : Nat → World → Prop) (W : World), Below w.heap.size w W → Stays W.heap.size J → Stays W.heap.size Jx →
    (∀ k W1, k < N → J k W1 → YieldAt F (n - 1) P l (vals k) W1 fun e W' => (e = .returned (.bool true) ∧ J (k + 1) W' ∧ Kept b0 W.heap.size W1 W') ∨ (e = .returned (.bool false) ∧ Jx k W')) →
    J 0 W → CallsIn F n P g (#[.func (.yield l) #[] #[]] ++ lb) W fun e W' => (∃ v, e = .returned v) ∧ (J N W' ∨ ∃ k, k < N ∧ Jx k W')
def iterPost (b0 s : Nat) (I Ix : Nat → World → Prop) (k : Nat) (W : World) : Exit → Act → World → Prop
  | .normal, _, W' => Kept b0 s W W' ∧ I (k + 1) W'
  | .ret, _, W' => Kept b0 s W W' ∧ Ix k W'
  | _, _, _ => False

variable {F : Fence} {n : Nat} {P : Program}
theorem below_putObj {s : Nat} (W : World) {r : Nat} (h : s ≤ r) (o : Obj) : Below s W (W.putObj r o) :=
  ⟨rfl, rfl, rfl, by simp, fun k hk => World.putObj_heap_other (by omega)⟩
theorem wpIn_range_iter {g : Operand} {ps : Array Tmp} {assign body : Code} {Q : Exit → Act → World → Prop} {a : Act} {w : World}
    (hro : F.round = none) (h1 : 1 ≤ n) {gf : Nat} {lb : Array Value} (hg : a.eval g = .func (.func gf) #[] lb) (hFg : F.fn gf) (eg : ∀ args w, (callFunc gf args).run P w = .ok (.enter gf args) w)
    {N : Nat} {vals : Nat → Array Value} {b0 : Nat} {w0 : World} (hseq : IterSays F (n - 1) P gf lb N vals b0 w0) (hb0 : b0 < w.heap.size) (hw0 : Below w0.heap.size w0 w) (hps : ∀ k, (vals k).size = ps.size)
    (I Ix : Nat → World → Prop) (hI : Stays w.heap.size I) (hIx : Stays w.heap.size Ix) (h0 : I 0 w) (M : Nat → Act → World → Prop) (hM : ∀ k a' W o, M k a' W → M k a' (W.putObj (w.heap.size + 1) o))
    (hassign : ∀ (l k : Nat) (W : World) (K : Act → World → Prop), k < N → w.heap.size + 2 ≤ W.heap.size → I k W → (∀ a₁ W₁, M k a₁ W₁ → Below W.heap.size W W₁ → K a₁ W₁) →
      assign.wpIn (F.inRound l) (n - 1 - 1) P (Exit.then K (fun _ _ _ => False)) { tmps := (ps.zip (vals k)).foldl (fun t (p, v) => t.setIfInBounds p v) a.tmps, defers := [] } W)
    (hbody : ∀ (l k : Nat) (a₁ : Act) (W : World), k < N → M k a₁ W → body.wpIn (F.inRound l) (n - 1 - 1) P (iterPost b0 w.heap.size I Ix k W) a₁ W)
    (hdone : ∀ (D : Nat) (W : World), w.heap.size ≤ D → I N W → W.heap[D]? = some (.deferred (some [])) → Q .normal { a with defers := { target := .collected D, args := #[] } :: a.defers } W)
    (hstop : ∀ (D k : Nat) (W : World), w.heap.size ≤ D → k < N → Ix k W → W.heap[D]? = some (.deferred (some [])) → Code.ret.wpIn F n P Q { a with defers := { target := .collected D, args := #[] } :: a.defers } W) :
    (Code.rangeFunc g ps assign body).wpIn F n P Q a w := by
  refine wpIn_rangeFunc fun fn hfn => ?_
  rw [hro]
  obtain ⟨rec, hrec⟩ : ∃ rec : LoopState → Option Code → Loop, rec = fun st pe => { state := st, pending := pe, fn, tmps := a.tmps, params := ps, assign, body, defers := w.heap.size } := ⟨_, rfl⟩
  have hs2 : ((w.alloc (.deferred (some []))).alloc (.loop (rec .ready none))).heap.size = w.heap.size + 2 := by simp
  have hD : ((w.alloc (.deferred (some []))).alloc (.loop (rec .ready none))).heap[w.heap.size]? = some (.deferred (some [])) := (Below.heap_alloc _ _ _ (by simp)).trans (World.alloc_heap_new w _)
  have hL : ((w.alloc (.deferred (some []))).alloc (.loop (rec .ready none))).heap[w.heap.size + 1]? = some (.loop (rec .ready none)) := by
    have := World.alloc_heap_new (w.alloc (.deferred (some []))) (.loop (rec .ready none))
    rwa [World.size_alloc] at this
  have hB : Below w.heap.size w ((w.alloc (.deferred (some []))).alloc (.loop (rec .ready none))) := ((Below.refl _ w).alloc (Nat.le_refl _) _).alloc (by simp) _
  have hrun := run_enterLoop_outer (P := P) (w := w) fn a.tmps ps assign body
  rw [show (Obj.loop { state := .ready, pending := none, fn, tmps := a.tmps, params := ps, assign, body, defers := w.heap.size }) = .loop (rec .ready none) by rw [hrec]] at hrun
  generalize (w.alloc (.deferred (some []))).alloc (.loop (rec .ready none)) = W1 at hs2 hD hL hB hrun
  refine ⟨w.heap.size + 1, [{ target := .collected w.heap.size, args := #[] }], W1, { target := .fn (.func gf) lb, args := #[.func (.yield (w.heap.size + 1)) #[] #[]] }, W1, gf,
    #[.func (.yield (w.heap.size + 1)) #[] #[]] ++ lb, W1, hrun, ?_, ?_, ?_, fun _ => h1, ?_⟩
  · simp only [resolve, hg]
    simp [go_sem]
  · intro f' hf'; simp [Target.leads] at hf'; subst hf'; exact hFg
  · simp [invoke, go_sem, eg]
  have up : ∀ {A B : World}, Below W1.heap.size A B → Below w.heap.size A B := fun h => h.mono (by omega)
  have at' : ∀ {A B : World} {r : Nat} {o : Obj}, Below W1.heap.size A B → r < w.heap.size + 2 → A.heap[r]? = some o → B.heap[r]? = some o := fun h hr ho => (h.block _ (by omega)).trans ho
  refine (hseq (w.heap.size + 1)
    (fun k W => I k W ∧ w.heap.size + 2 ≤ W.heap.size ∧ W.heap[w.heap.size + 1]? = some (.loop (rec .ready none)) ∧ W.heap[w.heap.size]? = some (.deferred (some [])))
    (fun k W => Ix k W ∧ W.heap[w.heap.size + 1]? = some (.loop (rec .done (some .ret))) ∧ W.heap[w.heap.size]? = some (.deferred (some [])))
    W1 (hw0.trans (hB.mono hw0.size))
    (fun k A B h hb => ⟨hI k A B h.1 (up hb), Nat.le_trans h.2.1 hb.size, at' hb (by omega) h.2.2.1, at' hb (by omega) h.2.2.2⟩)
    (fun k A B h hb => ⟨hIx k A B h.1 (up hb), at' hb (by omega) h.2.1, at' hb (by omega) h.2.2⟩) ?_ ⟨hI 0 _ _ h0 hB, by omega, hL, hD⟩).mono ?_
  · rintro k W hk ⟨hi, hsz, hl, hd⟩
    have hy := run_yield (P := P) (args := vals k) hl (by rw [hrec]; exact hps k)
    rw [hrec] at hy
    refine ⟨fn, _, assign, body, hy, roundIn_of_wpIn hfn (hassign _ k W _ hk hsz hi fun a₁ Wa hMa hba => ?_)⟩
    have hla : Wa.heap[w.heap.size + 1]? = some (.loop (rec .ready none)) := (hba.block _ (by omega)).trans hl
    have hda : Wa.heap[w.heap.size]? = some (.deferred (some [])) := (hba.block _ (by omega)).trans hd
    refine ⟨_, run_beginRound hla (by rw [hrec]), ?_⟩
    have hlt : w.heap.size + 1 < Wa.heap.size := (Array.getElem?_eq_some_iff.1 hla).1
    have hl2 : (Wa.putObj (w.heap.size + 1) (.loop { rec .ready none with state := .busy })).heap[w.heap.size + 1]? = some (.loop { rec .ready none with state := .busy }) := World.putObj_heap_same hlt
    have hd2 : (Wa.putObj (w.heap.size + 1) (.loop { rec .ready none with state := .busy })).heap[w.heap.size]? = some (.deferred (some [])) := (World.putObj_heap_other (by omega)).trans hda
    have hk2 : Kept b0 (w.heap.size + 2) W (Wa.putObj (w.heap.size + 1) (.loop { rec .ready none with state := .busy })) := (Kept.of_below hba).trans ⟨by simp, fun i o hi' ho => (World.putObj_heap_other (by rcases hi' with rfl | hi' <;> omega)).trans ho⟩
    refine wpIn_mono (hbody _ k _ _ hk (hM _ _ _ _ hMa)) ?_
    generalize Wa.putObj (w.heap.size + 1) (.loop { rec .ready none with state := .busy }) = W2 at hl2 hd2 hk2
    have fin : ∀ (j : Option Code) (W3 : World), Kept b0 w.heap.size W2 W3 →
        (Instr.endRound (w.heap.size + 1) j).run P W3 = .ok (.bool j.isNone) (W3.putObj (w.heap.size + 1) (.loop (rec (if j.isNone then .ready else .done) j))) ∧
        (W3.putObj (w.heap.size + 1) (.loop (rec (if j.isNone then .ready else .done) j))).heap[w.heap.size + 1]? = some (.loop (rec (if j.isNone then .ready else .done) j)) ∧
        (W3.putObj (w.heap.size + 1) (.loop (rec (if j.isNone then .ready else .done) j))).heap[w.heap.size]? = some (.deferred (some [])) ∧
        Kept b0 (w.heap.size + 2) W (W3.putObj (w.heap.size + 1) (.loop (rec (if j.isNone then .ready else .done) j))) := fun j W3 h3 => by
      have hl3 := h3.same _ _ (.inr (by omega)) hl2
      have hd3 := h3.same _ _ (.inr (Nat.le_refl _)) hd2
      have hr := run_endRound (P := P) j hl3
      rw [hrec] at hr ⊢
      exact ⟨hr, World.putObj_heap_same (Array.getElem?_eq_some_iff.1 hl3).1, (World.putObj_heap_other (by omega)).trans hd3,
        (hk2.trans (h3.mono (by omega))).trans ⟨by simp, fun i o hi' ho => (World.putObj_heap_other (by rcases hi' with rfl | hi' <;> omega)).trans ho⟩⟩
    have hs3 : w.heap.size + 2 ≤ W2.heap.size := Nat.le_trans hsz hk2.size
    rintro e a3 W3 hp
    cases e with
    | normal =>
      obtain ⟨q1, q2⟩ := hp
      obtain ⟨r1, r2, r3, r4⟩ := fin none W3 q1
      rw [← hs2] at r4
      exact ⟨_, _, r1, .inl ⟨rfl, ⟨hI _ _ _ q2 (below_putObj W3 (by omega) _), by have := q1.size; simp; omega, r2, r3⟩, r4⟩⟩
    | ret =>
      obtain ⟨q1, q2⟩ := hp
      obtain ⟨r1, r2, r3, _⟩ := fin (some .ret) W3 q1
      exact ⟨_, _, r1, .inr ⟨rfl, hIx _ _ _ q2 (below_putObj W3 (by omega) _), r2, r3⟩⟩
    | exit id => exact hp.elim
    | goto t => exact hp.elim
    | panic ch => exact hp.elim
    | outgrown => exact hp.elim
  · rintro e W2 ⟨⟨v, rfl⟩, (⟨hi, _, hl, hd⟩ | ⟨k, hk, hi, hl, hd⟩)⟩
    · refine ⟨none, _, by have := run_endLoop (P := P) hl (by rw [hrec]; simp); rw [hrec] at this; exact this, hdone _ _ (Nat.le_refl _) (hI _ _ _ hi (below_putObj W2 (by omega) _)) ((World.putObj_heap_other (by omega)).trans hd)⟩
    · refine ⟨some .ret, _, by have := run_endLoop (P := P) hl (by rw [hrec]; simp); rw [hrec] at this; exact this, hstop _ k _ (Nat.le_refl _) hk (hIx _ _ _ hi (below_putObj W2 (by omega) _)) ((World.putObj_heap_other (by omega)).trans hd)⟩
/-- In the wide fence depths do not matter. -/
theorem yieldAt_wide {m m' : Nat} {l : Nat} {args : Array Value} {W : World} {R : Ending → World → Prop} (h : YieldAt Fence.wide m P l args W R) : YieldAt Fence.wide m' P l args W R := by
  obtain ⟨fn, tmps, assign, body, h1, h2, h3⟩ := h
  exact ⟨fn, tmps, assign, body, h1, h2, fun c cs _ => h3 c cs (room_wide _)⟩
end Go.Proofs.YtmlmpflfejbbcaaDoor
