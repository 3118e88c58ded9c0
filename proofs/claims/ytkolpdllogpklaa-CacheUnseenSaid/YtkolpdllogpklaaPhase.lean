import Derived.WalkKit
import Derived.StillTail
import Derived.StillTactics
import Derived.Deep.Quiet
import Derived.BigQuiet
namespace Go.Proofs.Ytkolpdllogpklaa

/-! A region that draws its order, in phases: some operations that are quiet in a class of worlds, in whatever order; then some that come one by one; then again such and such. The class is chosen anew behind those that come one by one. -/
section
variable {P : Program} {ops : Array Oper} {md : Region.Mode}

/-- Every operation behind number n waits, through others, for number n. -/
def hubB (md : Region.Mode) (ops : Array Oper) (n : Nat) : Bool := (List.range ops.size).all fun t => decide (t ≤ n) || (List.range t).any fun j => decide (n ≤ j) && Region.waitsFor md ops t j
theorem later_waits {n : Nat} {seen : Array Bool} (hs : Region.sinkB md ops n = true) (hh : hubB md ops n = true) (inv : HeadInv md ops n seen) {i : Nat} (hi : i < n) (hun : seen.getD i true = false) : ∀ t, n ≤ t → t ∉ Region.ready md ops seen := by
  have first : ∀ (d i : Nat), n - i = d → i < n → seen.getD i true = false → n ∉ Region.ready md ops seen := by
    intro d
    induction d using Nat.strongRecOn with
    | _ d ih =>
      intro i hd hi hun hr
      obtain ⟨_, ot, hot, hall⟩ := mem_ready.1 hr
      obtain ⟨j, hj, hw⟩ := List.any_eq_true.1 (List.all_eq_true.1 hs i (List.mem_range.2 hi))
      rw [Bool.and_eq_true, decide_eq_true_eq] at hw
      obtain ⟨oj, hoj, e, he, hb, hon⟩ := Region.waitsFor_spec hw.2
      have hjn := List.mem_range.1 hj
      have hno : seen.getD e.on false = true → False := fun q => by rw [hon, getD_both hun] at q; cases q
      rcases Nat.lt_or_ge j n with h | h
      · cases hl : seen.getD j false with
        | true => exact hno (inv.closed j oj hoj hl e he hb)
        | false => exact ih (n - j) (by omega) j rfl h (getD_in (by rw [inv.size]; exact (Array.getElem?_eq_some_iff.1 hoj).1) hl) hr
      · obtain rfl : j = n := by omega
        obtain rfl : oj = ot := Option.some.inj (hoj.symm.trans hot)
        exact hno (hall e he hb)
  intro t ht hr
  rcases Nat.eq_or_lt_of_le ht with rfl | h
  · exact first _ i rfl hi hun hr
  · obtain ⟨_, ot, hot, hall⟩ := mem_ready.1 hr
    have htl := (Array.getElem?_eq_some_iff.1 hot).1
    have h1 := List.all_eq_true.1 hh t (List.mem_range.2 htl)
    rw [Bool.or_eq_true, decide_eq_true_eq] at h1
    rcases h1 with h1 | h1
    · omega
    · obtain ⟨j, hj, hw⟩ := List.any_eq_true.1 h1
      rw [Bool.and_eq_true, decide_eq_true_eq] at hw
      obtain ⟨o', ho', e, he, hb, hon⟩ := Region.waitsFor_spec hw.2
      obtain rfl : o' = ot := Option.some.inj (ho'.symm.trans hot)
      have h2 := hall e he hb
      have hjt := List.mem_range.1 hj
      rw [hon, getD_both (inv.tail j hw.1 (by omega))] at h2
      cases h2

/-- Whatever of the first n comes up next, f times; then L. -/
def Quiets (P : Program) (md : Region.Mode) (ops : Array Oper) (C : World → Prop) (n : Nat) (L : Array Bool → Act → Prop) : Nat → Array Bool → Act → Prop
  | 0, seen, a => L seen a
  | f + 1, seen, a => (∃ i, i ∈ Region.ready md ops seen) ∧ ∀ i ∈ Region.ready md ops seen, i < n ∧ qOp P ops C i (Quiets P md ops C n L f (seen.setIfInBounds i true)) a
theorem any_of_quiets {C : World → Prop} {n g : Nat} {L : Array Bool → Act → Prop} {Q : Exit → Act → World → Prop} (hL : ∀ seen a w, C w → L seen a → wpAny P md ops Q g seen a w) : ∀ (f : Nat) (seen : Array Bool) (a : Act) (w : World), C w → Quiets P md ops C n L f seen a → wpAny P md ops Q (f + g) seen a w
  | 0, seen, a, w, hC, h => by rw [Nat.zero_add]; exact hL _ _ _ hC h
  | f + 1, seen, a, w, hC, h => by
    rw [Nat.succ_add]
    obtain ⟨⟨j, hj⟩, hall⟩ := h
    exact ⟨fun h0 => (by rw [h0] at hj; cases hj), fun i hi => wpOp_of_qOp hC (fun a' w' hw' h' => any_of_quiets hL f _ _ _ hw' h') (hall i hi).2⟩
def WaitsN (md : Region.Mode) (ops : Array Oper) (n : Nat) : Prop := ∀ seen, HeadInv md ops n seen → ∀ i, i < n → seen.getD i true = false → ∀ t, n ≤ t → t ∉ Region.ready md ops seen
theorem quiets_first {C : World → Prop} {n i : Nat} {oi : Oper} {v : Value} {L : Array Bool → Act → Prop} (hi : ops[i]? = some oi) (hsel : ∀ (j : Nat) (o : Oper) cs b, ops[j]? = some o → o.op ≠ .select cs b)
    (hw : WaitsN md ops n) (hin : i < n) (hdone : ∀ seen a, L seen a → ∀ j ∈ Region.ready md ops seen, n ≤ j) :
    ∀ (f : Nat) (seen : Array Bool) (a : Act), HeadInv md ops n seen →
      (∀ j oj, ops[j]? = some oj → j ≠ i → seen.getD j true = false → (∀ e ∈ oj.after, Region.binds md e = true → e.on ≠ i) → oi.apart ops oj = true) →
      i ∈ Region.ready md ops seen → YieldsIn P ops C oi v a → Quiets P md ops C n L f (seen.setIfInBounds i true) (a.put oi.dst v) → Quiets P md ops C n L (f + 1) seen a := by
  intro f
  induction f with
  | zero =>
    intro seen a inv _ hr hy H
    refine ⟨⟨i, hr⟩, fun j hj => ?_⟩
    have hjn : j < n := Nat.lt_of_not_le fun q => hw _ inv i hin (mem_ready.1 hr).1 j q hj
    refine ⟨hjn, ?_⟩
    by_cases e : j = i
    · subst e; exact hy.qOp hi H
    · exact absurd (hdone _ _ H j (ready_mono hj e)) (by omega)
  | succ f ih =>
    intro seen a inv hfree hr hy H
    refine ⟨⟨i, hr⟩, fun j hj => ?_⟩
    have hun := (mem_ready.1 hr).1
    have hjn : j < n := Nat.lt_of_not_le fun q => hw _ inv i hin hun j q hj
    refine ⟨hjn, ?_⟩
    by_cases e : j = i
    · subst e; exact hy.qOp hi H
    · obtain ⟨hjun, oj, hoj, hall⟩ := mem_ready.1 hj
      have hap := hfree j oj hoj e hjun fun x hx hb hon => by
        have := hall x hx hb
        rw [hon, getD_both hun] at this
        cases this
      have step := qOp_put hoj hap (fun cs b => hsel i oi cs b hi) (fun cs b => hsel j oj cs b hoj) hy (H.2 j (ready_mono hj e)).2
      refine qOp_mono (fun a' h => ih (seen.setIfInBounds j true) a' (inv.set hj hjn) (fun k ok hk hki hkun hno => ?_) (ready_mono hr (Ne.symm e)) h.1 ?_) step
      · refine hfree k ok hk hki ?_ hno
        by_cases q : j = k
        · subst q; exact hjun
        · rwa [getD_set_ne true q] at hkun
      · rw [Array.setIfInBounds_comm _ _ e]; exact h.2

/-- The checks, by the region's text alone. -/
def quietTo (md : Region.Mode) (ops : Array Oper) (B : Array Bool → Bool) : Nat → Nat → Array Bool → Bool
  | 0, _, seen => B seen
  | f + 1, k, seen => (Region.ready md ops seen).contains k && Region.free md ops seen k && quietTo md ops B f (k + 1) (seen.setIfInBounds k true)
def forcedTo (md : Region.Mode) (ops : Array Oper) (B : Array Bool → Bool) : Nat → Nat → Array Bool → Bool
  | 0, _, seen => B seen
  | g + 1, k, seen => decide (Region.ready md ops seen = [k]) && forcedTo md ops B g (k + 1) (seen.setIfInBounds k true)
def phB (md : Region.Mode) (ops : Array Oper) : List (Nat × Nat) → Nat → Array Bool → Bool
  | [], k, seen => decide (k ≤ ops.size) && quietTo md ops (fun s => (Region.ready md ops s).isEmpty) (ops.size - k) k seen
  | (n, m) :: rest, k, seen => decide (k + n + m + 1 ≤ ops.size) && Region.sinkB md ops (k + n) && hubB md ops (k + n) &&
      quietTo md ops (fun s => forcedTo md ops (fun s' => phB md ops rest (k + n + (m + 1)) s') (m + 1) (k + n) s) n k seen
def phPost (K : Act → World → Prop) (Q : Exit → Act → World → Prop) : Exit → Act → World → Prop
  | .normal, a, w => K a w
  | e, a, w => Q e a w
/-- The walk. -/
def wpPh (P : Program) (ops : Array Oper) (Q : Exit → Act → World → Prop) : List (Nat × Nat) → List Oper → (World → Prop) → Act → Prop
  | [], l, C, a => wpQuiet P ops C (fun a' => ∀ w, C w → Q .normal a' w) l a
  | (n, m) :: rest, l, C, a => wpQuiet P ops C (fun a' => ∀ w, C w → wpList P ops (phPost (fun a'' w'' => ∃ C' : World → Prop, C' w'' ∧ wpPh P ops Q rest (l.drop (n + (m + 1))) C' a'') Q) ((l.drop n).take (m + 1)) a' w) (l.take n) a

theorem quiets_lex {C : World → Prop} {n : Nat} {B : Array Bool → Bool} {R : Act → Prop} (hsel : Region.noSelect ops = true) (hw : WaitsN md ops n) (hB0 : ∀ s, B s = true → ∀ j ∈ Region.ready md ops s, n ≤ j) :
    ∀ (l : List Oper) (k : Nat) (seen : Array Bool) (a : Act), (∀ j, j < l.length → l[j]? = ops[k + j]?) → k + l.length = n → HeadInv md ops n seen → quietTo md ops B l.length k seen = true →
      wpQuiet P ops C R l a → Quiets P md ops C n (fun seen' a' => B seen' = true ∧ HeadInv md ops n seen' ∧ R a') l.length seen a
  | [], k, seen, a, _, hk, inv, hB, h => ⟨hB, inv, h⟩
  | o :: l, k, seen, a, hl, hk, inv, hB, h => by
    have h0 : ops[k]? = some o := by have := hl 0 (by simp); simpa using this.symm
    simp only [List.length_cons, quietTo, Bool.and_eq_true] at hB
    have hkn : k < n := by simp only [List.length_cons] at hk; omega
    have hr : k ∈ Region.ready md ops seen := by have := hB.1.1; simpa using this
    obtain ⟨v, hy, hK⟩ := yieldsIn_of_qOp (K := wpQuiet P ops C R l) h0 (show qOp P ops C k (wpQuiet P ops C R l) a by unfold qOp; simp only [h0]; exact h)
    refine quiets_first h0 (Region.noSelect_spec hsel) hw hkn (fun seen' a' hL => hB0 _ hL.1) l.length seen a inv (Region.free_spec h0 hB.1.2) hr hy ?_
    refine quiets_lex hsel hw hB0 l (k + 1) _ _ (fun j hj => ?_) (by simp only [List.length_cons] at hk; omega) (inv.set hr hkn) hB.2 hK
    have := hl (j + 1) (by simp; omega)
    rw [List.getElem?_cons_succ] at this
    rw [this]
    congr 1
    omega
theorem headInv_more {n n' : Nat} {seen : Array Bool} (inv : HeadInv md ops n seen) (h : n ≤ n') : HeadInv md ops n' seen := ⟨inv.size, inv.closed, fun t ht hl => inv.tail t (by omega) hl⟩
theorem any_of_forced {Q Q' : Exit → Act → World → Prop} {g : Nat} {B : Array Bool → Bool} : ∀ (l : List Oper) (k : Nat) (seen : Array Bool) (a : Act) (w : World), (∀ j, j < l.length → l[j]? = ops[k + j]?) → HeadInv md ops k seen → forcedTo md ops B l.length k seen = true →
    (∀ seen' a' w', B seen' = true → HeadInv md ops (k + l.length) seen' → Q' .normal a' w' → wpAny P md ops Q g seen' a' w') → (∀ e a' w', e ≠ .normal → Q' e a' w' → Q e a' w') →
    wpList P ops Q' l a w → wpAny P md ops Q (l.length + g) seen a w
  | [], k, seen, a, w, _, inv, hB, hn, _, h => by
    rw [List.length_nil, Nat.zero_add]
    exact hn _ _ _ hB inv h
  | o :: l, k, seen, a, w, hl, inv, hB, hn, hx, h => by
    have h0 : ops[k]? = some o := by have := hl 0 (by simp); simpa using this.symm
    simp only [List.length_cons, forcedTo, Bool.and_eq_true, decide_eq_true_eq] at hB
    rw [List.length_cons, show l.length + 1 + g = (l.length + g) + 1 by omega]
    refine ⟨fun q => (by rw [hB.1] at q; cases q), fun i hi => ?_⟩
    have hr := hi
    rw [hB.1] at hi
    obtain rfl : i = k := by simpa using hi
    have hw0 : wpOp P ops Q' i (wpList P ops Q' l) a w := by unfold wpOp; simp only [h0]; exact h
    have hlo : LetsOut Q' → LetsOut Q := fun ⟨a1, w1, z⟩ => ⟨a1, w1, hx _ _ _ (by simp) z⟩
    have hw : wpOp P ops Q i (wpList P ops Q' l) a w := by
      unfold wpOp at hw0 ⊢
      simp only [h0] at hw0 ⊢
      split
      · rename_i hq
        simp only [hq, if_true] at hw0
        refine hw0.imp (fun q => ?_) (fun z => ⟨z.1, hlo z.2⟩)
        unfold Oper.wp at q ⊢
        generalize (execOp a.eval o).run P w = r at q ⊢
        cases r with
        | ok n w' =>
          cases n with
          | enter f args =>
            refine Calls.mono q fun e w'' => ?_
            cases e with
            | returned v => exact fun z => z
            | panicked c => exact fun z => hx _ _ _ (by simp) z
            | outgrown => exact hlo
          | _ => exact q
        | halt x w' =>
          cases x with
          | panic v => exact hx _ _ _ (by simp) q
          | _ => exact q
      · rename_i hq
        simp only [hq] at hw0
        exact hw0
    refine wpOp_mono (fun a' w' h' => any_of_forced l (i + 1) _ a' w' (fun j hj => ?_) ((headInv_more inv (Nat.le_succ i)).set hr (Nat.lt_succ_self i) |> fun q => ⟨q.size, q.closed, q.tail⟩) hB.2 (fun s' a'' w'' z1 z2 z3 => hn s' a'' w'' z1 (by rw [List.length_cons, show i + (l.length + 1) = i + 1 + l.length by omega]; exact z2) z3) hx h') hw
    have := hl (j + 1) (by simp; omega)
    rw [List.getElem?_cons_succ] at this
    rw [this]
    congr 1
    omega

theorem wpQuiet_mono {C : World → Prop} {R R' : Act → Prop} (h : ∀ a, R a → R' a) : ∀ (l : List Oper) (a : Act), wpQuiet P ops C R l a → wpQuiet P ops C R' l a
  | [], a, hh => h a hh
  | o :: l, a, hh => by
    unfold wpQuiet at hh ⊢
    split
    · rename_i hw; simp only [hw, if_true] at hh; exact Oper.quiet_mono (wpQuiet_mono h l) hh
    · rename_i hw; simp only [hw] at hh; exact wpQuiet_mono h l _ hh
theorem any_of_ph {Q : Exit → Act → World → Prop} (hsel : Region.noSelect ops = true) : ∀ (segs : List (Nat × Nat)) (l : List Oper) (k : Nat) (seen : Array Bool) (a : Act) (C : World → Prop), (∀ j, l[j]? = ops[k + j]?) → HeadInv md ops k seen → phB md ops segs k seen = true →
    wpPh P ops Q segs l C a → ∀ w, C w → wpAny P md ops Q l.length seen a w
  | [], l, k, seen, a, C, hl, inv, hB, h, w, hC => by
    simp only [phB, Bool.and_eq_true, decide_eq_true_eq] at hB
    have hlen : l.length = ops.size - k := by
      refine Nat.le_antisymm (Nat.le_of_not_lt fun q => ?_) (Nat.le_of_not_lt fun q => ?_)
      · have := hl (ops.size - k)
        rw [List.getElem?_eq_getElem q, Array.getElem?_eq_none (by omega)] at this
        cases this
      · have := hl l.length
        rw [List.getElem?_eq_none (Nat.le_refl _), Array.getElem?_eq_getElem (by omega)] at this
        cases this
    have H := quiets_lex (n := ops.size) (B := fun s => (Region.ready md ops s).isEmpty) (C := C) hsel (fun s _ i _ _ t ht hr => by
        obtain ⟨_, ot, hot, _⟩ := mem_ready.1 hr
        have := (Array.getElem?_eq_some_iff.1 hot).1
        omega) (fun s hs j hj => by rw [List.isEmpty_iff] at hs; rw [hs] at hj; cases hj) l k seen a (fun j _ => hl j) (by omega) (headInv_more inv (by omega)) (by rw [hlen]; exact hB.2) h
    have H2 := any_of_quiets (Q := Q) (g := 0) (fun s a' w' hw' hL => ⟨List.isEmpty_iff.1 hL.1, hL.2.2 w' hw'⟩) _ _ _ _ hC H
    exact H2
  | (n, m) :: rest, l, k, seen, a, C, hl, inv, hB, h, w, hC => by
    simp only [phB, Bool.and_eq_true, decide_eq_true_eq] at hB
    obtain ⟨⟨⟨hsz, hs⟩, hh⟩, hq⟩ := hB
    have hlen : l.length = ops.size - k := by
      refine Nat.le_antisymm (Nat.le_of_not_lt fun q => ?_) (Nat.le_of_not_lt fun q => ?_)
      · have := hl (ops.size - k)
        rw [List.getElem?_eq_getElem q, Array.getElem?_eq_none (by omega)] at this
        cases this
      · have := hl l.length
        rw [List.getElem?_eq_none (Nat.le_refl _), Array.getElem?_eq_getElem (by omega)] at this
        cases this
    have htl : (l.take n).length = n := by rw [List.length_take]; omega
    have hfl : ((l.drop n).take (m + 1)).length = m + 1 := by rw [List.length_take, List.length_drop]; omega
    have H := quiets_lex (n := k + n) (B := fun s => forcedTo md ops (fun s' => phB md ops rest (k + n + (m + 1)) s') (m + 1) (k + n) s) (C := C) hsel (fun s inv' i hi hun => later_waits hs hh inv' hi hun) (fun s hs j hj => by
        simp only [forcedTo, Bool.and_eq_true, decide_eq_true_eq] at hs
        rw [hs.1] at hj
        have : j = k + n := by simpa using hj
        omega) (l.take n) k seen a (fun j hj => by
          rw [htl] at hj
          rw [List.getElem?_take_of_lt hj]; exact hl j) (by omega) (headInv_more inv (by omega)) (by rw [htl]; exact hq) h
    have H2 := any_of_quiets (Q := Q) (g := (m + 1) + (l.length - n - (m + 1))) (fun s a' w' hw' hL => by
      have hf := any_of_forced (md := md) (Q := Q) (g := l.length - n - (m + 1)) ((l.drop n).take (m + 1)) (k + n) s a' w' (fun j hj => by
        rw [hfl] at hj
        rw [List.getElem?_take_of_lt hj, List.getElem?_drop, hl, Nat.add_assoc]) hL.2.1 (by rw [hfl]; exact hL.1) (fun s' a'' w'' z1 z2 z3 => by
          obtain ⟨C', hC', h'⟩ := z3
          rw [hfl] at z2
          have := any_of_ph (Q := Q) hsel rest (l.drop (n + (m + 1))) (k + n + (m + 1)) s' a'' C' (fun j => by rw [List.getElem?_drop, hl]; congr 1; omega) z2 z1 h' w'' hC'
          rw [List.length_drop] at this
          rwa [show l.length - n - (m + 1) = l.length - (n + (m + 1)) by omega]) (fun e a'' w'' he z => by
          cases e <;> first | exact absurd rfl he | exact z) (hL.2.2 w' hw')
      rwa [hfl] at hf) _ _ _ _ hC H
    rwa [htl, show n + (m + 1 + (l.length - n - (m + 1))) = l.length by omega] at H2
theorem ph_seg {Q : Exit → Act → World → Prop} {n m : Nat} {rest : List (Nat × Nat)} {l l1 l2 l3 : List Oper} {C : World → Prop} {a : Act} (h1 : l.take n = l1) (h2 : (l.drop n).take (m + 1) = l2) (h3 : l.drop (n + (m + 1)) = l3)
    (h : wpQuiet P ops C (fun a' => ∀ w, C w → ∀ K : Act → World → Prop, (∀ (a'' : Act) (w'' : World) (C' : World → Prop), C' w'' → wpPh P ops Q rest l3 C' a'' → K a'' w'') → wpList P ops (phPost K Q) l2 a' w) l1 a) : wpPh P ops Q ((n, m) :: rest) l C a := by
  subst h1 h2 h3
  refine wpQuiet_mono (fun a' hh w hw => ?_) _ _ h
  exact hh w hw _ fun a'' w'' C' hC hp => ⟨C', hC, hp⟩
theorem wp_region_ph {id : Nat} {Q : Exit → Act → World → Prop} {a : Act} {w : World} {l : List Oper} (C : World → Prop) (segs : List (Nat × Nat)) (hm : P.follows .mixedOrders = true) (hB : (Region.noSelect l.toArray && phB .any l.toArray segs 0 (Array.replicate l.toArray.size false)) = true) (hC : C w.drew)
    (h : wpPh P l.toArray Q segs l C a) : (Code.region id l.toArray true).wp P Q a w := by
  rw [Bool.and_eq_true] at hB
  have inv : HeadInv .any l.toArray 0 (Array.replicate l.toArray.size false) := ⟨by simp, fun j oj _ hl => (by rw [getD_replicate_false] at hl; cases hl), fun t _ ht => getD_in (by simpa using ht) (getD_replicate_false _ _)⟩
  refine wp_region_any hm ?_
  have := any_of_ph (md := .any) (Q := Q) hB.1 segs l 0 _ a C (fun j => by simp) inv hB.2 h _ hC
  simpa using this
end
end Go.Proofs.Ytkolpdllogpklaa
