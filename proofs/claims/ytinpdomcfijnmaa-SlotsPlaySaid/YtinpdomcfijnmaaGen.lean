import Derived.Test.YtinpdomcfijnmaaVals
namespace Go.Proofs.Ytinpdomcfijnmaa
open Go.RowKit

/-! A region that draws its order: an invariant I of which operations have been carried out, of their values and of the world. -/
section
variable {P : Program} {ops : Array Oper} {Q : Exit → Act → World → Prop}
theorem wp_region_gen {id n : Nat} {A0 : Act} {w : World} {l : List Oper} (d : Nat → Tmp) (I : Array Bool → (Nat → Value) → World → Prop) (hm : P.follows .mixedOrders = true)
    (hB : (Region.sinkB .any l.toArray n && Region.chainB .any l.toArray n && backwardB l.toArray && decide (n < l.length) && Region.seqB .any l.toArray (l.length - n) n (firstOps n l.toArray.size) && (l.all fun o => o.guard.isNone)) = true)
    (hd : (List.range n).all (fun i => (List.range n).all fun j => i == j || d i != d j) = true) (hz : (List.range n).all (fun i => decide (d i < A0.tmps.size)) = true) (hdst : (List.range n).all (fun i => ((l[i]?).map (fun o => o.dst == some (d i))).getD false) = true)
    (hS : ∀ x, I (Array.replicate l.length false) x w.drew)
    (hstep : ∀ i o a w' seen x, i < n → l[i]? = some o → seen.size = l.length → Keeps ((List.range n).map d) A0 a → (∀ j, j < n → a.eval (.tmp (d j)) = x j) → I seen x w' → seen.getD i true = false → (∀ e ∈ o.after, Region.binds .any e = true → seen.getD e.on false = true) → o.wp P a w' (fun a' w'' => ∃ v, a' = a.put o.dst v ∧ I (seen.setIfInBounds i true) (fun j => if j = i then v else x j) w'') Q)
    (hend : ∀ a w' x, Keeps ((List.range n).map d) A0 a → (∀ j, j < n → a.eval (.tmp (d j)) = x j) → I (firstOps n l.length) x w' → wpList P l.toArray Q (l.drop n) a w') : (Code.region id l.toArray true).wp P Q A0 w := by
  simp only [Bool.and_eq_true, decide_eq_true_eq] at hB
  obtain ⟨⟨⟨⟨⟨hs, hc⟩, hbk⟩, hn⟩, hq⟩, hgd⟩ := hB
  have hn' : n < l.toArray.size := by simpa using hn
  refine wp_region_any hm ?_
  have inv : HeadInv .any l.toArray n (Array.replicate l.toArray.size false) := ⟨by simp, fun j oj _ hl => (by rw [getD_replicate_false] at hl; cases hl), fun t _ ht => getD_in (by simpa using ht) (getD_replicate_false _ _)⟩
  have hleft : left n (Array.replicate l.toArray.size false) = n := by
    unfold left
    rw [List.countP_eq_length.2]
    · simp
    · intro i hi
      rw [getD_in (by simpa using (Nat.lt_trans (List.mem_range.1 hi) hn)) (getD_replicate_false _ _)]
      rfl
  have hdd : ∀ i j, i < n → j < n → i ≠ j → d i ≠ d j := fun i j hi hj hne => by
    have := List.all_eq_true.1 (List.all_eq_true.1 hd i (List.mem_range.2 hi)) j (List.mem_range.2 hj)
    simp [hne] at this
    exact this
  have H := any_vals (P := P) (Q := Q) (g := l.length - n) hs hc hbk hn' hq
    (fun seen a w' => Keeps ((List.range n).map d) A0 a ∧ seen.size = l.length ∧ ∃ x : Nat → Value, (∀ j, j < n → a.eval (.tmp (d j)) = x j) ∧ I seen x w')
    (fun seen a w' i hi hun hr inv' ⟨hk, hsz, x, hx, hI⟩ => by
      obtain ⟨_, o, ho, hall⟩ := mem_ready.1 hr
      have ho' : l[i]? = some o := by simpa using ho
      have hg : o.guard = none := by
        have := List.all_eq_true.1 hgd o (List.mem_of_getElem? ho')
        simpa using this
      have hdo : o.dst = some (d i) := by
        have := List.all_eq_true.1 hdst i (List.mem_range.2 hi)
        rw [ho'] at this
        simpa using this
      have hw := hstep i o a w' seen x hi ho' hsz hk hx hI hun hall
      unfold wpOp
      simp only [ho]
      have hwant : Region.wanted o (yielded l.toArray a.tmps) = true := by simp [Region.wanted, hg]
      simp only [hwant, if_true]
      refine .inl (Oper.wp_mono ?_ hw)
      rintro a' w'' ⟨v, rfl, hI2⟩
      rw [hdo]
      have hmem : d i ∈ (List.range n).map d := List.mem_map.2 ⟨i, List.mem_range.2 hi, rfl⟩
      refine ⟨hk.put hmem v, by simp [hsz], _, fun j hj => ?_, hI2⟩
      by_cases e : j = i
      · subst e
        rw [if_pos rfl, eval_same (by
          have := List.all_eq_true.1 hz j (List.mem_range.2 hi)
          rw [hk.size]
          simpa using this)]
      · rw [if_neg e, eval_other (hdd i j hi hj (Ne.symm e)), hx j hj])
    (l.drop n) (fun j => by simp [List.getElem?_drop]) (by simp)
    (fun a w' ⟨hk, _, x, hx, hI⟩ => hend a w' x hk hx (by simpa using hI))
    n _ A0 w.drew hleft inv ⟨Keeps.refl _ _, by simp, fun j => A0.eval (.tmp (d j)), fun _ _ => rfl, by simpa using hS _⟩
  rwa [show n + (l.length - n) = l.toArray.size by simp; omega] at H
end
end Go.Proofs.Ytinpdomcfijnmaa
