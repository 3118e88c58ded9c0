import Derived.Test.YtnneppkkmhjpbaaVals
import Derived.Test.YtnneppkkmhjpbaaRound
namespace Go.Proofs.Ytnneppkkmhjpbaa
open Go.RowKit

/-! XVals' region in a round of a range over a function. -/
section
variable {P : Program}
theorem round_vals {Q : Exit → Act → World → Prop} {lp dp id n : Nat} {A0 : Act} {w : World} {l : List Oper} (d : Nat → Tmp) (V : Nat → Value → World → Prop) (hm : P.follows .mixedOrders = true) (hdf : l.toArray.all noDefer = true) (hQ : ¬ LetsOut Q)
    (hB : (Region.sinkB .any l.toArray n && Region.chainB .any l.toArray n && backwardB l.toArray && decide (n < l.length) && Region.seqB .any l.toArray (l.length - n) n (firstOps n l.toArray.size) && (l.all fun o => o.guard.isNone)) = true)
    (hd : (List.range n).all (fun i => (List.range n).all fun j => i == j || d i != d j) = true) (hz : (List.range n).all (fun i => decide (d i < A0.tmps.size)) = true) (hdst : (List.range n).all (fun i => ((l[i]?).map (fun o => o.dst == some (d i))).getD false) = true)
    (hV : ∀ i v w w', V i v w → Below w.heap.size w w' → V i v w')
    (hstep : ∀ i o a w', i < n → l[i]? = some o → Keeps ((List.range n).map d) A0 a → Below w.heap.size w.drew w' → (∀ e ∈ o.after, Region.binds .any e = true → V e.on (a.eval (.tmp (d e.on))) w') → o.wp P a w' (fun a' w'' => ∃ v, a' = a.put o.dst v ∧ V i v w'' ∧ Below w'.heap.size w' w'') Q)
    (hend : ∀ a w', Keeps ((List.range n).map d) A0 a → Below w.heap.size w.drew w' → (∀ i, i < n → V i (a.eval (.tmp (d i))) w') → wpList P l.toArray Q (l.drop n) a w') : (Code.region id l.toArray true).wpIn (Fence.wide.inRound lp) dp P Q A0 w := by
  simp only [Bool.and_eq_true, decide_eq_true_eq] at hB
  obtain ⟨⟨⟨⟨⟨hs, hc⟩, hbk⟩, hn⟩, hq⟩, hgd⟩ := hB
  have hn' : n < l.toArray.size := by simpa using hn
  refine wpIn_region_any hm (wpAnyIn_plain hdf hQ _ _ _ _ ?_)
  have inv : HeadInv .any l.toArray n (Array.replicate l.toArray.size false) := ⟨by simp, fun j oj _ hl => (by rw [getD_replicate_false] at hl; cases hl), fun t _ ht => getD_in (by simpa using ht) (getD_replicate_false _ _)⟩
  have hleft : left n (Array.replicate l.toArray.size false) = n := by
    unfold left
    rw [List.countP_eq_length.2]
    · simp
    · intro i hi
      rw [getD_in (by simpa using (Nat.lt_trans (List.mem_range.1 hi) hn)) (getD_replicate_false _ _)]
      rfl
  have hdd : ∀ i j, i < n → j < n → i ≠ j → d i ≠ d j := fun i j hi hj hne => by
    have := List.all_eq_true.1 (List.all_eq_true.1 hd i (List.mem_range.2 hi)) j (List.mem_range.2 hj)
    simp [hne] at this
    exact this
  have H := any_vals (P := P) (Q := Q) (g := l.length - n) hs hc hbk hn' hq
    (fun seen a w' => Keeps ((List.range n).map d) A0 a ∧ Below w.heap.size w.drew w' ∧ ∀ i, i < n → seen.getD i false = true → V i (a.eval (.tmp (d i))) w')
    (fun seen a w' i hi hun hr inv' ⟨hk, hb, hv⟩ => by
      obtain ⟨_, o, ho, hall⟩ := mem_ready.1 hr
      have ho' : l[i]? = some o := by simpa using ho
      have hg : o.guard = none := by
        have := List.all_eq_true.1 hgd o (List.mem_of_getElem? ho')
        simpa using this
      have hdo : o.dst = some (d i) := by
        have := List.all_eq_true.1 hdst i (List.mem_range.2 hi)
        rw [ho'] at this
        simpa using this
      have hw := hstep i o a w' hi ho' hk hb (fun e he hbd => hv e.on (by have := backward_of hbk ho he hbd; omega) (hall e he hbd))
      unfold wpOp
      simp only [ho]
      have hwant : Region.wanted o (yielded l.toArray a.tmps) = true := by simp [Region.wanted, hg]
      simp only [hwant, if_true]
      refine .inl (Oper.wp_mono ?_ hw)
      rintro a' w'' ⟨v, rfl, hvi, hb2⟩
      rw [hdo]
      have hmem : d i ∈ (List.range n).map d := List.mem_map.2 ⟨i, List.mem_range.2 hi, rfl⟩
      refine ⟨hk.put hmem v, hb.trans (hb2.mono hb.size), fun j hj hlj => ?_⟩
      by_cases e : i = j
      · subst e
        rw [eval_same (by
          have := List.all_eq_true.1 hz i (List.mem_range.2 hi)
          rw [hk.size]
          simpa using this)]
        exact hvi
      · rw [eval_other (hdd i j hi hj e)]
        rw [getD_set_ne false e] at hlj
        exact hV j _ _ _ (hv j hj hlj) hb2)
    (l.drop n) (fun j => by simp [List.getElem?_drop]) (by simp)
    (fun a w' ⟨hk, hb, hv⟩ => hend a w' hk hb fun i hi => hv i hi (by
      unfold firstOps
      have : i < l.length := by omega
      simp [this, hi]))
    n _ A0 w.drew hleft inv ⟨Keeps.refl _ _, Below.refl _ _, fun i _ h => by rw [getD_replicate_false] at h; cases h⟩
  rwa [show n + (l.length - n) = l.toArray.size by simp; omega] at H
end
end Go.Proofs.Ytnneppkkmhjpbaa
