import Derived.Test.YtnneppkkmhjpbaaClassTail
import Derived.Test.YtnneppkkmhjpbaaIter
import Derived.OrdersIn
namespace Go.Proofs.Ytnneppkkmhjpbaa
open Go.RowKit

/-! A region that draws its order, in a round of a range over a function: what is shown outside of a round holds in it, in the wide fence, if nothing is deferred. -/
section
variable {P : Program} {ops : Array Oper} {md : Region.Mode} {Q : Exit → Act → World → Prop} {l n : Nat}
def noDefer (o : Oper) : Bool := match o.op with
  | .defer _ => false
  | _ => true
theorem wpOpIn_plain (hd : ops.all noDefer = true) (hQ : ¬ LetsOut Q) {i : Nat} {K : Act → World → Prop} {a : Act} {w : World} (h : wpOp P ops Q i K a w) : wpOpIn (Fence.wide.inRound l) n P ops Q i K a w := by
  unfold wpOp at h
  unfold wpOpIn
  cases ho : ops[i]? with
  | none => simp only [ho] at h ⊢; exact h
  | some o =>
    simp only [ho] at h ⊢
    have hno : ∀ c, o.op ≠ .defer c := fun c e => by
      have hm := (Array.all_eq_true_iff_forall_mem.1 hd) o (Array.mem_of_getElem? ho)
      unfold noDefer at hm
      rw [e] at hm
      cases hm
    split
    · rename_i hq
      simp only [hq, if_true] at h
      have h := h.resolve_right fun z => hQ z.2
      refine ⟨fun _ _ => trivial, ?_⟩
      rw [Oper.semAt_eq _ _ _ hno]
      unfold Oper.wp at h
      generalize (execOp a.eval o).run P w = r at h ⊢
      cases r with
      | ok x w' =>
        cases x with
        | enter f args => exact ⟨fun z => (by cases z), CallsIn.inRound l (callsIn_wide.2 h)⟩
        | row r args => exact ⟨fun z => (by cases z), fun c cs _ => let ⟨v, w2, h1, h2⟩ := h c cs; ⟨v, w2, h1, stepsIn_wide.2 h2⟩⟩
        | round l' f t as b => exact h.elim
        | _ => exact h
      | halt x w' =>
        cases x with
        | panic v => exact h
        | _ => exact h
    · rename_i hq
      simp only [hq] at h
      exact ⟨fun _ _ => trivial, h⟩
theorem wpAnyIn_plain (hd : ops.all noDefer = true) (hQ : ¬ LetsOut Q) : ∀ (fuel : Nat) (seen : Array Bool) (a : Act) (w : World), wpAny P md ops Q fuel seen a w → wpAnyIn (Fence.wide.inRound l) n P md ops Q fuel seen a w
  | 0, _, _, _, h => h
  | fuel + 1, _, _, _, h => ⟨h.1, fun i hi => wpOpIn_mono (fun a' w' h' => wpAnyIn_plain hd hQ fuel _ a' w' h') (wpOpIn_plain hd hQ (h.2 i hi))⟩
theorem any_class_tail {a : Act} {w : World} {ol : List Oper} (C : World → Prop) (k : Nat) (hB : Region.lexTailB .any ol.toArray k = true) (hC : C w)
    (h : wpQuiet P ol.toArray C (fun a' => ∀ w', C w' → wpList P ol.toArray Q (ol.drop k) a' w') (ol.take k) a) : wpAny P .any ol.toArray Q ol.toArray.size (Array.replicate ol.toArray.size false) a w := by
  simp only [Region.lexTailB, Bool.and_eq_true, decide_eq_true_eq] at hB
  obtain ⟨⟨⟨⟨hsel, hn⟩, hs⟩, hc⟩, hlex⟩ := hB
  have hnl : k < ol.length := by simpa using hn
  have htl : (ol.take k).length = k := by rw [List.length_take]; omega
  have hdl : (ol.drop k).length = ol.toArray.size - k := by rw [List.length_drop]; simp
  have inv : HeadInv .any ol.toArray k (Array.replicate ol.toArray.size false) := ⟨by simp, fun j oj _ hl => (by rw [getD_replicate_false] at hl; cases hl), fun t _ ht => getD_in (by simpa using ht) (getD_replicate_false _ _)⟩
  have H := heads_lex (md := .any) (g := ol.toArray.size - k) (C := C) (P := P) hsel hs hc hn (ol.take k) 0 _ a (fun j hj => by
    rw [htl] at hj
    simp [hj]) (by simpa using htl) inv (by rw [htl]; exact hlex) h
  have H2 := any_of_heads (Q := Q) (g := ol.toArray.size - k) (fun seen a' w' hw' hL => by
    have := wpAny_of_seq (md := .any) (Q' := Q) (ol.drop k) k seen a' w' (fun j => by simp [List.getElem?_drop]) (by rw [hdl]; exact hL.1) (hL.2 w' hw')
    rwa [hdl] at this) _ _ _ _ hC H
  rw [htl, show k + (ol.toArray.size - k) = ol.toArray.size by omega] at H2
  exact H2
theorem round_class_tail {id : Nat} {a : Act} {w : World} {ol : List Oper} (C : World → Prop) (k : Nat) (hm : P.follows .mixedOrders = true) (hd : ol.toArray.all noDefer = true) (hQ : ¬ LetsOut Q) (hB : Region.lexTailB .any ol.toArray k = true) (hC : C w.drew)
    (h : wpQuiet P ol.toArray C (fun a' => ∀ w', C w' → wpList P ol.toArray Q (ol.drop k) a' w') (ol.take k) a) : (Code.region id ol.toArray true).wpIn (Fence.wide.inRound l) n P Q a w :=
  wpIn_region_any hm (wpAnyIn_plain hd hQ _ _ _ _ (any_class_tail C k hB hC h))
end
end Go.Proofs.Ytnneppkkmhjpbaa
