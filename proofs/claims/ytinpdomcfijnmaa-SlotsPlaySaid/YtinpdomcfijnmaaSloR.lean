import Derived.Test.YtinpdomcfijnmaaSloL7
namespace Go.Proofs.Ytinpdomcfijnmaa
open Go.RowKit

/-! An entry cut out of the list: append(append([]entry{}, l[:at]...), l[at+1:]...), a region that draws its order. -/
def dV (g c a n : Nat) : Nat → Value → Prop
  | 1, v => v = .slice (some ⟨g, 0, none⟩) n c
  | 2, v => v = .int .i64 (a : Int)
  | 3, v => v = .slice (some ⟨g, 0, none⟩) a c
  | 5, v => v = .slice (some ⟨g, 0, none⟩) n c
  | 6, v => v = .int .i64 (a : Int)
  | 7, v => v = .int .i64 ((a : Int) + 1)
  | 8, v => v = .slice (some (if c = a + 1 then ⟨g, 0, none⟩ else ⟨g, (a + 1) * 2, none⟩)) (n - (a + 1)) (c - (a + 1))
  | _, _ => True
/-- What holds while it is carried out, in whatever order. -/
structure RG (w0 : World) (g c a : Nat) (L : List Entry) (seen : Array Bool) (x : Nat → Value) (w : World) : Prop where
  low : Below w0.heap.size w0 w
  val : ∀ i, i < 10 → seen.getD i false = true → dV g c a L.length i (x i)
  s0 : seen.getD 0 false = true → seen.getD 4 false = false → w.ownsRow w0.heap.size 52 2 (x 0) 0 []
  s4 : seen.getD 4 false = true → seen.getD 9 false = false → w.ownsRow w0.heap.size 52 2 (x 4) a (eC (L.take a))
  s9 : seen.getD 9 false = true → w.ownsRow w0.heap.size 52 2 (x 9) (a + (L.length - (a + 1))) (eC (L.take a ++ L.drop (a + 1)))
  d9 : seen.getD 9 false = true → seen.getD 4 false = true
theorem seen_self {seen : Array Bool} {i : Nat} (h : i < seen.size) : (seen.setIfInBounds i true).getD i false = true := by simp [h]
theorem seen_other {seen : Array Bool} {i j : Nat} (h : i ≠ j) : (seen.setIfInBounds i true).getD j false = seen.getD j false := by
  simp [Array.getElem?_setIfInBounds_ne h]
section
variable {w0 w w' : World} {g c a : Nat} {L : List Entry} {seen : Array Bool} {x : Nat → Value}
theorem RG.start : RG w0 g c a L (Array.replicate 11 false) x w0.drew := by
  have no : ∀ i, ¬ (Array.replicate 11 false).getD i false = true := fun i h => by
    rw [getD_replicate_false] at h
    cases h
  exact ⟨low_drewN (Below.refl _ _) 1, fun i _ h => absurd h (no i), fun h => absurd h (no 0), fun h => absurd h (no 4), fun h => absurd h (no 9), fun h => absurd h (no 9)⟩
theorem RG.vals (h : RG w0 g c a L seen x w) {i : Nat} {v : Value} (hv : dV g c a L.length i v) : ∀ j, j < 10 → (seen.setIfInBounds i true).getD j false = true → dV g c a L.length j (if j = i then v else x j) := fun j hj hs => by
  by_cases e : j = i
  · subst e; rw [if_pos rfl]; exact hv
  · rw [if_neg e]; rw [seen_other (Ne.symm e)] at hs; exact h.val j hj hs
theorem RG.pure (h : RG w0 g c a L seen x w) {i : Nat} {v : Value} (h0 : i ≠ 0) (h4 : i ≠ 4) (h9 : i ≠ 9) (hv : dV g c a L.length i v) : RG w0 g c a L (seen.setIfInBounds i true) (fun j => if j = i then v else x j) w := by
  refine ⟨h.low, h.vals hv, fun p q => ?_, fun p q => ?_, fun p => ?_, fun p => ?_⟩
  · rw [seen_other h0] at p; rw [seen_other h4] at q; simp only [if_neg (Ne.symm h0)]; exact h.s0 p q
  · rw [seen_other h4] at p; rw [seen_other h9] at q; simp only [if_neg (Ne.symm h4)]; exact h.s4 p q
  · rw [seen_other h9] at p; simp only [if_neg (Ne.symm h9)]; exact h.s9 p
  · rw [seen_other h9] at p; rw [seen_other h4]; exact h.d9 p
theorem RG.step0 (h : RG w0 g c a L seen x w) {v : Value} (hb : Below w.heap.size w w') (ho : w'.ownsRow w0.heap.size 52 2 v 0 []) : RG w0 g c a L (seen.setIfInBounds 0 true) (fun j => if j = 0 then v else x j) w' := by
  refine ⟨low_go h.low hb, h.vals trivial, fun p q => ?_, fun p q => ?_, fun p => ?_, fun p => ?_⟩
  · exact ho
  · rw [seen_other (by decide)] at p q; exact own_below (h.s4 p q) hb
  · rw [seen_other (by decide)] at p; exact own_below (h.s9 p) hb
  · rw [seen_other (by decide)] at p ⊢; exact h.d9 p
theorem RG.step4 (h : RG w0 g c a L seen x w) {v : Value} (hsz : seen.size = 11) (hun : seen.getD 4 false = false) (hb : Below w0.heap.size w0 w') (ho : w'.ownsRow w0.heap.size 52 2 v a (eC (L.take a))) : RG w0 g c a L (seen.setIfInBounds 4 true) (fun j => if j = 4 then v else x j) w' := by
  refine ⟨hb, h.vals trivial, fun p q => ?_, fun p q => ?_, fun p => ?_, fun p => ?_⟩
  · rw [seen_self (by omega)] at q; cases q
  · exact ho
  · rw [seen_other (by decide)] at p; have := h.d9 p; rw [hun] at this; cases this
  · exact seen_self (by omega)
theorem RG.step9 (h : RG w0 g c a L seen x w) {v : Value} (hsz : seen.size = 11) (hd : seen.getD 4 false = true) (hb : Below w0.heap.size w0 w') (ho : w'.ownsRow w0.heap.size 52 2 v (a + (L.length - (a + 1))) (eC (L.take a ++ L.drop (a + 1)))) : RG w0 g c a L (seen.setIfInBounds 9 true) (fun j => if j = 9 then v else x j) w' := by
  refine ⟨hb, h.vals trivial, fun p q => ?_, fun p q => ?_, fun _ => ho, fun _ => ?_⟩
  · rw [seen_other (by decide)] at q; rw [hd] at q; cases q
  · rw [seen_self (by omega)] at q; cases q
  · rw [seen_other (by decide)]; exact hd
end
theorem eC_cut (L : List Entry) (k j : Nat) (u : Value) (hk : k ≤ L.length) (h : (eC (L.drop k))[j]? = some u) : (eC L)[k * 2 + j]? = some u := by
  conv => lhs; rw [← List.take_append_drop k L, eC_append]
  rw [List.getElem?_append_right (by rw [eC_length, List.length_take]; omega), eC_length, List.length_take, show k * 2 + j - min k L.length * 2 = j by omega]
  exact h
theorem eC_take (L : List Entry) (k j : Nat) (u : Value) (h : (eC (L.take k))[j]? = some u) : (eC L)[j]? = some u := by
  conv => lhs; rw [← List.take_append_drop k L, eC_append]
  have hj : j < (eC (L.take k)).length := by
    rcases Nat.lt_or_ge j (eC (L.take k)).length with q | q
    · exact q
    · rw [List.getElem?_eq_none q] at h; cases h
  rw [List.getElem?_append_left hj]
  exact h
theorem entry_size : (Try.prog.info? 52).map (·.size) = some 2 := (zero_of_info entry_two).2
theorem run_build0 (w : World) : (Instr.buildSlice 48 0 #[]).run Try.prog w = .ok (.slice (some ⟨w.heap.size, 0, none⟩) 0 0) (w.alloc (.cells #[] 52)) := by
  obtain ⟨i, hi, hs⟩ := Option.map_eq_some_iff.1 entry_size
  simp [Instr.buildSlice, run_underlying Try.underlying48, sizeOf, typeInfo, hi, newRow]
  rw [show Instr.fill (fun k => some (k * i.size, i.size)) (Array.map (fun _ => default) (Array.range 0)) [] = some #[] from by simp [Instr.fill, Array.range]]
  rfl
def cutD (i : Nat) : Tmp := 59 + i
end Go.Proofs.Ytinpdomcfijnmaa
