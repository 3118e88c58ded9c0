import Derived.WalkKit
import Derived.RangeFuncCalls
import Derived.RangeFuncBound
import Derived.RangeFuncNested
import Derived.Below
namespace Go.Proofs.Ytnneppkkmhjpbaa
open Go.RowKit

/-! A function that is ranged over and has cells of its own, which it writes between two rounds: what it promises, and the walk of a range over it. The rounds' state may speak of what lay ahead of the statement alone. -/
/-- What a round must leave as it was: block b0, and what was made from block number s on. -/
structure Kept (b0 s : Nat) (A B : World) : Prop where
  size : A.heap.size ≤ B.heap.size
  same : ∀ (k : Nat) (o : Obj), k = b0 ∨ s ≤ k → A.heap[k]? = some o → B.heap[k]? = some o
theorem Kept.refl (b0 s : Nat) (A : World) : Kept b0 s A A := ⟨Nat.le_refl _, fun _ _ _ h => h⟩
theorem Kept.trans {b0 s : Nat} {A B C : World} (h : Kept b0 s A B) (k : Kept b0 s B C) : Kept b0 s A C := ⟨Nat.le_trans h.size k.size, fun i o hi ho => k.same i o hi (h.same i o hi ho)⟩
theorem Kept.mono {b0 s s' : Nat} {A B : World} (h : Kept b0 s A B) (hs : s ≤ s') : Kept b0 s' A B := ⟨h.size, fun i o hi ho => h.same i o (hi.imp id (Nat.le_trans hs)) ho⟩
theorem Kept.of_below {b0 s : Nat} {A B : World} (h : Below A.heap.size A B) : Kept b0 s A B := ⟨h.size, fun k _ _ ho => (h.block k (Array.getElem?_eq_some_iff.1 ho).1).trans ho⟩
/-- A store into a block below s that is not b0. -/
theorem Kept.setCell {b0 s : Nat} (W : World) {p : Addr} (h1 : p.block ≠ b0) (h2 : p.block < s) (v : Value) : Kept b0 s W (W.setCell p v) :=
  ⟨by simp [World.setCell], fun k o hk ho => by
    rw [Below.heap_setCell W p v k (by rcases hk with rfl | hk <;> omega)]; exact ho⟩
def Stays (s : Nat) (J : Nat → World → Prop) : Prop := ∀ k A B, J k A → Below s A B → J k B
/-- The promise: N rounds, one behind the other, with these values, as far as they go. -/
def IterSays (F : Fence) (n : Nat) (P : Program) (g : Nat) (lb : Array Value) (N : Nat) (vals : Nat → Array Value) (b0 : Nat) (w : World) : Prop :=
  ∀ (l : Nat) (J Jx : Nat → World → Prop) (W : World), Below w.heap.size w W → Stays W.heap.size J → Stays W.heap.size Jx →
    (∀ k W1, k < N → J k W1 → YieldAt F (n - 1) P l (vals k) W1 fun e W' => (e = .returned (.bool true) ∧ J (k + 1) W' ∧ Kept b0 W.heap.size W1 W') ∨ (e = .returned (.bool false) ∧ Jx k W')) →
    J 0 W → CallsIn F n P g (#[.func (.yield l) #[] #[]] ++ lb) W fun e W' => (∃ v, e = .returned v) ∧ (J N W' ∨ ∃ k, k < N ∧ Jx k W')
def iterPost (b0 s : Nat) (I Ix : Nat → World → Prop) (k : Nat) (W : World) : Exit → Act → World → Prop
  | .normal, _, W' => Kept b0 s W W' ∧ I (k + 1) W'
  | .ret, _, W' => Kept b0 s W W' ∧ Ix k W'
  | _, _, _ => False

variable {F : Fence} {n : Nat} {P : Program}
theorem below_putObj {s : Nat} (W : World) {r : Nat} (h : s ≤ r) (o : Obj) : Below s W (W.putObj r o) :=
  ⟨rfl, rfl, rfl, by simp, fun k hk => World.putObj_heap_other (by omega)⟩
theorem wpIn_range_iter {g : Operand} {ps : Array Tmp} {assign body : Code} {Q : Exit → Act → World → Prop} {a : Act} {w : World}
    (hro : F.round = none) (h1 : 1 ≤ n) {gf : Nat} {lb : Array Value} (hg : a.eval g = .func (.func gf) #[] lb) (hFg : F.fn gf) (eg : ∀ args w, (callFunc gf args).run P w = .ok (.enter gf args) w)
    {N : Nat} {vals : Nat → Array Value} {b0 : Nat} {w0 : World} (hseq : IterSays F (n - 1) P gf lb N vals b0 w0) (hb0 : b0 < w.heap.size) (hw0 : Below w0.heap.size w0 w) (hps : ∀ k, (vals k).size = ps.size)
    (I Ix : Nat → World → Prop) (hI : Stays w.heap.size I) (hIx : Stays w.heap.size Ix) (h0 : I 0 w) (M : Nat → Act → World → Prop) (hM : ∀ k a' W o, M k a' W → M k a' (W.putObj (w.heap.size + 1) o))
    (hassign : ∀ (l k : Nat) (W : World) (K : Act → World → Prop), k < N → w.heap.size + 2 ≤ W.heap.size → I k W → (∀ a₁ W₁, M k a₁ W₁ → Below W.heap.size W W₁ → K a₁ W₁) →
      assign.wpIn (F.inRound l) (n - 1 - 1) P (Exit.then K (fun _ _ _ => False)) { tmps := (ps.zip (vals k)).foldl (fun t (p, v) => t.setIfInBounds p v) a.tmps, defers := [] } W)
    (hbody : ∀ (l k : Nat) (a₁ : Act) (W : World), k < N → M k a₁ W → body.wpIn (F.inRound l) (n - 1 - 1) P (iterPost b0 w.heap.size I Ix k W) a₁ W)
    (hdone : ∀ (D : Nat) (W : World), w.heap.size ≤ D → I N W → W.heap[D]? = some (.deferred (some [])) → Q .normal { a with defers := { target := .collected D, args := #[] } :: a.defers } W)
    (hstop : ∀ (D k : Nat) (W : World), w.heap.size ≤ D → k < N → Ix k W → W.heap[D]? = some (.deferred (some [])) → Code.ret.wpIn F n P Q { a with defers := { target := .collected D, args := #[] } :: a.defers } W) :
    (Code.rangeFunc g ps assign body).wpIn F n P Q a w := by
  refine wpIn_rangeFunc fun fn hfn => ?_
  rw [hro]
  obtain ⟨rec, hrec⟩ : ∃ rec : LoopState → Option Code → Loop, rec = fun st pe => { state := st, pending := pe, fn, tmps := a.tmps, params := ps, assign, body, defers := w.heap.size } := ⟨_, rfl⟩
  have hs2 : ((w.alloc (.deferred (some []))).alloc (.loop (rec .ready none))).heap.size = w.heap.size + 2 := by simp
  have hD : ((w.alloc (.deferred (some []))).alloc (.loop (rec .ready none))).heap[w.heap.size]? = some (.deferred (some [])) := (Below.heap_alloc _ _ _ (by simp)).trans (World.alloc_heap_new w _)
  have hL : ((w.alloc (.deferred (some []))).alloc (.loop (rec .ready none))).heap[w.heap.size + 1]? = some (.loop (rec .ready none)) := by
    have := World.alloc_heap_new (w.alloc (.deferred (some []))) (.loop (rec .ready none))
    rwa [World.size_alloc] at this
  have hB : Below w.heap.size w ((w.alloc (.deferred (some []))).alloc (.loop (rec .ready none))) := ((Below.refl _ w).alloc (Nat.le_refl _) _).alloc (by simp) _
  have hrun := run_enterLoop_outer (P := P) (w := w) fn a.tmps ps assign body
  rw [show (Obj.loop { state := .ready, pending := none, fn, tmps := a.tmps, params := ps, assign, body, defers := w.heap.size }) = .loop (rec .ready none) by rw [hrec]] at hrun
  generalize (w.alloc (.deferred (some []))).alloc (.loop (rec .ready none)) = W1 at hs2 hD hL hB hrun
  refine ⟨w.heap.size + 1, [{ target := .collected w.heap.size, args := #[] }], W1, { target := .fn (.func gf) lb, args := #[.func (.yield (w.heap.size + 1)) #[] #[]] }, W1, gf,
    #[.func (.yield (w.heap.size + 1)) #[] #[]] ++ lb, W1, hrun, ?_, ?_, ?_, fun _ => h1, ?_⟩
  · simp only [resolve, hg]
    simp [go_sem]
  · intro f' hf'; simp [Target.leads] at hf'; subst hf'; exact hFg
  · simp [invoke, go_sem, eg]
  have up : ∀ {A B : World}, Below W1.heap.size A B → Below w.heap.size A B := fun h => h.mono (by omega)
  have at' : ∀ {A B : World} {r : Nat} {o : Obj}, Below W1.heap.size A B → r < w.heap.size + 2 → A.heap[r]? = some o → B.heap[r]? = some o := fun h hr ho => (h.block _ (by omega)).trans ho
  refine (hseq (w.heap.size + 1)
    (fun k W => I k W ∧ w.heap.size + 2 ≤ W.heap.size ∧ W.heap[w.heap.size + 1]? = some (.loop (rec .ready none)) ∧ W.heap[w.heap.size]? = some (.deferred (some [])))
    (fun k W => Ix k W ∧ W.heap[w.heap.size + 1]? = some (.loop (rec .done (some .ret))) ∧ W.heap[w.heap.size]? = some (.deferred (some [])))
    W1 (hw0.trans (hB.mono hw0.size))
    (fun k A B h hb => ⟨hI k A B h.1 (up hb), Nat.le_trans h.2.1 hb.size, at' hb (by omega) h.2.2.1, at' hb (by omega) h.2.2.2⟩)
    (fun k A B h hb => ⟨hIx k A B h.1 (up hb), at' hb (by omega) h.2.1, at' hb (by omega) h.2.2⟩) ?_ ⟨hI 0 _ _ h0 hB, by omega, hL, hD⟩).mono ?_
  · rintro k W hk ⟨hi, hsz, hl, hd⟩
    have hy := run_yield (P := P) (args := vals k) hl (by rw [hrec]; exact hps k)
    rw [hrec] at hy
    refine ⟨fn, _, assign, body, hy, roundIn_of_wpIn hfn (hassign _ k W _ hk hsz hi fun a₁ Wa hMa hba => ?_)⟩
    have hla : Wa.heap[w.heap.size + 1]? = some (.loop (rec .ready none)) := (hba.block _ (by omega)).trans hl
    have hda : Wa.heap[w.heap.size]? = some (.deferred (some [])) := (hba.block _ (by omega)).trans hd
    refine ⟨_, run_beginRound hla (by rw [hrec]), ?_⟩
    have hlt : w.heap.size + 1 < Wa.heap.size := (Array.getElem?_eq_some_iff.1 hla).1
    have hl2 : (Wa.putObj (w.heap.size + 1) (.loop { rec .ready none with state := .busy })).heap[w.heap.size + 1]? = some (.loop { rec .ready none with state := .busy }) := World.putObj_heap_same hlt
    have hd2 : (Wa.putObj (w.heap.size + 1) (.loop { rec .ready none with state := .busy })).heap[w.heap.size]? = some (.deferred (some [])) := (World.putObj_heap_other (by omega)).trans hda
    have hk2 : Kept b0 (w.heap.size + 2) W (Wa.putObj (w.heap.size + 1) (.loop { rec .ready none with state := .busy })) := (Kept.of_below hba).trans ⟨by simp, fun i o hi' ho => (World.putObj_heap_other (by rcases hi' with rfl | hi' <;> omega)).trans ho⟩
    refine wpIn_mono (hbody _ k _ _ hk (hM _ _ _ _ hMa)) ?_
    generalize Wa.putObj (w.heap.size + 1) (.loop { rec .ready none with state := .busy }) = W2 at hl2 hd2 hk2
    have fin : ∀ (j : Option Code) (W3 : World), Kept b0 w.heap.size W2 W3 →
        (Instr.endRound (w.heap.size + 1) j).run P W3 = .ok (.bool j.isNone) (W3.putObj (w.heap.size + 1) (.loop (rec (if j.isNone then .ready else .done) j))) ∧
        (W3.putObj (w.heap.size + 1) (.loop (rec (if j.isNone then .ready else .done) j))).heap[w.heap.size + 1]? = some (.loop (rec (if j.isNone then .ready else .done) j)) ∧
        (W3.putObj (w.heap.size + 1) (.loop (rec (if j.isNone then .ready else .done) j))).heap[w.heap.size]? = some (.deferred (some [])) ∧
        Kept b0 (w.heap.size + 2) W (W3.putObj (w.heap.size + 1) (.loop (rec (if j.isNone then .ready else .done) j))) := fun j W3 h3 => by
      have hl3 := h3.same _ _ (.inr (by omega)) hl2
      have hd3 := h3.same _ _ (.inr (Nat.le_refl _)) hd2
      have hr := run_endRound (P := P) j hl3
      rw [hrec] at hr ⊢
      exact ⟨hr, World.putObj_heap_same (Array.getElem?_eq_some_iff.1 hl3).1, (World.putObj_heap_other (by omega)).trans hd3,
        (hk2.trans (h3.mono (by omega))).trans ⟨by simp, fun i o hi' ho => (World.putObj_heap_other (by rcases hi' with rfl | hi' <;> omega)).trans ho⟩⟩
    have hs3 : w.heap.size + 2 ≤ W2.heap.size := Nat.le_trans hsz hk2.size
    rintro e a3 W3 hp
    cases e with
    | normal =>
      obtain ⟨q1, q2⟩ := hp
      obtain ⟨r1, r2, r3, r4⟩ := fin none W3 q1
      rw [← hs2] at r4
      exact ⟨_, _, r1, .inl ⟨rfl, ⟨hI _ _ _ q2 (below_putObj W3 (by omega) _), by have := q1.size; simp; omega, r2, r3⟩, r4⟩⟩
    | ret =>
      obtain ⟨q1, q2⟩ := hp
      obtain ⟨r1, r2, r3, _⟩ := fin (some .ret) W3 q1
      exact ⟨_, _, r1, .inr ⟨rfl, hIx _ _ _ q2 (below_putObj W3 (by omega) _), r2, r3⟩⟩
    | exit id => exact hp.elim
    | goto t => exact hp.elim
    | panic ch => exact hp.elim
    | outgrown => exact hp.elim
  · rintro e W2 ⟨⟨v, rfl⟩, (⟨hi, _, hl, hd⟩ | ⟨k, hk, hi, hl, hd⟩)⟩
    · refine ⟨none, _, by have := run_endLoop (P := P) hl (by rw [hrec]; simp); rw [hrec] at this; exact this, hdone _ _ (Nat.le_refl _) (hI _ _ _ hi (below_putObj W2 (by omega) _)) ((World.putObj_heap_other (by omega)).trans hd)⟩
    · refine ⟨some .ret, _, by have := run_endLoop (P := P) hl (by rw [hrec]; simp); rw [hrec] at this; exact this, hstop _ k _ (Nat.le_refl _) hk (hIx _ _ _ hi (below_putObj W2 (by omega) _)) ((World.putObj_heap_other (by omega)).trans hd)⟩
/-- In the wide fence depths do not matter. -/
theorem yieldAt_wide {m m' : Nat} {l : Nat} {args : Array Value} {W : World} {R : Ending → World → Prop} (h : YieldAt Fence.wide m P l args W R) : YieldAt Fence.wide m' P l args W R := by
  obtain ⟨fn, tmps, assign, body, h1, h2, h3⟩ := h
  exact ⟨fn, tmps, assign, body, h1, h2, fun c cs _ => h3 c cs (room_wide _)⟩
end Go.Proofs.Ytnneppkkmhjpbaa
