import Derived.Test.YtaipcciokhkmnaaLCopy
namespace Go.Proofs.Ytaipcciokhkmnaa
open Go.RowKit

/-! The program's own disk: a struct of five cells: what is safe, what is newest, what waits, what was done, what is left. Here: what stands in memory, whatever it says. -/
theorem lwrite_info : (Try.prog.info? 80).map (fun i => (i.zero, i.size, i.bytes)) = some (some (.agg ⟨.int .i64 0 :: bytesOf (fun _ => 0) 256⟩), 257, 264) := by kernel_rfl
theorem lwrite_places : Try.prog.underlying 80 = some (.struct (Try.prog.fieldsOf 80)) := by kernel_rfl
theorem lwrite_offs : (Try.prog.fieldsOf 80).toList.mapM (fun f => (Try.prog.info? f.type).map fun i => (f.offset, i.size)) = some [(0, 1), (1, 256)] := by kernel_rfl
theorem build_lwrite (b : Int) (X : Blk) (w : World) : (Instr.build 80 #[(0, .int .i64 b), (1, .agg (arr X))]).run Try.prog w = .ok (.agg (wcell b X)) w :=
  run_build w _ _ _ (wait_built (z := ⟨.int .i64 0 :: bytesOf (fun _ => 0) 256⟩) (by
    obtain ⟨i, h1, h2⟩ := Option.map_eq_some_iff.1 lwrite_info
    rw [h1]
    simp only [Prod.mk.injEq] at h2
    rw [Option.map_some, h2.1]) lwrite_places (by show (Value.int .i64 0 :: bytesOf (fun _ => 0) 256).length = 257; rw [List.length_cons, bytesOf_length]) lwrite_offs b X)
theorem slice_lwrite (b : Int) (X : Blk) (w : World) : (Instr.buildSlice 43 1 #[(0, .agg (wcell b X))]).run Try.prog w = .ok (.slice (some ⟨w.heap.size, 0, none⟩) 1 1) (w.alloc (.cells (wcell b X) 80)) := by
  obtain ⟨i, h1, h2⟩ := Option.map_eq_some_iff.1 lwrite_info
  simp only [Prod.mk.injEq] at h2
  obtain ⟨hz, hs, _⟩ := h2
  refine run_buildSlice w _ _ 1 _ (wcell b X) i _ Try.underlying43 h1 hz (by rw [hs]; decide) (by rw [hs]; decide) ?_
  rw [hs]
  show Instr.fill _ _ [(0, .agg (wcell b X))] = _
  rw [fill_cons (off := 0) (size := 257) (by simp) (by show (wcell b X).size = 257; exact wcell_size b X) (by simp)]
  rw [Instr.fill]
  congr 1
  exact splice_whole (by simp [wcell_size, Value.cells])
def doBuildL (u v : Value) : Sem Value := Instr.build 80 #[(0, u), (1, v)]
def doSliceL (u : Value) : Sem Value := Instr.buildSlice 43 1 #[(0, u)]
@[go_sem ↓] theorem exec_buildL (ρ : Operand → Value) (dst : Option Tmp) (x y : Operand) (ty : TypeId) (pos : String) (after : Array Edge) (guard : Option (Nat × Bool)) :
    execOp ρ { dst, op := .build 80 #[(0, x), (1, y)], type := ty, pos, after, guard } = (do pure (.value (← doBuildL (ρ x) (ρ y)))) := by unfold execOp doBuildL; simp
@[go_sem ↓] theorem exec_sliceL (ρ : Operand → Value) (dst : Option Tmp) (x : Operand) (ty : TypeId) (pos : String) (after : Array Edge) (guard : Option (Nat × Bool)) :
    execOp ρ { dst, op := .buildSlice 43 1 #[(0, x)], type := ty, pos, after, guard } = (do pure (.value (← doSliceL (ρ x)))) := by unfold execOp doSliceL; simp
@[go_sem] theorem doBuildL_run (b : Int) (X : Blk) (w : World) : (doBuildL (.int .i64 b) (.agg (arr X))).run Try.prog w = .ok (.agg (wcell b X)) w := build_lwrite b X w
@[go_sem] theorem doSliceL_run (b : Int) (X : Blk) (w : World) : (doSliceL (.agg (wcell b X))).run Try.prog w = .ok (.slice (some ⟨w.heap.size, 0, none⟩) 1 1) (w.alloc (.cells (wcell b X) 80)) := slice_lwrite b X w

/-- The list of writes that wait. -/
def LOwn (w : World) (base : Nat) (v : Value) (W : Waits) : Prop := w.ownsRow base 80 257 v W.length (wcells W)
theorem LOwn.nil (w : World) (base : Nat) : LOwn w base (.slice none 0 0) [] := World.ownsRow_nil _ _ _ _
theorem LOwn.keep {w w' : World} {base : Nat} {v : Value} {W : Waits} (h : LOwn w base v W) (hk : ∀ g, v.ownBlock = some g → w'.heap[g]? = w.heap[g]?) : LOwn w' base v W := by
  obtain ⟨h1, h2⟩ := h
  refine ⟨h1, ?_⟩
  rcases h2 with h2 | ⟨g, cap, cur, rfl, hb, hg, rest⟩
  · exact .inl h2
  · exact .inr ⟨g, cap, cur, rfl, hb, (hk g rfl).trans hg, rest⟩
theorem LOwn.base_le {w : World} {base : Nat} {v : Value} {W : Waits} (h : LOwn w base v W) : ∀ g, v.ownBlock = some g → base ≤ g ∧ g < w.heap.size := by
  intro g e
  rcases h.2 with ⟨rfl, _⟩ | ⟨g', cap, cur, rfl, hb, hg, _⟩
  · simp [Value.ownBlock] at e
  · have : g' = g := by simpa [Value.ownBlock] using e
    subst this
    refine ⟨hb, ?_⟩
    rcases Nat.lt_or_ge g' w.heap.size with h | h
    · exact h
    · rw [Array.getElem?_eq_none h] at hg; cases hg
theorem LOwn.shape {w : World} {base : Nat} {v : Value} {W : Waits} (h : LOwn w base v W) : ∃ A c, v = .slice A W.length c := by
  rcases h.2 with ⟨rfl, h0⟩ | ⟨g', cap, cur, rfl, _⟩
  · exact ⟨none, 0, by rw [h0]⟩
  · exact ⟨_, _, rfl⟩
theorem LOwn.cell {w : World} {base : Nat} {v : Value} {W : Waits} (h : LOwn w base v W) {g : Nat} (hg : v.ownBlock = some g) {k : Nat} {p : Nat × Blk} (hp : W[k]? = some p) : w.cell? ⟨g, k * 257, none⟩ = some (.int .i64 (p.1 : Int)) ∧ At w g (k * 257 + 1) p.2 := by
  have hc := World.ownsRow.cells h hg
  have hadd : ∀ j, (⟨g, 0, none⟩ : Addr).add j = ⟨g, j, none⟩ := fun j => by unfold Addr.add; split <;> simp_all
  refine ⟨?_, At.of fun i hi => ?_⟩
  · have h0 := wcells_get W k 0 p hp (by omega)
    rw [wcell_zero, Nat.add_zero] at h0
    have := hc _ _ h0
    rw [hadd] at this
    exact this
  · have := hc (k * 257 + (i + 1)) (.int .u8 ((p.2.f i : Nat) : Int)) (by rw [wcells_get W k (i + 1) p hp (by omega), wcell_succ, arr_get hi])
    rw [hadd] at this
    rw [show k * 257 + 1 + i = k * 257 + (i + 1) by omega]
    exact this

/-- What the struct holds. -/
structure LS where
  safe : List Blk
  now : List Blk
  wait : Waits
  acts : Nat
  left : Option Nat
structure LDAt (w : World) (b : Nat) (s : LS) (g o g2 o2 n c c2 : Nat) (v : Value) (av : Av) : Prop where
  cells : w.heap[b]? = some (.cells #[.slice (some ⟨g, o, none⟩) n c, .slice (some ⟨g2, o2, none⟩) n c2, v, .int .i64 (s.acts : Nat), .int .i64 (leftOf s.left)] 45 (0, 0))
  len : n = s.safe.length
  len2 : n = s.now.length
  img : OImg w g o s.safe
  img2 : OImg w g2 o2 s.now
  wait : LOwn w 0 v s.wait
  apart : b ≠ g ∧ b ≠ g2 ∧ g ≠ g2 ∧ v.ownBlock ≠ some b ∧ v.ownBlock ≠ some g ∧ v.ownBlock ≠ some g2
  out : ¬ av b ∧ ¬ av g ∧ ¬ av g2 ∧ ∀ i, v.ownBlock = some i → ¬ av i
  bound : ∀ i, av i → i < w.heap.size
  ok : 1 ≤ n ∧ n ≤ 2048 ∧ (∀ p ∈ s.wait, p.1 < n) ∧ s.wait.length ≤ 1000000 ∧ s.acts ≤ 1000000
  lo : ∀ k, s.left = some k → k ≤ 9223372036854775807
theorem LDAt.lt {w : World} {b : Nat} {s : LS} {g o g2 o2 n c c2 : Nat} {v : Value} {av : Av} (h : LDAt w b s g o g2 o2 n c c2 v av) : b < w.heap.size := by
  rcases Nat.lt_or_ge b w.heap.size with q | q
  · exact q
  · have := h.cells; rw [Array.getElem?_eq_none q] at this; cases this
theorem LDAt.frame {w w' : World} {b : Nat} {s : LS} {g o g2 o2 n c c2 : Nat} {v : Value} {av av' : Av} (h : LDAt w b s g o g2 o2 n c c2 v av) (hs : w.heap.size ≤ w'.heap.size) (hk : ∀ i, i < w.heap.size → ¬ av i → w'.heap[i]? = w.heap[i]?) (hv : ∀ i, av' i → av i ∨ (w.heap.size ≤ i ∧ i < w'.heap.size)) : LDAt w' b s g o g2 o2 n c c2 v av' := by
  obtain ⟨a1, a2, a3, a4⟩ := h.out
  have lb := h.lt
  have lg := h.img.lt
  have lg2 := h.img2.lt
  have hout : ∀ j, j < w.heap.size → ¬ av j → ¬ av' j := fun j hj hn q => by
    rcases hv j q with q | q
    · exact hn q
    · omega
  refine ⟨(hk b lb a1).trans h.cells, h.len, h.len2, h.img.keep (hk g lg a2), h.img2.keep (hk g2 lg2 a3), h.wait.keep fun i e => hk i (h.wait.base_le i e).2 (a4 i e), h.apart, ⟨hout b lb a1, hout g lg a2, hout g2 lg2 a3, fun i e => hout i (h.wait.base_le i e).2 (a4 i e)⟩, fun i hi => ?_, h.ok, h.lo⟩
  rcases hv i hi with q | q
  · have := h.bound i q; omega
  · exact q.2
theorem LDAt.below {w w' : World} {b : Nat} {s : LS} {g o g2 o2 n c c2 : Nat} {v : Value} {av : Av} (h : LDAt w b s g o g2 o2 n c c2 v av) (hb : Below w.heap.size w w') : LDAt w' b s g o g2 o2 n c c2 v av := h.frame hb.size (fun i hi _ => hb.block i hi) fun _ h => .inl h
theorem LDAt.drew {w : World} {b : Nat} {s : LS} {g o g2 o2 n c c2 : Nat} {v : Value} {av : Av} (h : LDAt w b s g o g2 o2 n c c2 v av) : LDAt w.drew b s g o g2 o2 n c c2 v av := h.frame (Nat.le_refl _) (fun _ _ _ => rfl) fun _ h => .inl h
/-- Only the numbers turn. -/
theorem LDAt.upd {w w' : World} {b : Nat} {s : LS} {g o g2 o2 n c c2 : Nat} {v : Value} {av : Av} (h : LDAt w b s g o g2 o2 n c c2 v av) (acts : Nat) (left : Option Nat)
    (hb : w'.heap[b]? = some (.cells #[.slice (some ⟨g, o, none⟩) n c, .slice (some ⟨g2, o2, none⟩) n c2, v, .int .i64 (acts : Nat), .int .i64 (leftOf left)] 45 (0, 0)))
    (hs : w'.heap.size = w.heap.size) (hk : ∀ i, i ≠ b → w'.heap[i]? = w.heap[i]?) (ho : acts ≤ 1000000) (hl : ∀ k, left = some k → k ≤ 9223372036854775807) : LDAt w' b { s with acts := acts, left := left } g o g2 o2 n c c2 v av := by
  obtain ⟨a1, a2, a3, a4, a5, a6⟩ := h.apart
  exact ⟨hb, h.len, h.len2, h.img.keep (hk g (Ne.symm a1)), h.img2.keep (hk g2 (Ne.symm a2)), h.wait.keep fun i e => hk i (fun q => a4 (q ▸ e)), h.apart, h.out, fun i hi => by rw [hs]; exact h.bound i hi, ⟨h.ok.1, h.ok.2.1, h.ok.2.2.1, h.ok.2.2.2.1, ho⟩, hl⟩
/-- A block of what is safe. -/
theorem LDAt.set {w : World} {b : Nat} {s : LS} {g o g2 o2 n c c2 : Nat} {v : Value} {av : Av} (h : LDAt w b s g o g2 o2 n c c2 v av) {i : Nat} (hi : i < n) (X : Blk) : LDAt (w.setCells g (o + i * 256) (arr X).toList) b { s with safe := s.safe.set i X } g o g2 o2 n c c2 v av := by
  obtain ⟨a1, a2, a3, a4, a5, a6⟩ := h.apart
  exact ⟨(setCells_heap_ne g _ _ _ b a1).trans h.cells, by rw [List.length_set]; exact h.len, h.len2, h.img.set (by rw [← h.len]; exact hi) X, h.img2.keep (setCells_heap_ne g _ _ _ g2 (Ne.symm a3)), h.wait.keep fun i e => setCells_heap_ne g _ _ _ i (fun q => a5 (q ▸ e)), h.apart, h.out, fun i hi => by rw [setCells_size]; exact h.bound i hi, h.ok, h.lo⟩
/-- A block of what is newest. -/
theorem LDAt.set2 {w : World} {b : Nat} {s : LS} {g o g2 o2 n c c2 : Nat} {v : Value} {av : Av} (h : LDAt w b s g o g2 o2 n c c2 v av) {i : Nat} (hi : i < n) (X : Blk) : LDAt (w.setCells g2 (o2 + i * 256) (arr X).toList) b { s with now := s.now.set i X } g o g2 o2 n c c2 v av := by
  obtain ⟨a1, a2, a3, a4, a5, a6⟩ := h.apart
  exact ⟨(setCells_heap_ne g2 _ _ _ b a2).trans h.cells, h.len, by rw [List.length_set]; exact h.len2, h.img.keep (setCells_heap_ne g2 _ _ _ g a3), h.img2.set (by rw [← h.len2]; exact hi) X, h.wait.keep fun i e => setCells_heap_ne g2 _ _ _ i (fun q => a6 (q ▸ e)), h.apart, h.out, fun i hi => by rw [setCells_size]; exact h.bound i hi, h.ok, h.lo⟩
/-- The list goes. -/
theorem LDAt.clear {w : World} {b : Nat} {s : LS} {g o g2 o2 n c c2 : Nat} {v : Value} {av : Av} (h : LDAt w b s g o g2 o2 n c c2 v av) : LDAt (w.setCell ⟨b, 2, none⟩ (.slice none 0 0)) b { s with wait := [] } g o g2 o2 n c c2 (.slice none 0 0) av := by
  obtain ⟨a1, a2, a3, a4, a5, a6⟩ := h.apart
  refine ⟨?_, h.len, h.len2, h.img.keep (setCell_other _ _ _ _ _ (Ne.symm a1)), h.img2.keep (setCell_other _ _ _ _ _ (Ne.symm a2)), LOwn.nil _ _, ⟨a1, a2, a3, by simp [Value.ownBlock], by simp [Value.ownBlock], by simp [Value.ownBlock]⟩, ⟨h.out.1, h.out.2.1, h.out.2.2.1, by simp [Value.ownBlock]⟩, fun i hi => by rw [setCell_size]; exact h.bound i hi, ⟨h.ok.1, h.ok.2.1, by simp, by simp, h.ok.2.2.2.2⟩, h.lo⟩
  rw [heap_setCell_same _ b 2 _ _ _ h.cells]; rfl
/-- What D is: the struct says the state. -/
def lsOf (s : DS) : LS := ⟨s.safe, s.now, s.wait, s.acts, s.left⟩
def LD (w : World) (a : Addr) (s : DS) (av : Av) : Prop := (∃ b g o g2 o2 n c c2 v, a = ⟨b, 0, none⟩ ∧ LDAt w b (lsOf s) g o g2 o2 n c c2 v av) ∧ s.wait.length ≤ s.acts
end Go.Proofs.Ytaipcciokhkmnaa
