import Derived.Test.YtkolpdllogpklaaDkA
import Derived.RegionTactic
namespace Go.Proofs.Ytkolpdllogpklaa
open Go.RowKit

/-! The program's own disk: a struct of five cells: what is safe, what is newest, what waits, what was done, what is left. Here: what stands in memory, whatever it says. -/
theorem lwrite_info : (Try.prog.info? 89).map (fun i => (i.zero, i.size, i.bytes)) = some (some (.agg ⟨.int .i64 0 :: bytesOf (fun _ => 0) 256⟩), 257, 264) := by kernel_rfl
theorem lwrite_places : Try.prog.underlying 89 = some (.struct (Try.prog.fieldsOf 89)) := by kernel_rfl
theorem lwrite_offs : (Try.prog.fieldsOf 89).toList.mapM (fun f => (Try.prog.info? f.type).map fun i => (f.offset, i.size)) = some [(0, 1), (1, 256)] := by kernel_rfl
theorem build_lwrite (b : Int) (X : Blk) (w : World) : (Instr.build 89 #[(0, .int .i64 b), (1, .agg (arr X))]).run Try.prog w = .ok (.agg (wcell b X)) w :=
  run_build w _ _ _ (wait_built (z := ⟨.int .i64 0 :: bytesOf (fun _ => 0) 256⟩) (by
    obtain ⟨i, h1, h2⟩ := Option.map_eq_some_iff.1 lwrite_info
    rw [h1]
    simp only [Prod.mk.injEq] at h2
    rw [Option.map_some, h2.1]) lwrite_places (by show (Value.int .i64 0 :: bytesOf (fun _ => 0) 256).length = 257; rw [List.length_cons, bytesOf_length]) lwrite_offs b X)
set_option maxRecDepth 100000 in
theorem slice_lwrite (b : Int) (X : Blk) (w : World) : (Instr.buildSlice 32 1 #[(0, .agg (wcell b X))]).run Try.prog w = .ok (.slice (some ⟨w.heap.size, 0, none⟩) 1 1) (w.alloc (.cells (wcell b X) 89)) := by
  obtain ⟨i, h1, h2⟩ := Option.map_eq_some_iff.1 lwrite_info
  simp only [Prod.mk.injEq] at h2
  obtain ⟨hz, hs, _⟩ := h2
  refine run_buildSlice w _ _ 1 _ (wcell b X) i _ Try.underlying32 h1 hz (by rw [hs]; decide) (by rw [hs]; decide) ?_
  rw [hs]
  show Instr.fill _ _ [(0, .agg (wcell b X))] = _
  rw [fill_cons (off := 0) (size := 257) (by simp) (by show (wcell b X).size = 257; exact wcell_size b X) (by simp)]
  rw [Instr.fill]
  congr 1
  exact splice_whole (by simp [wcell_size, Value.cells])
def doBuildL (u v : Value) : Sem Value := Instr.build 89 #[(0, u), (1, v)]
def doSliceL (u : Value) : Sem Value := Instr.buildSlice 32 1 #[(0, u)]
@[go_sem ↓] theorem exec_buildL (ρ : Operand → Value) (dst : Option Tmp) (x y : Operand) (ty : TypeId) (pos : String) (after : Array Edge) (guard : Option (Nat × Bool)) :
    execOp ρ { dst, op := .build 89 #[(0, x), (1, y)], type := ty, pos, after, guard } = (do pure (.value (← doBuildL (ρ x) (ρ y)))) := by unfold execOp doBuildL; simp
@[go_sem ↓] theorem exec_sliceL (ρ : Operand → Value) (dst : Option Tmp) (x : Operand) (ty : TypeId) (pos : String) (after : Array Edge) (guard : Option (Nat × Bool)) :
    execOp ρ { dst, op := .buildSlice 32 1 #[(0, x)], type := ty, pos, after, guard } = (do pure (.value (← doSliceL (ρ x)))) := by unfold execOp doSliceL; simp
@[go_sem] theorem doBuildL_run (b : Int) (X : Blk) (w : World) : (doBuildL (.int .i64 b) (.agg (arr X))).run Try.prog w = .ok (.agg (wcell b X)) w := build_lwrite b X w
@[go_sem] theorem doSliceL_run (b : Int) (X : Blk) (w : World) : (doSliceL (.agg (wcell b X))).run Try.prog w = .ok (.slice (some ⟨w.heap.size, 0, none⟩) 1 1) (w.alloc (.cells (wcell b X) 89)) := slice_lwrite b X w

/-- The list of writes that wait. -/
def LOwn (w : World) (base : Nat) (v : Value) (W : Waits) : Prop := w.ownsRow base 89 257 v W.length (wcells W)
theorem LOwn.nil (w : World) (base : Nat) : LOwn w base (.slice none 0 0) [] := World.ownsRow_nil _ _ _ _
theorem LOwn.keep {w w' : World} {base : Nat} {v : Value} {W : Waits} (h : LOwn w base v W) (hk : ∀ g, v.ownBlock = some g → w'.heap[g]? = w.heap[g]?) : LOwn w' base v W := by
  obtain ⟨h1, h2⟩ := h
  refine ⟨h1, ?_⟩
  rcases h2 with h2 | ⟨g, cap, cur, rfl, hb, hg, rest⟩
  · exact .inl h2
  · exact .inr ⟨g, cap, cur, rfl, hb, (hk g rfl).trans hg, rest⟩
theorem LOwn.base_le {w : World} {base : Nat} {v : Value} {W : Waits} (h : LOwn w base v W) : ∀ g, v.ownBlock = some g → base ≤ g ∧ g < w.heap.size := by
  intro g e
  rcases h.2 with ⟨rfl, _⟩ | ⟨g', cap, cur, rfl, hb, hg, _⟩
  · simp [Value.ownBlock] at e
  · have : g' = g := by simpa [Value.ownBlock] using e
    subst this
    refine ⟨hb, ?_⟩
    rcases Nat.lt_or_ge g' w.heap.size with h | h
    · exact h
    · rw [Array.getElem?_eq_none h] at hg; cases hg
theorem LOwn.shape {w : World} {base : Nat} {v : Value} {W : Waits} (h : LOwn w base v W) : ∃ A c, v = .slice A W.length c := by
  rcases h.2 with ⟨rfl, h0⟩ | ⟨g', cap, cur, rfl, _⟩
  · exact ⟨none, 0, by rw [h0]⟩
  · exact ⟨_, _, rfl⟩
theorem LOwn.cell {w : World} {base : Nat} {v : Value} {W : Waits} (h : LOwn w base v W) {g : Nat} (hg : v.ownBlock = some g) {k : Nat} {p : Nat × Blk} (hp : W[k]? = some p) : w.cell? ⟨g, k * 257, none⟩ = some (.int .i64 (p.1 : Int)) ∧ At w g (k * 257 + 1) p.2 := by
  have hc := World.ownsRow.cells h hg
  have hadd : ∀ j, (⟨g, 0, none⟩ : Addr).add j = ⟨g, j, none⟩ := fun j => by unfold Addr.add; split <;> simp_all
  refine ⟨?_, At.of fun i hi => ?_⟩
  · have h0 := wcells_get W k 0 p hp (by omega)
    rw [wcell_zero, Nat.add_zero] at h0
    have := hc _ _ h0
    rw [hadd] at this
    exact this
  · have := hc (k * 257 + (i + 1)) (.int .u8 ((p.2.f i : Nat) : Int)) (by rw [wcells_get W k (i + 1) p hp (by omega), wcell_succ, arr_get hi])
    rw [hadd] at this
    rw [show k * 257 + 1 + i = k * 257 + (i + 1) by omega]
    exact this

/-- What the struct holds. -/
structure LS where
  safe : List Blk
  now : List Blk
  wait : Waits
  acts : Nat
  left : Option Nat
structure LDAt (w : World) (b : Nat) (s : LS) (g o g2 o2 n c c2 : Nat) (v : Value) (av : Av) : Prop where
  cells : w.heap[b]? = some (.cells #[.slice (some ⟨g, o, none⟩) n c, .slice (some ⟨g2, o2, none⟩) n c2, v, .int .i64 (s.acts : Nat), .int .i64 (leftOf s.left)] 34 (0, 0))
  len : n = s.safe.length
  len2 : n = s.now.length
  img : OImg w g o s.safe
  img2 : OImg w g2 o2 s.now
  wait : LOwn w 0 v s.wait
  apart : b ≠ g ∧ b ≠ g2 ∧ g ≠ g2 ∧ v.ownBlock ≠ some b ∧ v.ownBlock ≠ some g ∧ v.ownBlock ≠ some g2
  out : ¬ av b ∧ ¬ av g ∧ ¬ av g2 ∧ ∀ i, v.ownBlock = some i → ¬ av i
  bound : ∀ i, av i → i < w.heap.size
  ok : 1 ≤ n ∧ n ≤ 2048 ∧ (∀ p ∈ s.wait, p.1 < n) ∧ s.wait.length ≤ 1000000 ∧ s.acts ≤ 1000000
  lo : ∀ k, s.left = some k → k ≤ 9223372036854775807
theorem LDAt.lt {w : World} {b : Nat} {s : LS} {g o g2 o2 n c c2 : Nat} {v : Value} {av : Av} (h : LDAt w b s g o g2 o2 n c c2 v av) : b < w.heap.size := by
  rcases Nat.lt_or_ge b w.heap.size with q | q
  · exact q
  · have := h.cells; rw [Array.getElem?_eq_none q] at this; cases this
theorem LDAt.frame {w w' : World} {b : Nat} {s : LS} {g o g2 o2 n c c2 : Nat} {v : Value} {av av' : Av} (h : LDAt w b s g o g2 o2 n c c2 v av) (hs : w.heap.size ≤ w'.heap.size) (hk : ∀ i, i < w.heap.size → ¬ av i → w'.heap[i]? = w.heap[i]?) (hv : ∀ i, av' i → av i ∨ (w.heap.size ≤ i ∧ i < w'.heap.size)) : LDAt w' b s g o g2 o2 n c c2 v av' := by
  obtain ⟨a1, a2, a3, a4⟩ := h.out
  have lb := h.lt
  have lg := h.img.lt
  have lg2 := h.img2.lt
  have hout : ∀ j, j < w.heap.size → ¬ av j → ¬ av' j := fun j hj hn q => by
    rcases hv j q with q | q
    · exact hn q
    · omega
  refine ⟨(hk b lb a1).trans h.cells, h.len, h.len2, h.img.keep (hk g lg a2), h.img2.keep (hk g2 lg2 a3), h.wait.keep fun i e => hk i (h.wait.base_le i e).2 (a4 i e), h.apart, ⟨hout b lb a1, hout g lg a2, hout g2 lg2 a3, fun i e => hout i (h.wait.base_le i e).2 (a4 i e)⟩, fun i hi => ?_, h.ok, h.lo⟩
  rcases hv i hi with q | q
  · have := h.bound i q; omega
  · exact q.2
theorem LDAt.below {w w' : World} {b : Nat} {s : LS} {g o g2 o2 n c c2 : Nat} {v : Value} {av : Av} (h : LDAt w b s g o g2 o2 n c c2 v av) (hb : Below w.heap.size w w') : LDAt w' b s g o g2 o2 n c c2 v av := h.frame hb.size (fun i hi _ => hb.block i hi) fun _ h => .inl h
theorem LDAt.drew {w : World} {b : Nat} {s : LS} {g o g2 o2 n c c2 : Nat} {v : Value} {av : Av} (h : LDAt w b s g o g2 o2 n c c2 v av) : LDAt w.drew b s g o g2 o2 n c c2 v av := h.frame (Nat.le_refl _) (fun _ _ _ => rfl) fun _ h => .inl h
/-- Only the numbers turn. -/
theorem LDAt.upd {w w' : World} {b : Nat} {s : LS} {g o g2 o2 n c c2 : Nat} {v : Value} {av : Av} (h : LDAt w b s g o g2 o2 n c c2 v av) (acts : Nat) (left : Option Nat)
    (hb : w'.heap[b]? = some (.cells #[.slice (some ⟨g, o, none⟩) n c, .slice (some ⟨g2, o2, none⟩) n c2, v, .int .i64 (acts : Nat), .int .i64 (leftOf left)] 34 (0, 0)))
    (hs : w'.heap.size = w.heap.size) (hk : ∀ i, i ≠ b → w'.heap[i]? = w.heap[i]?) (ho : acts ≤ 1000000) (hl : ∀ k, left = some k → k ≤ 9223372036854775807) : LDAt w' b { s with acts := acts, left := left } g o g2 o2 n c c2 v av := by
  obtain ⟨a1, a2, a3, a4, a5, a6⟩ := h.apart
  exact ⟨hb, h.len, h.len2, h.img.keep (hk g (Ne.symm a1)), h.img2.keep (hk g2 (Ne.symm a2)), h.wait.keep fun i e => hk i (fun q => a4 (q ▸ e)), h.apart, h.out, fun i hi => by rw [hs]; exact h.bound i hi, ⟨h.ok.1, h.ok.2.1, h.ok.2.2.1, h.ok.2.2.2.1, ho⟩, hl⟩
/-- A block of what is safe. -/
theorem LDAt.set {w : World} {b : Nat} {s : LS} {g o g2 o2 n c c2 : Nat} {v : Value} {av : Av} (h : LDAt w b s g o g2 o2 n c c2 v av) {i : Nat} (hi : i < n) (X : Blk) : LDAt (w.setCells g (o + i * 256) (arr X).toList) b { s with safe := s.safe.set i X } g o g2 o2 n c c2 v av := by
  obtain ⟨a1, a2, a3, a4, a5, a6⟩ := h.apart
  exact ⟨(setCells_heap_ne g _ _ _ b a1).trans h.cells, by rw [List.length_set]; exact h.len, h.len2, h.img.set (by rw [← h.len]; exact hi) X, h.img2.keep (setCells_heap_ne g _ _ _ g2 (Ne.symm a3)), h.wait.keep fun i e => setCells_heap_ne g _ _ _ i (fun q => a5 (q ▸ e)), h.apart, h.out, fun i hi => by rw [setCells_size]; exact h.bound i hi, h.ok, h.lo⟩
/-- A block of what is newest. -/
theorem LDAt.set2 {w : World} {b : Nat} {s : LS} {g o g2 o2 n c c2 : Nat} {v : Value} {av : Av} (h : LDAt w b s g o g2 o2 n c c2 v av) {i : Nat} (hi : i < n) (X : Blk) : LDAt (w.setCells g2 (o2 + i * 256) (arr X).toList) b { s with now := s.now.set i X } g o g2 o2 n c c2 v av := by
  obtain ⟨a1, a2, a3, a4, a5, a6⟩ := h.apart
  exact ⟨(setCells_heap_ne g2 _ _ _ b a2).trans h.cells, h.len, by rw [List.length_set]; exact h.len2, h.img.keep (setCells_heap_ne g2 _ _ _ g a3), h.img2.set (by rw [← h.len2]; exact hi) X, h.wait.keep fun i e => setCells_heap_ne g2 _ _ _ i (fun q => a6 (q ▸ e)), h.apart, h.out, fun i hi => by rw [setCells_size]; exact h.bound i hi, h.ok, h.lo⟩
/-- The list goes. -/
theorem LDAt.clear {w : World} {b : Nat} {s : LS} {g o g2 o2 n c c2 : Nat} {v : Value} {av : Av} (h : LDAt w b s g o g2 o2 n c c2 v av) : LDAt (w.setCell ⟨b, 2, none⟩ (.slice none 0 0)) b { s with wait := [] } g o g2 o2 n c c2 (.slice none 0 0) av := by
  obtain ⟨a1, a2, a3, a4, a5, a6⟩ := h.apart
  refine ⟨?_, h.len, h.len2, h.img.keep (setCell_other _ _ _ _ _ (Ne.symm a1)), h.img2.keep (setCell_other _ _ _ _ _ (Ne.symm a2)), LOwn.nil _ _, ⟨a1, a2, a3, by simp [Value.ownBlock], by simp [Value.ownBlock], by simp [Value.ownBlock]⟩, ⟨h.out.1, h.out.2.1, h.out.2.2.1, by simp [Value.ownBlock]⟩, fun i hi => by rw [setCell_size]; exact h.bound i hi, ⟨h.ok.1, h.ok.2.1, by simp, by simp, h.ok.2.2.2.2⟩, h.lo⟩
  rw [heap_setCell_same _ b 2 _ _ _ h.cells]; rfl
/-- What D is: the struct says the state. -/
def lsOf (s : DS) : LS := ⟨s.safe, s.now, s.wait, s.acts, s.left⟩
def LD (w : World) (a : Addr) (s : DS) (av : Av) : Prop := (∃ b g o g2 o2 n c c2 v, a = ⟨b, 0, none⟩ ∧ LDAt w b (lsOf s) g o g2 o2 n c c2 v av) ∧ s.wait.length ≤ s.acts
end Go.Proofs.Ytkolpdllogpklaa
namespace Go.Proofs.Ytkolpdllogpklaa
open Go.RowKit

theorem ldisk_under : Try.prog.underlying 34 = some (.struct (Try.prog.fieldsOf 34)) := by kernel_rfl
section
variable (w : World) (b : Nat) (s : LS) (g o g2 o2 n c c2 : Nat) (v : Value) (av : Av)
theorem LDAt.c0 {w : World} {b : Nat} {s : LS} {g o g2 o2 n c c2 : Nat} {v : Value} {av : Av} (h : LDAt w b s g o g2 o2 n c c2 v av) : w.cell? ⟨b, 0, none⟩ = some (.slice (some ⟨g, o, none⟩) n c) := (cell_of_row w b 0 _ _ (0, 0) h.cells).trans (by rfl)
theorem LDAt.c1 {w : World} {b : Nat} {s : LS} {g o g2 o2 n c c2 : Nat} {v : Value} {av : Av} (h : LDAt w b s g o g2 o2 n c c2 v av) : w.cell? ⟨b, 1, none⟩ = some (.slice (some ⟨g2, o2, none⟩) n c2) := (cell_of_row w b 1 _ _ (0, 0) h.cells).trans (by rfl)
theorem LDAt.c2' {w : World} {b : Nat} {s : LS} {g o g2 o2 n c c2 : Nat} {v : Value} {av : Av} (h : LDAt w b s g o g2 o2 n c c2 v av) : w.cell? ⟨b, 2, none⟩ = some v := (cell_of_row w b 2 _ _ (0, 0) h.cells).trans (by rfl)
theorem LDAt.c3 {w : World} {b : Nat} {s : LS} {g o g2 o2 n c c2 : Nat} {v : Value} {av : Av} (h : LDAt w b s g o g2 o2 n c c2 v av) : w.cell? ⟨b, 3, none⟩ = some (.int .i64 (s.acts : Nat)) := (cell_of_row w b 3 _ _ (0, 0) h.cells).trans (by rfl)
theorem LDAt.c4 {w : World} {b : Nat} {s : LS} {g o g2 o2 n c c2 : Nat} {v : Value} {av : Av} (h : LDAt w b s g o g2 o2 n c c2 v av) : w.cell? ⟨b, 4, none⟩ = some (.int .i64 (leftOf s.left)) := (cell_of_row w b 4 _ _ (0, 0) h.cells).trans (by rfl)
theorem lMade_any (h : LDAt w b s g o g2 o2 n c c2 v av) :
    Calls Try.prog 42 #[.pointer (some ⟨b, 0, none⟩)] w fun e w' => e = .returned (.bool true) ∧ w' = w := by
  have c0 := h.c0
  have h1 : (0 : Int) < n := by have := h.ok.1; omega
  have t0 : decide ((0 : Int) < n) = true := by simp; omega
  have t1 : decide (0 < n) = true := by simp; omega
  clear h
  go_enter Try.func42, Try.ntmps42
  go_wp2
  go_ret
  exact ⟨rfl, rfl⟩
theorem lDead_any (h : LDAt w b s g o g2 o2 n c c2 v av) :
    Calls Try.prog 52 #[.pointer (some ⟨b, 0, none⟩)] w fun e w' => e = .returned (.bool (s.left == some 0)) ∧ w' = w := by
  have H := Lib.hid h
  have c4 := h.c4
  have E : Hid ((leftOf s.left == 0) = (s.left == some 0)) := Lib.hid (left_dead ⟨[], [], 0, s.left⟩)
  clear h
  go_enter Try.func52, Try.ntmps52
  go_wp2_with fail
  refine (lMade_any w b s g o g2 o2 n c c2 v av H.out).mono ?_
  rintro e w1 ⟨rfl, rfl⟩
  go_wp2_with fail
  go_ret
  exact ⟨by show Ending.returned (.bool (leftOf s.left == 0)) = _; rw [E.out], rfl⟩
theorem lPowerless_any (h : LDAt w b s g o g2 o2 n c c2 v av) :
    Calls Try.prog 47 #[.pointer (some ⟨b, 0, none⟩)] w fun e w' => e = .returned (.int .i64 (if s.left = some 0 then 30 else 0)) ∧ w' = w := by
  have H := Lib.hid h
  clear h
  by_cases hl : s.left = some 0
  · have E : Hid ((s.left == some 0) = true) := Lib.hid (by rw [hl]; rfl)
    rw [if_pos hl]
    clear hl
    go_enter Try.func47, Try.ntmps47
    go_wp2_with fail
    refine (lMade_any w b s g o g2 o2 n c c2 v av H.out).mono ?_
    rintro e w1 ⟨rfl, rfl⟩
    go_wp2_with fail
    refine (lDead_any w1 b s g o g2 o2 n c c2 v av H.out).mono ?_
    rintro e w1 ⟨rfl, rfl⟩
    rw [E.out]
    go_wp2_with fail
    go_ret
    exact ⟨rfl, rfl⟩
  · have E : Hid ((s.left == some 0) = false) := Lib.hid (by simp [hl])
    rw [if_neg hl]
    clear hl
    go_enter Try.func47, Try.ntmps47
    go_wp2_with fail
    refine (lMade_any w b s g o g2 o2 n c c2 v av H.out).mono ?_
    rintro e w1 ⟨rfl, rfl⟩
    go_wp2_with fail
    refine (lDead_any w1 b s g o g2 o2 n c c2 v av H.out).mono ?_
    rintro e w1 ⟨rfl, rfl⟩
    rw [E.out]
    go_wp2_with fail
    go_ret
    exact ⟨rfl, rfl⟩
def errOf (s : LS) (p : Int) : Int := if s.left = some 0 then 30 else if p < 0 ∨ (s.safe.length : Int) ≤ p then 2 else 0
theorem errOf_ls (s : DS) (p : Int) : errOf (lsOf s) p = s.err p := by
  unfold errOf DS.err DS.dead lsOf
  cases h : s.left with
  | none => simp
  | some k => cases k <;> simp
theorem lRefusal_any (p : Int) (h : LDAt w b s g o g2 o2 n c c2 v av) :
    Calls Try.prog 44 #[.pointer (some ⟨b, 0, none⟩), .int .i64 p] w fun e w' => e = .returned (.int .i64 (errOf s p)) ∧ w' = w := by
  have H := Lib.hid h
  have c0 := h.c0
  have HN := Lib.hid h.len
  clear h
  by_cases hl : s.left = some 0
  · have E : Hid (errOf s p = 30) := Lib.hid (by unfold errOf; rw [if_pos hl])
    have P := Lib.hid ((lPowerless_any w b s g o g2 o2 n c c2 v av H.out).mono fun e w' h => show e = .returned (.int .i64 30) ∧ w' = w by rw [if_pos hl] at h; exact h)
    clear hl
    go_enter Try.func44, Try.ntmps44
    go_wp2_with fail
    refine P.out.mono ?_
    rintro e w1 ⟨rfl, rfl⟩
    go_wp2_with fail
    go_ret
    exact ⟨by rw [E.out]; rfl, rfl⟩
  · have P := Lib.hid ((lPowerless_any w b s g o g2 o2 n c c2 v av H.out).mono fun e w' h => show e = .returned (.int .i64 0) ∧ w' = w by rw [if_neg hl] at h; exact h)
    by_cases h0 : p < 0
    · have t0 : decide (p < 0) = true := by simp; omega
      have E : Hid (errOf s p = 2) := Lib.hid (by unfold errOf; rw [if_neg hl, if_pos (.inl h0)])
      clear hl h0
      go_enter Try.func44, Try.ntmps44
      go_wp2_with fail
      refine P.out.mono ?_
      rintro e w1 ⟨rfl, rfl⟩
      go_wp2_with fail
      go_ret
      exact ⟨by rw [E.out]; rfl, rfl⟩
    · have t0 : decide (p < 0) = false := by simp; omega
      by_cases h1 : (n : Int) ≤ p
      · have t1 : decide ((n : Int) ≤ p) = true := by simp; omega
        have E : Hid (errOf s p = 2) := Lib.hid (by unfold errOf; rw [if_neg hl, if_pos (.inr (by rw [← HN.out]; exact h1))])
        clear hl h0 h1
        go_enter Try.func44, Try.ntmps44
        go_wp2_with fail
        refine P.out.mono ?_
        rintro e w1 ⟨rfl, rfl⟩
        go_wp2_with fail
        go_ret
        exact ⟨by rw [E.out]; rfl, rfl⟩
      · have t1 : decide ((n : Int) ≤ p) = false := by simp; omega
        have E : Hid (errOf s p = 0) := Lib.hid (by unfold errOf; rw [if_neg hl, if_neg (by rw [← HN.out]; omega)])
        obtain ⟨k, rfl⟩ := Int.eq_ofNat_of_zero_le (show 0 ≤ p by omega)
        have t2 : decide (n ≤ k) = false := by simp; omega
        clear hl h0 h1
        go_enter Try.func44, Try.ntmps44
        go_wp2_with fail
        refine P.out.mono ?_
        rintro e w1 ⟨rfl, rfl⟩
        go_wp2_with fail
        go_ret
        exact ⟨by rw [E.out]; rfl, rfl⟩
theorem lBlocks_any (h : LDAt w b s g o g2 o2 n c c2 v av) :
    Calls Try.prog 32 #[.pointer (some ⟨b, 0, none⟩)] w fun e w' => e = .returned (.int .i64 (n : Nat)) ∧ w' = w := by
  have H := Lib.hid h
  have c0 := h.c0
  clear h
  go_enter Try.func32, Try.ntmps32
  go_wp2_with fail
  refine (lMade_any w b s g o g2 o2 n c c2 v av H.out).mono ?_
  rintro e w1 ⟨rfl, rfl⟩
  go_wp2_with fail
  go_ret
  exact ⟨rfl, rfl⟩
theorem lWaiting_any (A : Option Addr) (cv : Nat) (h : LDAt w b s g o g2 o2 n c c2 (.slice A s.wait.length cv) av) :
    Calls Try.prog 25 #[.pointer (some ⟨b, 0, none⟩)] w fun e w' => e = .returned (.int .i64 (s.wait.length : Nat)) ∧ w' = w := by
  have H := Lib.hid h
  have c2 := h.c2'
  clear h
  go_enter Try.func25, Try.ntmps25
  go_wp2_with fail
  refine (lMade_any w b s g o g2 o2 n c _ _ av H.out).mono ?_
  rintro e w1 ⟨rfl, rfl⟩
  go_wp2_with fail
  go_ret
  exact ⟨rfl, rfl⟩
theorem lActed_any (h : LDAt w b s g o g2 o2 n c c2 v av) (hd : s.left ≠ some 0) (ha : s.acts < 1000000) :
    Calls Try.prog 46 #[.pointer (some ⟨b, 0, none⟩)] w fun e w' => e = .returned noResult ∧ LDAt w' b { s with acts := s.acts + 1, left := s.left.map (· - 1) } g o g2 o2 n c c2 v av ∧ Keep av w w' := by
  have c3 := h.c3
  have c4 := h.c4
  have f3 := row_frozen (k := 3) h.cells
  have f4 := row_frozen (k := 4) h.cells
  have H := Lib.hid h
  clear h
  cases hl : s.left with
  | none =>
    rw [hl] at c4
    clear hd
    have c5 : leftOf none = -1 := rfl
    rw [c5] at c4
    have HL := Lib.hid hl
    clear hl
    go_enter Try.func46, Try.ntmps46
    go_wp2
    refine bodyPost_end (results_none Try.results46 _ _ _) rfl ⟨rfl, ?_, rKeep H.out.out.1 _ _⟩
    refine H.out.upd (s.acts + 1) none ?_ ?_ ?_ (by omega) (by simp)
    · rw [heap_setCell_same _ b 3 _ _ _ H.out.cells, HL.out]; rfl
    · rw [setCell_size]
    · intro i hi; rw [setCell_other _ _ _ _ _ hi]
  | some k =>
    rw [hl] at c4
    have hk : 0 < k := by rcases Nat.eq_zero_or_pos k with q | q; subst q; exact absurd hl hd; exact q
    have hk2 := H.out.lo k hl
    have HL := Lib.hid hl
    clear hl hd
    have c5 : leftOf (some k) = (k : Nat) := rfl
    have c6 : leftOf (some (k - 1)) = (k : Int) - 1 := by unfold leftOf; dsimp only; omega
    rw [c5] at c4
    have t0 : ((k : Int) != -1) = true := by rw [bne_iff_ne]; omega
    have t1 : ((k : Int) == -1) = false := by rw [beq_eq_false_iff_ne]; omega
    go_enter Try.func46, Try.ntmps46
    go_wp2
    refine bodyPost_end (results_none Try.results46 _ _ _) rfl ⟨rfl, ?_, (rKeep H.out.out.1 _ _).trans (rKeep H.out.out.1 _ _)⟩
    refine H.out.upd (s.acts + 1) (some (k - 1)) ?_ ?_ ?_ (by omega) (by intro q hq; cases hq; omega)
    · rw [heap_setCell_same _ b 4 _ _ _ (heap_setCell_same _ b 3 _ _ _ H.out.cells), c6]; rfl
    · rw [setCell_size, setCell_size]
    · intro i hi; rw [setCell_other _ _ _ _ _ hi, setCell_other _ _ _ _ _ hi]
end
end Go.Proofs.Ytkolpdllogpklaa
namespace Go.Proofs.Ytkolpdllogpklaa
open Go.RowKit

theorem madeBlks_size (n : Nat) : (madeBlks n).size = n * 256 := by unfold madeBlks; exact size_madeCells _ _
theorem wpList_copy_blks {w : World} {ops : Array Oper} {rest : List Oper} {op : Oper} {a : Act} {Q : Exit → Act → World → Prop} (hgd : op.guard = none) (d s : Operand)
    (ho : op.op = .call { callee := .builtin .copy, args := #[d, s], argTypes := #[31, 31] })
    (g n dCap sg so sCap : Nat) (hd : a.eval d = .slice (some ⟨g, 0, none⟩) n dCap) (hs : a.eval s = .slice (some ⟨sg, so, none⟩) n sCap)
    (cur : Array Value) (t : TypeId) (hg : w.heap[g]? = some (.cells cur t (0, 0))) (hc : cur.size = n * 256) (l : List Blk) (hn : l.length = n) (hsrc : ∀ i x, l[i]? = some x → At w sg (so + i * 256) x)
    (B : Nat) (w0 : World) (hb : Below B w0 w) (hBg : B ≤ g)
    (h : ∀ w', w'.heap.size = w.heap.size → (∀ k, k ≠ g → w'.heap[k]? = w.heap[k]?) → Hid (OImg w' g 0 l) → Below B w0 w' → wpList Try.prog ops Q rest (a.put op.dst (goInt n)) w') : wpList Try.prog ops Q (op :: rest) a w := by
  refine wpList_plain hgd fun K hK => ?_
  obtain ⟨cur', hrun, himg⟩ := run_copy_blks w 31 31 op.type 41 g n dCap sg so sCap cur t l Try.underlying31 blk_size hg hc hn hsrc
  unfold Oper.wp
  simp [execOp, ho, resolve, invoke, builtin, hd, hs, hrun, Result.andThen]
  exact hK _ _ (h _ (by simp [World.setRow]) (fun k hk => setRow_other w g k _ hk) himg (below_setRow hb hBg _))
set_option maxRecDepth 100000 in
theorem lCopied_any (w : World) (g o n c : Nat) (l : List Blk) (hl : l.length = n) (h1 : 1 ≤ n) (h2 : n ≤ 2048) (hi : OImg w g o l) :
    Calls Try.prog 43 #[.slice (some ⟨g, o, none⟩) n c] w fun e w' => e = .returned (.slice (some ⟨w.heap.size, 0, none⟩) n n) ∧ OImg w' w.heap.size 0 l ∧ Below w.heap.size w w' := by
  have HI := Lib.hid hi
  have HL := Lib.hid hl
  clear hi hl
  have hmk := fun W => make_blks .i64 .i64 n (by omega) W
  go_enter Try.func43, Try.ntmps43
  go_wp2_with (first
    | (refine wpList_copy_blks rfl (.tmp 7) (.tmp 8) rfl w.heap.size n n g o c rfl rfl (madeBlks n) 41 (heap_alloc_new w _) (madeBlks_size n) l HL.out (fun i x hx => (HI.out.at hx).alloc _) w.heap.size w ((Below.refl _ _).alloc (Nat.le_refl _) _) (Nat.le_refl _) ?_; intro w' hs' ho' hi' hb'; have HB := Lib.hid hb'; clear hs' ho' hb'))
  go_ret
  exact ⟨rfl, hi'.out, HB.out⟩
section
variable (w : World) (b : Nat) (s : LS) (g o g2 o2 n c c2 : Nat) (v : Value) (av : Av)
theorem lSafe_any (h : LDAt w b s g o g2 o2 n c c2 v av) :
    Calls Try.prog 24 #[.pointer (some ⟨b, 0, none⟩)] w fun e w' => e = .returned (.slice (some ⟨w.heap.size, 0, none⟩) n n) ∧ OImg w' w.heap.size 0 s.safe ∧ Below w.heap.size w w' := by
  have H := Lib.hid h
  have c0 := h.c0
  clear h
  go_enter Try.func24, Try.ntmps24
  go_wp2_with fail
  refine (lMade_any w b s g o g2 o2 n c c2 v av H.out).mono ?_
  rintro e w1 ⟨rfl, rfl⟩
  go_wp2_with fail
  refine (lCopied_any w1 g o n c s.safe H.out.len.symm H.out.ok.1 H.out.ok.2.1 H.out.img).mono ?_
  rintro e w2 ⟨rfl, hi, hb⟩
  have HI := Lib.hid hi
  have HB := Lib.hid hb
  clear hi hb
  go_wp2_with fail
  go_ret
  exact ⟨rfl, HI.out, HB.out⟩
noncomputable def readOf (s : LS) (p : Int) : Blk := if errOf s p = 0 then s.now.getD p.toNat .zero else .zero
set_option maxRecDepth 100000 in
theorem lRead_any (p : Int) (h : LDAt w b s g o g2 o2 n c c2 v av) :
    Calls Try.prog 28 #[.pointer (some ⟨b, 0, none⟩), .int .i64 p] w fun e w' => e = .returned (.tuple #[.agg (arr (readOf s p)), .int .i64 (errOf s p)]) ∧ Below w.heap.size w w' := by
  have hz := fun W => zero_blk W
  have B0 := (Below.refl w.heap.size w).alloc (Nat.le_refl _) (.cells (arr .zero) 41)
  have H1 := Lib.hid (h.below B0)
  have B1 := Lib.hid B0
  clear h B0
  have c1 := H1.out.c1
  have R := Lib.hid (lRefusal_any _ b s g o g2 o2 n c c2 v av p H1.out)
  by_cases he : errOf s p = 0
  · have hp : s.left ≠ some 0 ∧ 0 ≤ p ∧ p < n := by
      have := H1.out.len
      unfold errOf at he
      split at he
      · omega
      · split at he
        · omega
        · exact ⟨by assumption, by omega, by omega⟩
    obtain ⟨k, rfl⟩ := Int.eq_ofNat_of_zero_le hp.2.1
    have hk : k < n := by omega
    have j1 : (0 : Int) ≤ k := by omega
    have j2 : (k : Int) < n := by omega
    obtain ⟨X, hX⟩ : ∃ X, s.now[k]? = some X := ⟨_, List.getElem?_eq_getElem (by rw [← H1.out.len2]; exact hk)⟩
    have hr : Hid (readOf s k = X) := Lib.hid (by unfold readOf; rw [if_pos he, Int.toNat_natCast, List.getD_eq_getElem?_getD, hX]; rfl)
    have hat := H1.out.img2.at hX
    rw [he] at R
    have HE := Lib.hid he
    clear he hX hp
    go_enter Try.func28, Try.ntmps28
    go_wp2_with fail
    refine R.out.mono ?_
    rintro e w1 ⟨rfl, rfl⟩
    go_wp2_with (first
      | (refine load_blk rfl (.tmp 19) rfl g2 (o2 + k * 256) rfl X hat ?_)
      | (refine store_row rfl (.tmp 4) (.tmp 20) rfl w.heap.size X .zero 41 rfl rfl (heap_alloc_new w _) ?_))
    exact bodyPost_ret (v := .tuple #[.agg (arr X), .int .i64 0]) (results_blk_tmp Try.results28 _ _ w.heap.size X _ rfl (setRow_heap _ _ _ _ _ _ (heap_alloc_new w _))) rfl ⟨by rw [HE.out, hr.out], below_setRow B1.out (Nat.le_refl _) _⟩
  · have hr : Hid (readOf s p = .zero) := Lib.hid (by unfold readOf; rw [if_neg he])
    obtain ⟨q, hq⟩ : ∃ q, errOf s p = q := ⟨_, rfl⟩
    rw [hq] at R he
    have t0 : (q != 0) = true := by rw [bne_iff_ne]; exact he
    have t1 : (q == 0) = false := by rw [beq_eq_false_iff_ne]; exact he
    have HE := Lib.hid hq
    clear he hq
    go_enter Try.func28, Try.ntmps28
    go_wp2_with fail
    refine R.out.mono ?_
    rintro e w1 ⟨rfl, rfl⟩
    go_wp2_with (first
      | (refine build_zero_w rfl rfl ?_)
      | (refine store_row rfl (.tmp 4) (.tmp 12) rfl w.heap.size .zero .zero 41 rfl rfl (heap_alloc_new w _) ?_))
    exact bodyPost_ret (v := .tuple #[.agg (arr .zero), .int .i64 q]) (results_blk_tmp Try.results28 _ _ w.heap.size .zero _ rfl (setRow_heap _ _ _ _ _ _ (heap_alloc_new w _))) rfl ⟨by rw [HE.out, hr.out], below_setRow B1.out (Nat.le_refl _) _⟩
end
end Go.Proofs.Ytkolpdllogpklaa
namespace Go.Proofs.Ytkolpdllogpklaa
open Go.RowKit

structure NewAt (w : World) (b g g2 n base : Nat) : Prop where
  cells : w.heap[b]? = some (.cells #[.slice (some ⟨g, 0, none⟩) n n, .slice (some ⟨g2, 0, none⟩) n n, .slice none 0 0, .int .i64 0, .int .i64 (-1)] 34 (0, 0))
  r1 : w.heap[g]? = some (.cells (madeBlks n) 41 (0, 0))
  r2 : w.heap[g2]? = some (.cells (madeBlks n) 41 (0, 0))
  ne : b ≠ g ∧ b ≠ g2 ∧ g ≠ g2
  lo : base ≤ b ∧ base ≤ g ∧ base ≤ g2
  hi : b < w.heap.size ∧ g < w.heap.size ∧ g2 < w.heap.size
theorem lNew_no (n : Int) (w : World) (h : n < 1 ∨ 2048 < n) : Calls Try.prog 22 #[.int .i64 n] w fun e w' => e = .returned (.tuple #[.pointer none, .int .i64 2]) ∧ w' = w := by
  by_cases h0 : n < 1
  · have t0 : decide (n < 1) = true := by simp; omega
    go_enter Try.func22, Try.ntmps22
    go_wp2
    refine bodyPost_ret (results_tmp2 Try.results22 _ _ _) rfl ?_
    exact ⟨rfl, rfl⟩
  · have t0 : decide (n < 1) = false := by simp; omega
    have t1 : decide (2048 < n) = true := by simp; omega
    go_enter Try.func22, Try.ntmps22
    go_wp2
    refine bodyPost_ret (results_tmp2 Try.results22 _ _ _) rfl ?_
    exact ⟨rfl, rfl⟩
theorem NewAt.drew {w : World} {b g g2 n base : Nat} (h : NewAt w b g g2 n base) : NewAt w.drew b g g2 n base := ⟨h.cells, h.r1, h.r2, h.ne, h.lo, h.hi⟩
theorem newAt_a {w : World} {n : Nat} (o1 o2 o3 : Obj) (h1 : o1 = .cells (madeBlks n) 41 (0, 0)) (h2 : o2 = .cells (madeBlks n) 41 (0, 0)) (h3 : o3 = .cells #[.slice (some ⟨w.heap.size, 0, none⟩) n n, .slice (some ⟨w.heap.size + 1, 0, none⟩) n n, .slice none 0 0, .int .i64 0, .int .i64 (-1)] 34 (0, 0)) : NewAt (((w.alloc o1).alloc o2).alloc o3) (w.heap.size + 2) w.heap.size (w.heap.size + 1) n w.heap.size := by
  have e2 : ((w.alloc o1).alloc o2).heap.size = w.heap.size + 2 := by simp
  have e1 : (w.alloc o1).heap.size = w.heap.size + 1 := by simp
  refine ⟨?_, ?_, ?_, ⟨by omega, by omega, by omega⟩, ⟨by omega, by omega, by omega⟩, ⟨by simp, by simp; omega, by simp⟩⟩
  · rw [← e2, heap_alloc_new, h3]
  · rw [heap_alloc_old _ _ (by omega), heap_alloc_old _ _ (by omega), heap_alloc_new, h1]
  · rw [heap_alloc_old _ _ (by omega), ← e1, heap_alloc_new, h2]
theorem newAt_b {w : World} {n : Nat} (o1 o2 o3 : Obj) (h1 : o1 = .cells (madeBlks n) 41 (0, 0)) (h2 : o2 = .cells (madeBlks n) 41 (0, 0)) (h3 : o3 = .cells #[.slice (some ⟨w.heap.size + 1, 0, none⟩) n n, .slice (some ⟨w.heap.size, 0, none⟩) n n, .slice none 0 0, .int .i64 0, .int .i64 (-1)] 34 (0, 0)) : NewAt (((w.alloc o1).alloc o2).alloc o3) (w.heap.size + 2) (w.heap.size + 1) w.heap.size n w.heap.size := by
  have e2 : ((w.alloc o1).alloc o2).heap.size = w.heap.size + 2 := by simp
  have e1 : (w.alloc o1).heap.size = w.heap.size + 1 := by simp
  refine ⟨?_, ?_, ?_, ⟨by omega, by omega, by omega⟩, ⟨by omega, by omega, by omega⟩, ⟨by simp, by simp, by simp; omega⟩⟩
  · rw [← e2, heap_alloc_new, h3]
  · rw [heap_alloc_old _ _ (by omega), ← e1, heap_alloc_new, h2]
  · rw [heap_alloc_old _ _ (by omega), heap_alloc_old _ _ (by omega), heap_alloc_new, h1]
set_option maxRecDepth 100000 in
theorem lNew_yes (n : Nat) (w : World) (h1 : 1 ≤ n) (h2 : n ≤ 2048) : Calls Try.prog 22 #[.int .i64 (n : Int)] w fun e w' => (∃ b g g2, e = .returned (.tuple #[.pointer (some ⟨b, 0, none⟩), .int .i64 0]) ∧ NewAt w' b g g2 n w.heap.size) ∧ Below w.heap.size w w' := by
  have t0 : decide ((n : Int) < 1) = false := by simp; omega
  have t1 : decide (2048 < (n : Int)) = false := by simp; omega
  have t2 : decide (n < 1) = false := by simp; omega
  have t3 : decide (2048 < n) = false := by simp; omega
  have hmk := fun W => make_blks .i64 .i64 n (by omega) W
  go_enter Try.func22, Try.ntmps22
  go_wp2
  go_region
  all_goals go_wp2
  · exact bodyPost_ret (results_tmp2 Try.results22 _ _ _) rfl ⟨⟨w.heap.size + 2, w.heap.size, w.heap.size + 1, rfl, (newAt_a _ _ _ rfl rfl rfl).drew⟩, ((((Below.refl _ w).alloc (Nat.le_refl _) _).alloc (by simp) _).alloc (by simp; omega) _).drew⟩
  · exact bodyPost_ret (results_tmp2 Try.results22 _ _ _) rfl ⟨⟨w.heap.size + 2, w.heap.size + 1, w.heap.size, rfl, (newAt_b _ _ _ rfl rfl rfl).drew⟩, ((((Below.refl _ w).alloc (Nat.le_refl _) _).alloc (by simp) _).alloc (by simp; omega) _).drew⟩
/-- The struct as it was made, or with images copied in. -/
theorem NewAt.disk {w0 w w' : World} {b g g2 n : Nat} {l l2 : List Blk} (h : NewAt w b g g2 n w0.heap.size) (hs : w'.heap.size = w.heap.size) (hc : w'.heap[b]? = w.heap[b]?) (h1 : OImg w' g 0 l) (h2 : OImg w' g2 0 l2) (hl : n = l.length) (hl2 : n = l2.length) (hn : 1 ≤ n) (hm : n ≤ 2048) (av : Av) (hav : ∀ i, av i → i < w0.heap.size) (hw : w0.heap.size ≤ w.heap.size) : LDAt w' b ⟨l, l2, [], 0, none⟩ g 0 g2 0 n n n (.slice none 0 0) av := by
  obtain ⟨n1, n2, n3⟩ := h.ne
  obtain ⟨l1, l2', l3⟩ := h.lo
  have hout : ∀ i, w0.heap.size ≤ i → ¬ av i := fun i hi q => by have := hav i q; omega
  exact ⟨hc.trans h.cells, hl, hl2, h1, h2, LOwn.nil _ _, ⟨n1, n2, n3, by simp [Value.ownBlock], by simp [Value.ownBlock], by simp [Value.ownBlock]⟩, ⟨hout b l1, hout g l2', hout g2 l3, by simp [Value.ownBlock]⟩, fun i hi => by have := hav i hi; omega, ⟨hn, hm, by simp, by simp, by simp⟩, by simp⟩
end Go.Proofs.Ytkolpdllogpklaa
