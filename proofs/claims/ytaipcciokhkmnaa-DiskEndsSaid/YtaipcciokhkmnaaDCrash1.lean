import Derived.Test.YtaipcciokhkmnaaDAwake
import Derived.Test.YtaipcciokhkmnaaFillIn
import Derived.Deep.AppendLies
import Derived.OwnWalk
namespace Go.Proofs.Ytaipcciokhkmnaa
open Go.RowKit

/-! The list of writes that wait, as the statement keeps it. -/
theorem wait_info : (Try.prog.info? 59).map (fun i => (i.zero, i.size, i.bytes)) = some (some (.agg ⟨.int .i64 0 :: bytesOf (fun _ => 0) 256⟩), 257, 264) := by kernel_rfl
theorem wait_places : Try.prog.underlying 59 = some (.struct (Try.prog.fieldsOf 59)) := by kernel_rfl
theorem wait_offs : (Try.prog.fieldsOf 59).toList.mapM (fun f => (Try.prog.info? f.type).map fun i => (f.offset, i.size)) = some [(0, 1), (1, 256)] := by kernel_rfl
theorem build_wait (b : Int) (X : Blk) (w : World) : (Instr.build 59 #[(0, .int .i64 b), (1, .agg (arr X))]).run Try.prog w = .ok (.agg (wcell b X)) w :=
  run_build w _ _ _ (wait_built (z := ⟨.int .i64 0 :: bytesOf (fun _ => 0) 256⟩) (by
    obtain ⟨i, h1, h2⟩ := Option.map_eq_some_iff.1 wait_info
    rw [h1]
    simp only [Prod.mk.injEq] at h2
    rw [Option.map_some, h2.1]) wait_places (by show (Value.int .i64 0 :: bytesOf (fun _ => 0) 256).length = 257; rw [List.length_cons, bytesOf_length]) wait_offs b X)
theorem slice_wait (b : Int) (X : Blk) (w : World) : (Instr.buildSlice 57 1 #[(0, .agg (wcell b X))]).run Try.prog w = .ok (.slice (some ⟨w.heap.size, 0, none⟩) 1 1) (w.alloc (.cells (wcell b X) 59)) := by
  obtain ⟨i, h1, h2⟩ := Option.map_eq_some_iff.1 wait_info
  simp only [Prod.mk.injEq] at h2
  obtain ⟨hz, hs, _⟩ := h2
  refine run_buildSlice w _ _ 1 _ (wcell b X) i _ Try.underlying57 h1 hz (by rw [hs]; decide) (by rw [hs]; decide) ?_
  rw [hs]
  show Instr.fill _ _ [(0, .agg (wcell b X))] = _
  rw [fill_cons (off := 0) (size := 257) (by simp) (by show (wcell b X).size = 257; exact wcell_size b X) (by simp)]
  rw [Instr.fill]
  congr 1
  exact splice_whole (by simp [wcell_size, Value.cells])
theorem step_build {ops : Array Oper} {o : Oper} {a : Act} {w : World} {K : Act → World → Prop} {Q : Exit → Act → World → Prop} {E : Prop} (hgd : o.guard = none) (x y : Operand) (ho : o.op = .build 59 #[(0, x), (1, y)]) (b : Int) (X : Blk) (hx : a.eval x = .int .i64 b) (hy : a.eval y = .agg (arr X))
    (h : K (a.put o.dst (.agg (wcell b X))) w) : if Region.wanted o (yielded ops a.tmps) = true then Oper.wp Try.prog o a w K Q else E := by
  rw [if_pos (by simp [Region.wanted, hgd])]
  unfold Oper.wp execOp
  have e : (#[(0, x), (1, y)].map fun (i, x) => (i, a.eval x)) = #[(0, Value.int .i64 b), (1, .agg (arr X))] := by simp [hx, hy]
  simp only [ho, Sem.run_bind]
  rw [e, build_wait b X w]
  exact h
theorem step_buildSlice {ops : Array Oper} {o : Oper} {a : Act} {w : World} {K : Act → World → Prop} {Q : Exit → Act → World → Prop} {E : Prop} (hgd : o.guard = none) (x : Operand) (ho : o.op = .buildSlice 57 1 #[(0, x)]) (b : Int) (X : Blk) (hx : a.eval x = .agg (wcell b X))
    (h : K (a.put o.dst (.slice (some ⟨w.heap.size, 0, none⟩) 1 1)) (w.alloc (.cells (wcell b X) 59))) : if Region.wanted o (yielded ops a.tmps) = true then Oper.wp Try.prog o a w K Q else E := by
  rw [if_pos (by simp [Region.wanted, hgd])]
  unfold Oper.wp execOp
  have e : (#[(0, x)].map fun (i, x) => (i, a.eval x)) = #[(0, .agg (wcell b X))] := by simp [hx]
  simp only [ho, Sem.run_bind]
  rw [e, slice_wait b X w]
  exact h
/-! The walk's own way with them: behind names that it does not open. -/
def doBuild (u v : Value) : Sem Value := Instr.build 59 #[(0, u), (1, v)]
def doSlice (u : Value) : Sem Value := Instr.buildSlice 57 1 #[(0, u)]
@[go_sem ↓] theorem exec_build (ρ : Operand → Value) (dst : Option Tmp) (x y : Operand) (ty : TypeId) (pos : String) (after : Array Edge) (guard : Option (Nat × Bool)) :
    execOp ρ { dst, op := .build 59 #[(0, x), (1, y)], type := ty, pos, after, guard } = (do pure (.value (← doBuild (ρ x) (ρ y)))) := by unfold execOp doBuild; simp
@[go_sem ↓] theorem exec_slice (ρ : Operand → Value) (dst : Option Tmp) (x : Operand) (ty : TypeId) (pos : String) (after : Array Edge) (guard : Option (Nat × Bool)) :
    execOp ρ { dst, op := .buildSlice 57 1 #[(0, x)], type := ty, pos, after, guard } = (do pure (.value (← doSlice (ρ x)))) := by unfold execOp doSlice; simp
@[go_sem] theorem doBuild_run (b : Int) (X : Blk) (w : World) : (doBuild (.int .i64 b) (.agg (arr X))).run Try.prog w = .ok (.agg (wcell b X)) w := build_wait b X w
@[go_sem] theorem doSlice_run (b : Int) (X : Blk) (w : World) : (doSlice (.agg (wcell b X))).run Try.prog w = .ok (.slice (some ⟨w.heap.size, 0, none⟩) 1 1) (w.alloc (.cells (wcell b X) 59)) := slice_wait b X w
theorem wcell_list_one (b : Int) (X : Blk) : ∀ u ∈ (wcell b X).toList, u.oneCell' = true := by
  have := wcell_one b X
  rw [Array.all_eq_true_iff_forall_mem] at this
  exact fun u hu => this u (by simpa using hu)
theorem wait_zero_cells : (Value.agg ⟨.int .i64 0 :: bytesOf (fun _ => 0) 256⟩).cells.size = 257 := by
  show (Value.int .i64 0 :: bytesOf (fun _ => 0) 256).length = 257
  rw [List.length_cons, bytesOf_length]
theorem wcell_list_len (b : Int) (X : Blk) : (wcell b X).toList.length = 1 * 257 := by rw [Array.length_toList, wcell_size]
def wcells (W : Waits) : List Value := W.flatMap fun p => (wcell p.1 p.2).toList
theorem wcells_snoc (W : Waits) (p : Nat × Blk) : wcells (W ++ [p]) = wcells W ++ (wcell p.1 p.2).toList := by simp [wcells]
def WOwn (w : World) (base : Nat) (v : Value) (W : Waits) : Prop := w.ownsRow base 59 257 v W.length (wcells W)
theorem WOwn.nil (w : World) (base : Nat) : WOwn w base (.slice none 0 0) [] := World.ownsRow_nil _ _ _ _
theorem WOwn.keep {w w' : World} {base : Nat} {v : Value} {W : Waits} (h : WOwn w base v W) (hk : ∀ g, v.ownBlock = some g → w'.heap[g]? = w.heap[g]?) : WOwn w' base v W := by
  obtain ⟨h1, h2⟩ := h
  refine ⟨h1, ?_⟩
  rcases h2 with h2 | ⟨g, cap, cur, rfl, hb, hg, rest⟩
  · exact .inl h2
  · exact .inr ⟨g, cap, cur, rfl, hb, (hk g rfl).trans hg, rest⟩
theorem WOwn.below {w w' : World} {base : Nat} {v : Value} {W : Waits} (h : WOwn w base v W) (hb : Below w.heap.size w w') : WOwn w' base v W :=
  World.ownsRow.kept (row := none) h ⟨hb.os, hb.tape, hb.output, hb.size, fun k hk _ => hb.block k hk⟩ (by cases hv : v.ownBlock <;> simp)
theorem WOwn.of_keep {av : Av} {w w' : World} {base : Nat} {v : Value} {W : Waits} (h : WOwn w base v W) (hk : Keep av w w') (hv : ∀ g, v.ownBlock = some g → av g) : WOwn w' base v W := h.keep fun g e => hk.block g (hv g e)
theorem WOwn.base_le {w : World} {base : Nat} {v : Value} {W : Waits} (h : WOwn w base v W) : ∀ g, v.ownBlock = some g → base ≤ g ∧ g < w.heap.size := by
  intro g e
  rcases h.2 with ⟨rfl, _⟩ | ⟨g', cap, cur, rfl, hb, hg, _⟩
  · simp [Value.ownBlock] at e
  · have : g' = g := by simpa [Value.ownBlock] using e
    subst this
    refine ⟨hb, ?_⟩
    rcases Nat.lt_or_ge g' w.heap.size with h | h
    · exact h
    · rw [Array.getElem?_eq_none h] at hg; cases hg
theorem WOwn.shape {w : World} {base : Nat} {v : Value} {W : Waits} (h : WOwn w base v W) : ∃ A c, v = .slice A W.length c := by
  rcases h.2 with ⟨rfl, h0⟩ | ⟨g', cap, cur, rfl, _⟩
  · exact ⟨none, 0, by rw [h0]⟩
  · exact ⟨_, _, rfl⟩

/-! The acts of a script. -/
abbrev Acts := List (Nat × Int × Nat)
def ActsAt (w : World) (A : Option Addr) (l : Acts) : Prop := 0 < l.length → ∃ b o, A = some ⟨b, o, none⟩ ∧ b < w.heap.size ∧ ∀ i p, l[i]? = some p → w.cell? ⟨b, o + i * 4, none⟩ = some (.int .u8 (p.1 : Int)) ∧ w.cell? ⟨b, o + i * 4 + 1, none⟩ = some (.int .i64 p.2.1) ∧ w.cell? ⟨b, o + i * 4 + 2, none⟩ = some (.int .u32 (p.2.2 : Int)) ∧ p.1 < 256 ∧ -9223372036854775808 ≤ p.2.1 ∧ p.2.1 ≤ 9223372036854775807 ∧ p.2.2 < 4294967296
def cs (L : List Blk) (W : Waits) (c : Nat) : DS := ⟨L, W, c, none⟩
theorem cs_err {L : List Blk} {W : Waits} {c n : Nat} (hL : L.length = n) (b : Int) : (cs L W c).err b = if inside n b then 0 else 2 := by
  unfold DS.err cs inside DS.dead
  simp [hL]
  by_cases h1 : b < 0 <;> by_cases h2 : (n : Int) ≤ b <;> simp [h1, h2] <;> omega
theorem cs_write {L : List Blk} {W : Waits} {c n : Nat} (hL : L.length = n) (b : Int) (x : Blk) : (cs L W c).write b x = if inside n b then cs L (W ++ [(b.toNat, x)]) (c + 1) else cs L W c := by
  unfold DS.write
  rw [cs_err hL]
  cases h : inside n b <;> simp [cs, DS.act]
theorem cs_flush (L : List Blk) (W : Waits) (c : Nat) : (cs L W c).flush = cs (over L W) [] (c + 1) := rfl
theorem cs_now (L : List Blk) (W : Waits) (c : Nat) : (cs L W c).now = over L W := rfl

theorem flat_get {α β : Type} (f : α → List β) (n : Nat) (hf : ∀ a, (f a).length = n) : ∀ (l : List α) (k j : Nat) (a : α), l[k]? = some a → j < n → (l.flatMap f)[k * n + j]? = (f a)[j]?
  | [], k, j, a, h, _ => by simp at h
  | q :: l, 0, j, a, h, hj => by
    simp at h
    subst h
    rw [List.flatMap_cons, Nat.zero_mul, Nat.zero_add, List.getElem?_append_left (by rw [hf]; exact hj)]
  | q :: l, k + 1, j, a, h, hj => by
    simp at h
    have e : (k + 1) * n + j = n + (k * n + j) := by rw [Nat.succ_mul]; omega
    rw [List.flatMap_cons, e, List.getElem?_append_right (by rw [hf]; omega), hf, Nat.add_sub_cancel_left]
    exact flat_get f n hf l k j a h hj
theorem wcells_get (W : Waits) (k j : Nat) (p : Nat × Blk) (h : W[k]? = some p) (hj : j < 257) : (wcells W)[k * 257 + j]? = (wcell p.1 p.2)[j]? := by
  unfold wcells
  rw [flat_get (fun p : Nat × Blk => (wcell p.1 p.2).toList) 257 (fun p => by rw [Array.length_toList, wcell_size]) W k j p h hj, Array.getElem?_toList]
theorem WOwn.cell {w : World} {base : Nat} {v : Value} {W : Waits} (h : WOwn w base v W) {g : Nat} (hg : v.ownBlock = some g) {k : Nat} {p : Nat × Blk} (hp : W[k]? = some p) : w.cell? ⟨g, k * 257, none⟩ = some (.int .i64 (p.1 : Int)) ∧ At w g (k * 257 + 1) p.2 := by
  have hc := World.ownsRow.cells h hg
  have hadd : ∀ j, (⟨g, 0, none⟩ : Addr).add j = ⟨g, j, none⟩ := fun j => by unfold Addr.add; split <;> simp_all
  refine ⟨?_, At.of fun i hi => ?_⟩
  · have h0 := wcells_get W k 0 p hp (by omega)
    rw [wcell_zero, Nat.add_zero] at h0
    have := hc _ _ h0
    rw [hadd] at this
    exact this
  · have := hc (k * 257 + (i + 1)) (.int .u8 ((p.2.f i : Nat) : Int)) (by rw [wcells_get W k (i + 1) p hp (by omega), wcell_succ, arr_get hi])
    rw [hadd] at this
    rw [show k * 257 + 1 + i = k * 257 + (i + 1) by omega]
    exact this
theorem kept_take : ∀ (W : Waits) (kl : List Bool) (k : Nat) (h : k < W.length), kept (W.take (k + 1)) kl = kept (W.take k) kl ++ if kl[k]? = some true then [W[k]] else []
  | [], _, _, h => absurd h (by simp)
  | p :: W, [], k, h => by cases k <;> simp [kept]
  | p :: W, b :: kl, 0, h => by cases b <;> simp [kept]
  | p :: W, b :: kl, k + 1, h => by
    have ih := kept_take W kl k (by simpa using h)
    simp only [List.take_succ_cons, kept, List.getElem?_cons_succ, List.getElem_cons_succ]
    rw [ih]
    cases b <;> simp
noncomputable def allK (W : Waits) (kl : List Bool) (k : Nat) : Bool := decide (W.length ≤ kl.length ∧ ∀ i, i < k → kl[i]? = some true)
theorem allK_zero (W : Waits) (kl : List Bool) : allK W kl 0 = decide (W.length ≤ kl.length) := by
  unfold allK
  rw [Bool.eq_iff_iff, decide_eq_true_iff, decide_eq_true_iff]
  exact ⟨fun h => h.1, fun h => ⟨h, fun i hi => by omega⟩⟩
theorem allK_yes {W : Waits} {kl : List Bool} {k : Nat} (h : kl[k]? = some true) : allK W kl (k + 1) = allK W kl k := by
  unfold allK
  rw [Bool.eq_iff_iff, decide_eq_true_iff, decide_eq_true_iff]
  refine ⟨fun hh => ⟨hh.1, fun i hi => hh.2 i (by omega)⟩, fun hh => ⟨hh.1, fun i hi => ?_⟩⟩
  by_cases e : i = k
  · rw [e]; exact h
  · exact hh.2 i (by omega)
theorem allK_no {W : Waits} {kl : List Bool} {k : Nat} (h : ¬ kl[k]? = some true) : allK W kl (k + 1) = false := by
  unfold allK
  rw [decide_eq_false_iff_not]
  exact fun hh => h (hh.2 k (by omega))
theorem allK_end {W : Waits} {kl : List Bool} (h : allK W kl W.length = true) : kept W kl = W := by
  unfold allK at h
  rw [decide_eq_true_iff] at h
  exact kept_all W kl h.1 h.2
theorem cs_crash (L : List Blk) (W : Waits) (c : Nat) (l : List Bool) : (cs L W c).crash l = cs (over L (kept W l)) [] c := rfl
theorem kept_lt : ∀ (W : Waits) (kl : List Bool) (p : Nat × Blk), p ∈ kept W kl → p ∈ W
  | [], _, p, h => by simp [kept] at h
  | q :: W, [], p, h => by simp [kept] at h
  | q :: W, b :: kl, p, h => by
    cases b
    · simp only [kept, Bool.false_eq_true, if_false] at h
      exact List.mem_cons_of_mem _ (kept_lt W kl p h)
    · simp only [kept, if_true] at h
      rcases List.mem_cons.1 h with rfl | h
      · exact List.mem_cons_self
      · exact List.mem_cons_of_mem _ (kept_lt W kl p h)

theorem cs_read0 {L : List Blk} {c n : Nat} (hL : L.length = n) (h : 1 ≤ n) (x : Blk) : (cs (over L [(0, x)]) [] c).read 0 = x ∧ (cs (over L [(0, x)]) [] c).err 0 = 0 := by
  have he : (cs (over L [(0, x)]) [] c).err 0 = 0 := by
    rw [cs_err (n := n) (by rw [over_length]; exact hL), if_pos (by simp [inside]; omega)]
  refine ⟨?_, he⟩
  unfold DS.read
  rw [if_pos he]
  show (L.set 0 x).getD 0 .zero = x
  rw [List.getD_eq_getElem?_getD, List.getElem?_set, if_pos rfl, if_pos (by omega)]
  rfl
section
variable {D : World → Addr → DS → Av → Prop}
/-- What goes on through the statement's second half: the disk; the three lists; the writes that waited. -/
structure Half (D : World → Addr → DS → Av → Prop) (w0 : World) (a : Addr) (s : DS) (v : Value) (W : Waits) (g1 o1 g2 o2 g3 o3 : Nat) (L1 L2 L3 : List Blk) (w : World) : Prop where
  d : D w a s (fun i => (i < w0.heap.size ∨ v.ownBlock = some i) ∨ i = g1 ∨ i = g2 ∨ i = g3)
  b : Below w0.heap.size w0 w
  x : OImg w g1 o1 L1
  y : OImg w g2 o2 L2
  z : OImg w g3 o3 L3
  q : WOwn w w0.heap.size v W
  lo : w0.heap.size ≤ g1 ∧ g1 ≠ g2 ∧ g1 ≠ g3 ∧ v.ownBlock ≠ some g1
  qlt : ∀ p ∈ W, p.1 < L2.length
theorem Half.below (hD : DiskSays D) {w0 w w' : World} {a : Addr} {s : DS} {v : Value} {W : Waits} {g1 o1 g2 o2 g3 o3 : Nat} {L1 L2 L3 : List Blk} (h : Half D w0 a s v W g1 o1 g2 o2 g3 o3 L1 L2 L3 w) (hb : Below w.heap.size w w') : Half D w0 a s v W g1 o1 g2 o2 g3 o3 L1 L2 L3 w' :=
  ⟨hD.below h.d hb, h.b.trans (hb.mono h.b.size), h.x.keep (hb.block _ h.x.lt), h.y.keep (hb.block _ h.y.lt), h.z.keep (hb.block _ h.z.lt), h.q.below hb, h.lo, h.qlt⟩
theorem Half.drewN (hD : DiskSays D) {w0 w : World} {a : Addr} {s : DS} {v : Value} {W : Waits} {g1 o1 g2 o2 g3 o3 : Nat} {L1 L2 L3 : List Blk} (h : Half D w0 a s v W g1 o1 g2 o2 g3 o3 L1 L2 L3 w) (q : Nat) : Half D w0 a s v W g1 o1 g2 o2 g3 o3 L1 L2 L3 (w.drewN q) := h.below hD ⟨rfl, rfl, rfl, Nat.le_refl _, fun _ _ => rfl⟩
theorem Half.keep (hD : DiskSays D) {w0 w w' : World} {a : Addr} {s s' : DS} {v : Value} {W : Waits} {g1 o1 g2 o2 g3 o3 : Nat} {L1 L2 L3 : List Blk} {av : Av} (h : Half D w0 a s v W g1 o1 g2 o2 g3 o3 L1 L2 L3 w) (hd : D w' a s' av) (hv : ∀ i, (i < w0.heap.size ∨ v.ownBlock = some i) ∨ i = g1 ∨ i = g2 ∨ i = g3 → av i) (hk : Keep (fun i => (i < w0.heap.size ∨ v.ownBlock = some i) ∨ i = g1 ∨ i = g2 ∨ i = g3) w w') : Half D w0 a s' v W g1 o1 g2 o2 g3 o3 L1 L2 L3 w' :=
  ⟨hD.mono hd hv, h.b.trans (hk.below fun _ hi => .inl (.inl hi)), hk.oimg (.inr (.inl rfl)) h.x, hk.oimg (.inr (.inr (.inl rfl))) h.y, hk.oimg (.inr (.inr (.inr rfl))) h.z, h.q.of_keep hk fun _ e => .inl (.inr e), h.lo, h.qlt⟩
theorem Half.set (hD : DiskSays D) {w0 w : World} {a : Addr} {s : DS} {v : Value} {W : Waits} {g1 o1 g2 o2 g3 o3 : Nat} {L1 L2 L3 : List Blk} (h : Half D w0 a s v W g1 o1 g2 o2 g3 o3 L1 L2 L3 w) {i : Nat} (hi : i < L1.length) (X : Blk) : Half D w0 a s v W g1 o1 g2 o2 g3 o3 (L1.set i X) L2 L3 (w.setCells g1 (o1 + i * 256) (arr X).toList) :=
  ⟨hD.cells h.d (.inr (.inl rfl)) _ _, below_cells h.b h.lo.1 _ _, h.x.set hi X, h.y.keep (setCells_heap_ne _ _ _ _ _ (Ne.symm h.lo.2.1)), h.z.keep (setCells_heap_ne _ _ _ _ _ (Ne.symm h.lo.2.2.1)), h.q.keep fun _ e => setCells_heap_ne _ _ _ _ _ (fun q => h.lo.2.2.2 (q ▸ e)), h.lo, h.qlt⟩
def CrashRel (D : World → Addr → DS → Av → Prop) (w : World) (a : Addr) (m n : Nat) (v i : Value) (wr : World) : Prop :=
  ∃ (k : Nat) (L : List Blk) (W : Waits) (c : Nat), k ≤ m ∧ i = .int .i64 k ∧ L.length = n ∧ W.length ≤ k ∧ c ≤ k ∧ Hid (D wr a (cs L W c) (fun i => i < w.heap.size ∨ v.ownBlock = some i)) ∧ Hid (WOwn wr w.heap.size v W) ∧ Hid (Below w.heap.size w wr)
set_option maxRecDepth 100000 in
set_option maxHeartbeats 4000000 in
theorem diskCrashes_any (hD : DiskSays D) (n : Int) (A : Option Addr) (c m : Nat) (l : Acts) (K : Option Addr) (kc km : Nat) (kl : List Bool) (w : World) (hm : m = l.length) (hA : ActsAt w A l) (hkm : km = kl.length) (hK : Bools w K kl) (hk8 : km ≤ 140737488355328) (hm8 : m ≤ 140737488355328) (hKb : 0 < kl.length → ∀ g o, K = some ⟨g, o, none⟩ → g < w.heap.size) :
    Calls Try.prog 5 #[.int .i64 n, .slice A m c, .slice K km kc] w fun e w' => e = .returned (.bool true) ∧ Below w.heap.size w w' := by
  have HD := Lib.hid hD
  have HM := Lib.hid hm
  have HA := Lib.hid hA
  have HKM := Lib.hid hkm
  have HK := Lib.hid hK
  have HKB := Lib.hid hKb
  clear hD hm hA hkm hK hKb
  by_cases h1 : n < 1
  · have t1 : decide (n < 1) = true := by simp; omega
    go_enter Try.func5, Try.ntmps5
    go_wp2_with fail
    refine (dAwake_any HD.out _).mono ?_
    rintro e w1 ⟨rfl, hb⟩
    have B1 := Lib.hid hb
    clear hb
    go_wp2_with fail
    go_ret
    exact ⟨rfl, B1.out⟩
  have t1 : decide (n < 1) = false := by simp; omega
  by_cases h2 : 64 < n
  · have t2 : decide (64 < n) = true := by simp; omega
    go_enter Try.func5, Try.ntmps5
    go_wp2_with fail
    refine (dAwake_any HD.out _).mono ?_
    rintro e w1 ⟨rfl, hb⟩
    have B1 := Lib.hid hb
    clear hb
    go_wp2_with fail
    go_ret
    exact ⟨rfl, B1.out⟩
  have t2 : decide (64 < n) = false := by simp; omega
  by_cases h3 : 100 < m
  · have t3 : decide ((100 : Int) < m) = true := by simp; omega
    go_enter Try.func5, Try.ntmps5
    go_wp2_with fail
    refine (dAwake_any HD.out _).mono ?_
    rintro e w1 ⟨rfl, hb⟩
    have B1 := Lib.hid hb
    clear hb
    go_wp2_with fail
    go_ret
    exact ⟨rfl, B1.out⟩
  have t3 : decide ((100 : Int) < m) = false := by simp; omega
  have hm100 : m ≤ 100 := by omega
  clear h3
  obtain ⟨N, rfl⟩ := Int.eq_ofNat_of_zero_le (show 0 ≤ n by omega)
  have hN1 : 1 ≤ N := by omega
  have hN2 : N ≤ 64 := by omega
  clear h1 h2
  go_enter Try.func5, Try.ntmps5
  go_wp2_with fail
  refine (HD.out.new_yes N _ (by omega) (by omega)).mono ?_
  rintro e w1 ⟨⟨a, rfl, hd⟩, hb⟩
  rw [Int.toNat_natCast] at hd
  have D1 : Hid (D w1 a (cs (List.replicate N .zero) [] 0) (fun i => i < w.heap.size ∨ (Value.slice none 0 0).ownBlock = some i)) := Lib.hid (HD.out.mono hd (by rintro i (h | h); exact h; simp [Value.ownBlock] at h))
  have B1 := Lib.hid hb
  clear hb hd t1 t2
  go_wp2_with fail
  go_loopw [9, 10] (fun v i wr => CrashRel D w a m N v i wr) (fun _ i _ => m - (intOf i).toNat)
  case atStart => exact ⟨0, _, [], 0, Nat.zero_le _, rfl, List.length_replicate, Nat.le_refl _, Nat.le_refl _, D1, Lib.hid (WOwn.nil _ _), B1⟩
  case round =>
    obtain ⟨k, L, W, c2, hk, rfl, hL, hW, hc2, HDk, HWk, HBk⟩ := hrel
    by_cases hlt : k < m
    · have kl2 : k < l.length := by have := HM.out; omega
      obtain ⟨b, o, rfl, lb, hc⟩ := HA.out (by omega)
      obtain ⟨c0, c1, c2', r0, r1, r2, r3⟩ := hc k _ (List.getElem?_eq_getElem kl2)
      have c0 := (HBk.out.cell (p := ⟨b, o + k * 4, none⟩) lb).trans c0
      have c1 := (HBk.out.cell (p := ⟨b, o + k * 4 + 1, none⟩) lb).trans c1
      have c2' := (HBk.out.cell (p := ⟨b, o + k * 4 + 2, none⟩) lb).trans c2'
      have LB := Lib.hid lb
      have HL := Lib.hid hL
      have VV := Lib.hid HWk.out.shape
      clear hc
      generalize l[k] = q at c0 c1 c2' r0 r1 r2 r3
      obtain ⟨kd, p, f⟩ := q
      dsimp only at c0 c1 c2' r0 r1 r2 r3
      have j1 : (0 : Int) ≤ k := by omega
      have j2 : (k : Int) < m := by omega
      have CE := Lib.hid (cs_err (W := W) (c := c2) HL.out)
      by_cases q4 : kd % 8 = 4
      · have s4 : ((kd : Int) % 8 == 4) = true := by rw [beq_iff_eq]; omega
        have E0 : Hid ((cs L W c2).err 0 = 0) := Lib.hid (by rw [CE.out]; simp [inside]; omega)
        clear q4 hL
        go_wp2_with fail
        refine (HD.out.flush a _ _ _ HDk.out (by show c2 < 1000000; omega)).mono ?_
        rintro e w3 ⟨rfl, hd, hk3⟩
        rw [E0.out]
        rw [cs_flush] at hd
        have B3 := Lib.hid (HBk.out.trans (hk3.below fun i h => .inl h))
        have D3 : Hid (D w3 a (cs (over L W) [] (c2 + 1)) (fun i => i < w.heap.size ∨ (Value.slice none 0 0).ownBlock = some i)) := Lib.hid (HD.out.mono hd (by rintro i (h | h); exact .inl h; simp [Value.ownBlock] at h))
        clear hd hk3
        go_wp2_with fail
        go_roundw
        case rel => exact ⟨k + 1, over L W, [], c2 + 1, by omega, by go_num, by rw [over_length]; exact HL.out, Nat.zero_le _, by omega, D3, Lib.hid (WOwn.nil _ _), B3⟩
        case measure => simp [intOf]; omega
      · by_cases q5 : kd % 8 = 5 ∨ kd % 8 = 6 ∨ kd % 8 = 7
        · rcases q5 with q5 | q5 | q5
          all_goals
            have s4 : ((kd : Int) % 8 == 4) = false := by rw [beq_eq_false_iff_ne]; omega
            first
              | have s5 : ((kd : Int) % 8 == 5) = true := by rw [beq_iff_eq]; omega
              | have s5 : ((kd : Int) % 8 == 5) = false := by rw [beq_eq_false_iff_ne]; omega
            first
              | have s6 : ((kd : Int) % 8 == 6) = true := by rw [beq_iff_eq]; omega
              | have s6 : ((kd : Int) % 8 == 6) = false := by rw [beq_eq_false_iff_ne]; omega
            first
              | have s7 : ((kd : Int) % 8 == 7) = true := by rw [beq_iff_eq]; omega
              | have s7 : ((kd : Int) % 8 == 7) = false := by rw [beq_eq_false_iff_ne]; omega
            clear q4 q5 hL
            go_wp2_with fail
            go_roundw
            case rel => exact ⟨k + 1, L, W, c2, by omega, by go_num, HL.out, by omega, by omega, HDk, HWk, HBk⟩
            case measure => simp [intOf]; omega
        · have s4 : ((kd : Int) % 8 == 4) = false := by rw [beq_eq_false_iff_ne]; omega
          have s5 : ((kd : Int) % 8 == 5) = false := by rw [beq_eq_false_iff_ne]; omega
          have s6 : ((kd : Int) % 8 == 6) = false := by rw [beq_eq_false_iff_ne]; omega
          have s7 : ((kd : Int) % 8 == 7) = false := by rw [beq_eq_false_iff_ne]; omega
          have CW := Lib.hid (cs_write (W := W) (c := c2) HL.out p (fillB f))
          have CEp := Lib.hid (CE.out p)
          have ACT : Hid ((cs L W c2).acts < 1000000) := Lib.hid (by show c2 < 1000000; omega)
          have tok1 : True := trivial
          have tok2 : True := trivial
          clear q4 q5 hL
          go_wp2_with fail
          go_region_held3 (fun w' => w'.cell? ⟨b, o + k * 4 + 1, none⟩ = some (.int .i64 p) ∧ w'.cell? ⟨b, o + k * 4 + 2, none⟩ = some (.int .u32 (f : Int)))
            (first
              | go_keep
              | (go_split_ands; exact ⟨(hb.cell (World.block_lt_of_cell? _ _ (by assumption))).trans (by assumption), (hb.cell (World.block_lt_of_cell? _ _ (by assumption))).trans (by assumption)⟩)
              | (go_split_ands; exact ⟨(hk2.cell (.inl LB.out)).trans (by assumption), (hk2.cell (.inl LB.out)).trans (by assumption)⟩))
            (first
              | (go_at_call 10; have _t := tok1; refine (fill_any f _ r3).mono ?_; rintro e w2 ⟨rfl, hb⟩; have D5 := Lib.hid (HD.out.below (HD.out.drew HDk.out) hb); clear tok1)
              | (go_at_call 18; have _t := tok2; refine (HD.out.write a _ _ p (fillB f) _ D5.out ACT.out).mono ?_; rintro e w3 ⟨rfl, hd, hk2⟩; clear tok2))
          have hb' : Below wr.heap.size wr w2 := ⟨hb.os, hb.tape, hb.output, hb.size, hb.block⟩
          have B3 := Lib.hid (HBk.out.trans ((hb'.mono HBk.out.size).trans (hk2.below fun i h => .inl h)))
          have O3 : Hid (WOwn w3 w.heap.size u9 W) := Lib.hid ((HWk.out.below hb').of_keep hk2 fun g e => .inr e)
          rw [CW.out] at hd
          have HD3 := Lib.hid hd
          rename_i hHeld
          obtain ⟨c1', c2''⟩ := hHeld
          rw [CEp.out]
          clear hb hb' hd hk2 D5 HDk HWk HBk c0 c1 c2'
          by_cases hin : inside N p = true
          · rw [hin] at HD3
            rw [if_pos hin]
            simp only [if_true] at HD3
            obtain ⟨qb, rfl⟩ : ∃ qb : Nat, p = qb := ⟨p.toNat, by simp [inside] at hin; omega⟩
            rw [Int.toNat_natCast] at HD3
            obtain ⟨i0, hi0, hzz⟩ := Option.map_eq_some_iff.1 wait_info
            simp only [Prod.mk.injEq] at hzz
            obtain ⟨hz0, hz1, hz2⟩ := hzz
            have HZ0 := Lib.hid hz0
            have HZ1 := Lib.hid hz1
            have HZ2 := Lib.hid hz2
            have HI0 := Lib.hid hi0
            have E1 := Lib.hid hin
            clear hin hz0 hz1 hz2 hi0
            have tok3 : True := trivial
            have NB : Hid (some b ≠ u9.ownBlock) := Lib.hid (fun e => by have := O3.out.base_le b e.symm; have := LB.out; omega)
            go_wp2_with fail
            go_region_held3 (fun w' => w'.cell? ⟨b, o + k * 4 + 1, none⟩ = some (.int .i64 (qb : Int)) ∧ w'.cell? ⟨b, o + k * 4 + 2, none⟩ = some (.int .u32 (f : Int)))
              (first
                | go_keep
                | (go_split_ands; exact ⟨(hb.cell (World.block_lt_of_cell? _ _ (by assumption))).trans (by assumption), (hb.cell (World.block_lt_of_cell? _ _ (by assumption))).trans (by assumption)⟩)
                | (go_split_ands; exact ⟨(World.cell?_of_block (hgrow.block b (World.block_lt_of_cell? _ _ (by assumption)) NB.out)).trans (by assumption), (World.cell?_of_block (hgrow.block b (World.block_lt_of_cell? _ _ (by assumption)) NB.out)).trans (by assumption)⟩))
              (first
                | (go_at_call 10; have _t := tok3; refine (fill_any f _ r3).mono ?_; rintro e w4 ⟨rfl, hb⟩; have hb4 : Below w3.heap.size w3 w4 := ⟨hb.os, hb.tape, hb.output, hb.size, hb.block⟩; clear tok3)
                | (refine step_append_lies _ (by rfl) _ _ _ (by rfl) w.heap.size 59 i0 _ 257 264 Try.underlying57 HI0.out HZ0.out HZ1.out HZ2.out wait_zero_cells (by omega) u9 W.length _ (by rfl) ((O3.out.below hb4).alloc _)
                    ⟨w4.heap.size, 0, none⟩ 1 1 (wcell (qb : Int) (fillB f)).toList (by rfl) (wcell_list_len _ _) (World.news_of_block (cs := wcell (qb : Int) (fillB f)) (t := 59) (fr := (0, 0)) (heap_alloc_new w4 _)) (wcell_list_one _ _)
                    (by omega) (by simp only [maxLen]; omega) (by omega) (by have := B3.out.size; have := hb4.size; simp; omega) (w4.heap.size + 1) (by simp) ?_; intro gg cap w5 hown1 hgrow hat hltg))
            rename_i hHeld
            clear hHeld
            have HB5 : Below w4.heap.size w4 (w4.alloc (.cells (wcell (qb : Int) (fillB f)) 59)) := (Below.refl _ _).alloc (Nat.le_refl _) _
            have W5 : Hid (WOwn w5 w.heap.size (.slice (some ⟨gg, 0, none⟩) (W.length + 1) cap) (W ++ [(qb, fillB f)])) := Lib.hid (by
              unfold WOwn
              rw [List.length_append, wcells_snoc]
              exact hown1)
            have B5 : Hid (Below w.heap.size w w5) := Lib.hid ((((B3.out.trans (hb4.mono B3.out.size)).trans (HB5.mono (Nat.le_trans B3.out.size hb4.size)))).grown hgrow (by have := B3.out.size; have := hb4.size; simp; omega) (fun g e => (O3.out.base_le g e).1))
            have D5 : Hid (D w5 a (cs L (W ++ [(qb, fillB f)]) (c2 + 1)) (fun i => i < w.heap.size ∨ (Value.slice (some ⟨gg, 0, none⟩) (W.length + 1) cap).ownBlock = some i)) := Lib.hid (by
              have d4 := HD.out.new' (HD.out.below HD3.out hb4) HB5
              refine HD.out.frame d4 hgrow.size (fun i hi hn => hgrow.block i hi (fun e => hn (.inl (.inr e.symm)))) ?_
              rintro i (h | h)
              · exact .inl (.inl (.inl h))
              · have hgi : gg = i := by simpa [Value.ownBlock] using h
                subst hgi
                rcases hat with h | h
                · exact .inl (.inl (.inr h))
                · exact .inr ⟨by simp; omega, hltg⟩)
            clear hown1 hgrow hat HB5 hb4 hltg
            go_wp2_with fail
            go_roundw
            case rel => exact ⟨k + 1, L, W ++ [(qb, fillB f)], c2 + 1, by omega, by go_num, HL.out, by simp; omega, by omega, D5, W5, B5⟩
            case measure => simp [intOf]; omega
          · rw [if_neg hin]
            have hin' : inside N p = false := by simpa using hin
            rw [hin'] at HD3
            simp only [Bool.false_eq_true, if_false] at HD3
            clear hin hin'
            go_wp2_with fail
            go_roundw
            case rel => exact ⟨k + 1, L, W, c2, by omega, by go_num, HL.out, by omega, by omega, HD3, O3, B3⟩
            case measure => simp [intOf]; omega
    · obtain rfl : k = m := by omega
      obtain ⟨A9, c9, rfl⟩ := HWk.out.shape
      have HL := Lib.hid hL
      clear hL
      go_wp2_with fail
      refine (HD.out.safe a _ _ _ HDk.out).mono ?_
      rintro e w3 ⟨⟨g1, o1, k1, rfl, ho1, hs1, hd1⟩, hk3⟩
      rw [show (cs L W c2).safe.length = N from HL.out]
      go_wp2_with fail
      refine (HD.out.image a _ _ _ hd1).mono ?_
      rintro e w4 ⟨⟨g2, o2, k2, rfl, ho2, hs2, hd2⟩, hk4⟩
      rw [show (cs L W c2).safe.length = N from HL.out]
      go_wp2_with fail
      refine (HD.out.waiting a _ _ _ hd2).mono ?_
      rintro e w5 ⟨rfl, hd3, hk5⟩
      rw [show ((cs L W c2).wait.length : Int) = (W.length : Int) from rfl]
      have lw := HWk.out.base_le
      have sz3 := hk3.size
      have sz4 := hk4.size
      have sz5 := hk5.size
      have szb := HBk.out.size
      have lg1 := ho1.lt
      have lg2 := ho2.lt
      have BK5 : Hid (Bools w5 K kl) := Lib.hid fun h0 => by
        obtain ⟨b, o, e, hb, hc⟩ := HK.out h0
        have hB : Below w.heap.size w w5 := ((HBk.out.trans (hk3.below fun i h => .inl h)).trans (hk4.below fun i h => .inl (.inl h))).trans (hk5.below fun i h => .inl (.inl (.inl h)))
        exact ⟨b, o, e, Nat.lt_of_lt_of_le hb hB.size, fun i x hx => (hB.cell (p := ⟨b, o + i, none⟩) hb).trans (hc i x hx)⟩
      go_wp2_with fail
      refine (HD.out.crash a _ _ K km kc kl _ hd3 HKM.out BK5.out (fun h0 g o e => .inl (.inl (.inl (HKB.out h0 g o e)))) hk8).mono ?_
      rintro e w6 ⟨rfl, hd4, hk6⟩
      rw [cs_crash] at hd4
      go_wp2_with fail
      refine (HD.out.image a _ _ _ hd4).mono ?_
      rintro e w7 ⟨⟨g3, o3, k3, rfl, ho3, hs3, hd5⟩, hk7⟩
      rw [show (cs (over L (kept W kl)) [] c2).safe.length = N by show (over L (kept W kl)).length = N; rw [over_length]; exact HL.out]
      have T0 : Hid (Half D w a (cs (over L (kept W kl)) [] c2) (.slice A9 W.length c9) W g1 o1 g2 o2 g3 o3 L (over L W) (over L (kept W kl)) w7) := Lib.hid (by
        have sz6 := hk6.size
        have hx : OImg w7 g1 o1 L := hk7.oimg (.inl (.inr rfl)) (hk6.oimg (.inl (.inr rfl)) (hk5.oimg (.inl (.inr rfl)) (hk4.oimg (.inr rfl) ho1)))
        have hy : OImg w7 g2 o2 (over L W) := hk7.oimg (.inr rfl) (hk6.oimg (.inr rfl) (hk5.oimg (.inr rfl) ho2))
        have hq := ((((HWk.out.of_keep hk3 fun g e => .inr e).of_keep hk4 fun g e => .inl (.inr e)).of_keep hk5 fun g e => .inl (.inl (.inr e))).of_keep hk6 fun g e => .inl (.inl (.inr e))).of_keep hk7 fun g e => .inl (.inl (.inr e))
        have hB : Below w.heap.size w w7 := ((((HBk.out.trans (hk3.below fun i h => .inl h)).trans (hk4.below fun i h => .inl (.inl h))).trans (hk5.below fun i h => .inl (.inl (.inl h)))).trans (hk6.below fun i h => .inl (.inl (.inl h)))).trans (hk7.below fun i h => .inl (.inl (.inl h)))
        refine ⟨HD.out.mono hd5 ?_, hB, hx, hy, ho3, hq, ⟨by omega, by omega, by omega, ?_⟩, fun p hp => ?_⟩
        · rintro i (h | h | h | h)
          · exact .inl (.inl (.inl h))
          · exact .inl (.inl (.inr h))
          · exact .inl (.inr h)
          · exact .inr h
        · intro e
          have := (lw g1 e).2
          omega
        · rw [over_length]; exact (HD.out.ok HDk.out).2.2.1 p hp)
      clear hd1 hd2 hd3 hd4 hd5 hk3 hk4 hk5 hk6 hk7 ho1 ho2 ho3 lw sz3 sz4 sz5 szb lg1 lg2 hs1 hs2 hs3 BK5 HDk HWk HBk D1 B1
      have WK : Hid (allK W kl 0 = decide (W.length ≤ km)) := Lib.hid (by rw [allK_zero, HKM.out])
      go_wp2_with fail
      go_loopw [15, 16] (fun all i wr => ∃ k2 : Nat, k2 ≤ W.length ∧ i = .int .i64 k2 ∧ all = .bool (allK W kl k2) ∧ Hid (Half D w a (cs (over L (kept W kl)) [] c2) (.slice A9 W.length c9) W g1 o1 g2 o2 g3 o3 (over L (kept (W.take k2) kl)) (over L W) (over L (kept W kl)) wr)) (fun _ i _ => W.length - (intOf i).toNat)
      case atStart => exact ⟨0, Nat.zero_le _, rfl, by rw [WK.out], T0⟩
      case round =>
        obtain ⟨r, hr, rfl, rfl, T⟩ := hrel
        obtain ⟨w2, rfl⟩ : ∃ w2 : World, w2 = wr := ⟨_, rfl⟩
        by_cases hlr : r < W.length
        · have j1 : (0 : Int) ≤ r := by omega
          have j2 : (r : Int) < W.length := by omega
          have HW2 := Lib.hid hW
          by_cases hrk : r < km
          · obtain ⟨bK, oK, rfl, lK, hcK⟩ := HK.out (by have := HKM.out; omega)
            have hgK : kl[r]? = some (kl[r]'(by have := HKM.out; omega)) := List.getElem?_eq_getElem _
            have cK := (T.out.b.cell (p := ⟨bK, oK + r, none⟩) lK).trans (hcK r _ hgK)
            generalize kl[r]'(by have := HKM.out; omega) = x at hgK cK
            have KX := Lib.hid hgK
            have t4 : decide (r < km) = true := by simp; omega
            have j3 : (r : Int) < km := by omega
            clear hcK hgK
            cases x
            · have AK := Lib.hid (allK_no (W := W) (kl := kl) (k := r) (by rw [KX.out]; simp))
              have KT : Hid (kept (W.take (r + 1)) kl = kept (W.take r) kl) := Lib.hid (by rw [kept_take W kl r hlr, KX.out]; simp)
              go_wp2_with fail
              go_roundw
              case rel => exact ⟨r + 1, by omega, by go_num, by rw [AK.out], by rw [KT.out]; exact T⟩
              case measure => simp [intOf]; omega
            · have AK := Lib.hid (allK_yes (W := W) (kl := kl) (k := r) KX.out)
              have hWr := List.getElem?_eq_getElem hlr
              have KT : Hid (over L (kept (W.take (r + 1)) kl) = (over L (kept (W.take r) kl)).set W[r].1 W[r].2) := Lib.hid (by rw [kept_take W kl r hlr, KX.out, if_pos rfl, over_append]; rfl)
              generalize W[r] = wr2 at hWr KT
              obtain ⟨qb, X⟩ := wr2
              dsimp only at KT
              have hsh := T.out.q
              obtain ⟨gw, e9⟩ : ∃ gw, A9 = some ⟨gw, 0, none⟩ := by
                rcases hsh.2 with ⟨h1, h2⟩ | ⟨g', cap, cur, h1, _⟩
                · omega
                · injection h1 with h1; exact ⟨g', h1⟩
              subst e9
              have wq := T.out.q.cell (g := gw) rfl hWr
              have wc1 := wq.1
              have hqn : qb < N := by
                have := T.out.qlt _ (List.mem_of_getElem? hWr)
                rw [over_length, HL.out] at this
                exact this
              have THERE : w2.there g1 (o1 + qb * 256) 256 := T.out.x.there (by rw [over_length, HL.out]; exact hqn)
              obtain ⟨cl, hcl⟩ : ∃ cl : List Value, arr X = cl.toArray := ⟨(arr X).toList, by simp⟩
              have hcl2 : (arr X).toList = cl := by rw [hcl]
              have wc2 : w2.rangeAt gw (r * 257 + 1) cl := by have := wq.2; unfold At at this; rw [hcl2] at this; exact this
              have hcll : cl.length = 256 := by have := arr_length X; rw [hcl2] at this; exact this
              have hc1 : ∀ v ∈ cl, v.oneCell' = true := by
                have := arr_one X
                rw [Array.all_eq_true_iff_forall_mem] at this
                intro v hv
                exact this v (by rw [hcl]; simpa using hv)
              have hu := Try.underlying26
              have hi : (Try.prog.info? 26).map (·.size) = some cl.length := by rw [hcll]; exact blk_size
              have HCL := Lib.hid hcl2
              have THW : gw ≠ g1 := fun e => T.out.lo.2.2.2 (by rw [← e]; rfl)
              have j4 : (0 : Int) ≤ qb := by omega
              have j5 : (qb : Int) < N := by omega
              clear hcl hcl2 hsh wq hWr
              go_wp2_with fail
              go_region_held3 (fun w' => w'.cell? ⟨gw, r * 257, none⟩ = some (.int .i64 (qb : Int)) ∧ w'.rangeAt gw (r * 257 + 1) cl ∧ w'.there g1 (o1 + qb * 256) 256)
                (first
                  | go_keep_ranges
                  | (go_split_ands; exact ⟨(cell_out THW).trans (by assumption), World.rangeAt_setCells_apart (by assumption) _ _ _ (.inl THW), World.there_setCells (by assumption) _ _ _⟩))
                (fail)
              have T2 : Hid (Half D w a (cs (over L (kept W kl)) [] c2) (.slice (some ⟨gw, 0, none⟩) W.length c9) W g1 o1 g2 o2 g3 o3 (over L (kept (W.take (r + 1)) kl)) (over L W) (over L (kept W kl)) (w2.drew.setCells g1 (o1 + qb * 256) cl)) := Lib.hid (by
                have h := (T.out.below HD.out (w' := w2.drew) ⟨rfl, rfl, rfl, Nat.le_refl _, fun _ _ => rfl⟩).set HD.out (i := qb) (by rw [over_length, HL.out]; exact hqn) X
                rw [HCL.out] at h
                rw [KT.out]
                exact h)
              generalize w2.drew.setCells g1 (o1 + qb * 256) cl = w3 at T2 ⊢
              clear T
              go_wp2_with fail
              go_roundw
              case rel => exact ⟨r + 1, by omega, by go_num, by rw [AK.out], T2⟩
              case measure => simp [intOf]; omega
          · have t4 : decide (r < km) = false := by simp; omega
            have AK := Lib.hid (allK_no (W := W) (kl := kl) (k := r) (by rw [List.getElem?_eq_none (by have := HKM.out; omega)]; simp))
            have KT : Hid (kept (W.take (r + 1)) kl = kept (W.take r) kl) := Lib.hid (by rw [kept_take W kl r hlr, List.getElem?_eq_none (by have := HKM.out; omega)]; simp)
            clear hrk
            go_wp2_with fail
            go_roundw
            case rel => exact ⟨r + 1, by omega, by go_num, by rw [AK.out], by rw [KT.out]; exact T⟩
            case measure => simp [intOf]; omega
        · obtain rfl : r = W.length := by omega
          rw [List.take_length] at T
          have LX : Hid ((over L (kept W kl)).length = N) := Lib.hid (by rw [over_length]; exact HL.out)
          have LN : Hid ((over L W).length = N) := Lib.hid (by rw [over_length]; exact HL.out)
          clear WK T0
          cases hall : allK W kl W.length
          case' true => have KW := Lib.hid (allK_end hall)
          all_goals
            clear hall
            go_wp2_with fail
            refine (same_true _ _ _ _ _ (over L (kept W kl)) _ LX.out.symm (by omega) T.out.z.img T.out.x.img).mono ?_
            rintro e w10 ⟨rfl, q10, hw10⟩
            have T10 := Lib.hid (T.out.drewN HD.out q10)
            rw [← hw10] at T10
            clear hw10 T
            go_wp2_with fail
            refine (HD.out.safe a _ _ _ T10.out.d).mono ?_
            rintro e w11 ⟨⟨g5, o5, c5, rfl, ho5, hs5, hd⟩, hk⟩
            have T11 := Lib.hid (T10.out.keep HD.out hd (fun i h => .inl h) hk)
            have I11 := Lib.hid ho5
            clear ho5 hs5 hd hk T10
            rw [show (cs (over L (kept W kl)) [] c2).safe.length = N from LX.out]
            go_wp2_with fail
            refine (same_true _ _ _ _ _ (over L (kept W kl)) _ LX.out.symm (by omega) I11.out.img T11.out.z.img).mono ?_
            rintro e w12 ⟨rfl, q12, hw12⟩
            have T12 := Lib.hid (T11.out.drewN HD.out q12)
            rw [← hw12] at T12
            clear hw12 I11 T11
            go_wp2_with fail
            first
              | (refine (same_true _ _ _ _ _ (over L W) _ LN.out.symm (by omega) (by have h := T12.out.z; rw [KW.out] at h; exact h.img) T12.out.y.img).mono ?_
                 rintro e w13 ⟨rfl, q13, hw13⟩
                 have T13 := Lib.hid (T12.out.drewN HD.out q13)
                 rw [← hw13] at T13
                 clear hw13 T12 KW
                 go_wp2_with fail)
              | (have T13 := T12; clear T12)
            have D13 := Lib.hid (HD.out.mono T13.out.d (av' := (· < w.heap.size)) fun i h => .inl (.inl h))
            have B13 := Lib.hid T13.out.b
            clear T13
            refine (fill_any 77 _ (by omega)).mono ?_
            rintro e w14 ⟨rfl, hb⟩
            have D14 := Lib.hid (HD.out.below D13.out hb)
            have B14 := Lib.hid (B13.out.trans (hb.mono B13.out.size))
            clear hb D13 B13
            go_wp2_with fail
            refine (HD.out.write a _ _ 0 (fillB 77) _ D14.out (by show c2 < 1000000; omega)).mono ?_
            rintro e w15 ⟨rfl, hd, hk⟩
            rw [cs_write LX.out, if_pos (show inside N 0 = true by simp [inside]; omega)] at hd
            have D15 : Hid (D w15 a (cs (over L (kept W kl)) [(0, fillB 77)] (c2 + 1)) (· < w.heap.size)) := Lib.hid hd
            have B15 := Lib.hid (B14.out.trans (hk.below fun i h => h))
            clear hd hk D14 B14
            go_wp2_with fail
            refine (HD.out.flush a _ _ _ D15.out (by show c2 + 1 < 1000000; omega)).mono ?_
            rintro e w16 ⟨rfl, hd, hk⟩
            rw [cs_flush] at hd
            have D16 := Lib.hid hd
            have B16 := Lib.hid (B15.out.trans (hk.below fun i h => h))
            clear hd hk D15 B15
            go_wp2_with fail
            refine (HD.out.crash a _ _ none 0 0 [] _ D16.out rfl (fun h => absurd h (by simp)) (fun _ g o e => by cases e) (by omega)).mono ?_
            rintro e w17 ⟨rfl, hd, hk⟩
            rw [cs_crash] at hd
            have D17 : Hid (D w17 a (cs (over (over L (kept W kl)) [(0, fillB 77)]) [] (c2 + 1 + 1)) (· < w.heap.size)) := Lib.hid hd
            have B17 := Lib.hid (B16.out.trans (hk.below fun i h => h))
            clear hd hk D16 B16
            go_wp2_with fail
            refine (HD.out.read a _ _ 0 _ D17.out).mono ?_
            rintro e w18 ⟨rfl, hd, hk⟩
            have hz := fun W => zero_blk W
            rw [(cs_read0 LX.out hN1 (fillB 77)).1, (cs_read0 LX.out hN1 (fillB 77)).2]
            have B18 := Lib.hid (B17.out.trans (hk.below fun i h => h))
            clear hd hk D17 B17
            go_wp2_with (refine store_row rfl (.tmp 17) (.tmp 179) rfl w18.heap.size (fillB 77) .zero 26 rfl rfl (heap_alloc_new w18 _) ?_; rw [World.setRow_alloc_new])
            have B19 := Lib.hid (B18.out.alloc B18.out.size (.cells (arr (fillB 77)) 26))
            have X19 := Lib.hid (At.row (heap_alloc_new w18 (.cells (arr (fillB 77)) 26)))
            generalize w18.alloc (.cells (arr (fillB 77)) 26) = w19 at B19 X19 ⊢
            generalize w18.heap.size = h18 at X19 ⊢
            clear B18
            go_wp2_with fail
            have heq1 := fun W => equalIn_blk (fillB 77) (fillB 77) W
            have d1 : decide (fillB 77 = fillB 77) = true := decide_eq_true rfl
            have hgd := blk_guard
            refine wp_region_class (More w19) (by kernel_rfl) (by kernel_rfl) (More.drew _) ?_
            repeat (first | go_big_quiet_skip | (go_big_quiet_want; first | (refine quiet_load _ rfl _ _ rfl _ (by intro w' hw'; exact X19.out.below hw') ?_; simp only [Act.put, List.setIfInBounds_toArray, List.set_cons_zero, List.set_cons_succ]; go_big_quiet_on) | (go_big_quiet_op; first | go_big_quiet_on | (apply Exists.intro; refine ⟨fun _ _ => ?_, ?_⟩; (with_reducible exact rfl); go_big_quiet_on) | go_big_quiet_call ((intro hC; first | (with_reducible refine (fill_int _ _ 77 (by decide) (by decide)).mono ?_); exact fun e w' h => ⟨h.1, hC.on h.2⟩ | (with_reducible refine (dAwake_any HD.out _).mono ?_); exact fun e w' h => ⟨h.1, hC.on h.2⟩)))))
            refine wpQuiet_nil ?_
            intro w20 hw20
            have B20 := Lib.hid (B19.out.trans (Below.mono hw20 B19.out.size))
            clear hw20
            go_wp2
            go_ret
            exact ⟨rfl, B20.out⟩
end
end Go.Proofs.Ytaipcciokhkmnaa
