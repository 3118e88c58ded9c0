import Derived.Test.YtkolpdllogpklaaCaA
import Derived.Test.YtkolpdllogpklaaCaK
namespace Go.Proofs.Ytkolpdllogpklaa
open Go.RowKit Go.Maps

/-! CacheUnseen: what its loop keeps; the acts it reads. -/
theorem act_size11 (x : ActV) : (Try.prog.info? 25).map (·.size) = some x.cells.length := by
  show _ = some 4
  kernel_rfl
theorem act_one (x : ActV) : x.cells.toArray.all (·.oneCell') = true := by
  simp [ActV.cells, Value.oneCell']
section
variable {ops : Array Oper} {rest : List Oper} {op : Oper} {a : Act} {w : World} {Q : Exit → Act → World → Prop}
theorem load_act11 (hgd : op.guard = none) (y : Operand) (ho : op.op = .load 25 y) (b o : Nat) (hx : a.eval y = .pointer (some ⟨b, o, none⟩)) (x : ActV) (hc : w.rangeAt b o x.cells)
    (h : wpList Try.prog ops Q rest (a.put op.dst (.agg x.cells.toArray)) w) : wpList Try.prog ops Q (op :: rest) a w :=
  wpList_load_mid hgd 25 y ho b o hx x.cells _ hc Try.underlying25 rfl (act_size11 x) h
theorem store_act11 (hgd : op.guard = none) (y z : Operand) (ho : op.op = .store 25 y z) (x : ActV) (hx : a.eval y = .pointer (some ⟨w.heap.size, 0, none⟩)) (hy : a.eval z = .agg x.cells.toArray)
    (h : wpList Try.prog ops Q rest (a.put op.dst undef) (w.alloc (.cells x.cells.toArray 25))) : wpList Try.prog ops Q (op :: rest) a (w.alloc (.cells #[.int .u8 0, .int .i64 0, .int .u32 0, .slice none 0 0] 25)) := by
  refine wpList_plain hgd fun _ hK => ?_
  unfold Oper.wp execOp
  have e := run_storeVar_row (P := Try.prog) (w.alloc (.cells #[.int .u8 0, .int .i64 0, .int .u32 0, .slice none 0 0] 25)) w.heap.size 25 25 #[.int .u8 0, .int .i64 0, .int .u32 0, .slice none 0 0] x.cells.toArray (heap_alloc_new w _) (by rw [act_size11 x]; rfl) rfl (act_one x)
  simp only [ho, hx, hy, Instr.storeAt, Instr.sureAddr, Sem.run_bind, Sem.run_pure, Result.andThen_ok, e]
  rw [World.setRow_alloc_new]
  exact hK _ _ h
end
theorem quiet_u32c {o : Oper} {a : Act} {C : World → Prop} {K : Act → Prop} (x : Operand) (ho : o.op = .load 22 x) (p : Addr) (hx : a.eval x = .pointer (some p)) (k : Int) (hc : ∀ w, C w → w.cell? p = some (.int .u32 k))
    (hk : K (a.put o.dst (.int .u32 k))) : o.quiet Try.prog a C K := by
  refine ⟨_, fun w hw => ?_, hk⟩
  have h := hc w hw
  unfold Oper.quietAt execOp
  simp only [ho, hx]
  go_simp
  first | done | exact ⟨rfl, hw⟩ | exact hw
structure RU (w : World) (p a : Addr) (g N k : Nat) (c : CS) (M : List Blk) (wr : World) : Prop where
  ca : CA wr p c fun i => i < w.heap.size ∨ i = g
  row : OImg wr g 0 M
  low : Below w.heap.size w wr
  at_ : w.heap.size ≤ g
  fine : Fine c M
  disk : c.a = a
  acts : c.d.acts ≤ 65 * k
  len : M.length = N
section
variable {w wr w' : World} {p a : Addr} {g N k : Nat} {c c' : CS} {M M' : List Blk}
theorem RU.keep (h : RU w p a g N k c M wr) (hc : CA w' p c' fun i => i < w.heap.size ∨ i = g) (hk : Keep (fun i => i < w.heap.size ∨ i = g) wr w') (hf : Fine c' M) (ha : c'.a = c.a) (hd : c'.d.acts ≤ c.d.acts + 65) : RU w p a g N (k + 1) c' M w' :=
  ⟨hc, h.row.keep (hk.block g (.inr rfl)), h.low.trans (hk.below fun _ hi => .inl hi), h.at_, hf, ha.trans h.disk, Nat.le_trans hd (by have := h.acts; omega), h.len⟩
theorem RU.keep0 (h : RU w p a g N k c M wr) (hc : CA w' p c' fun i => i < w.heap.size ∨ i = g) (hk : Keep (fun i => i < w.heap.size ∨ i = g) wr w') (hf : Fine c' M) (ha : c'.a = c.a) (hd : c'.d.acts ≤ c.d.acts) : RU w p a g N k c' M w' :=
  ⟨hc, h.row.keep (hk.block g (.inr rfl)), h.low.trans (hk.below fun _ hi => .inl hi), h.at_, hf, ha.trans h.disk, Nat.le_trans hd h.acts, h.len⟩
theorem RU.below (h : RU w p a g N k c M wr) (hb : Below wr.heap.size wr w') : RU w p a g N k c M w' :=
  ⟨h.ca.below hb, h.row.keep (hb.block g h.row.lt), h.low.trans (hb.mono h.low.size), h.at_, h.fine, h.disk, h.acts, h.len⟩
theorem RU.next (h : RU w p a g N k c M wr) : RU w p a g N (k + 1) c M wr := ⟨h.ca, h.row, h.low, h.at_, h.fine, h.disk, by have := h.acts; omega, h.len⟩
theorem RU.n (h : RU w p a g N k c M wr) : c.n = N := h.fine.len.trans h.len
end
theorem backs_a : ∀ (l : List Int) (c : CS), (c.backs l).1.a = c.a
  | [], _ => rfl
  | b :: r, c => by
    unfold CS.backs
    split
    · rw [backs_a r]; exact (back_a c b).1
    · first | rfl | exact (back_a c b).1
theorem flush_acts (s : DS) : s.flush.acts ≤ s.acts + 1 := by
  unfold DS.flush
  split
  · first | exact Nat.le_refl _ | exact Nat.le_succ _ | (show s.acts + 1 ≤ _; omega)
  · first | exact Nat.le_refl _ | exact Nat.le_succ _ | (show s.acts + 1 ≤ _; omega)
theorem sync_a (c : CS) : c.sync.1.a = c.a := by
  unfold CS.sync
  split
  · exact backs_a _ _
  · exact backs_a _ _
theorem sync_acts (c : CS) (hn : c.n ≤ 64) : c.sync.1.d.acts ≤ c.d.acts + 65 := by
  have h1 := CS.backs_acts c.dirty c
  have h2 : c.dirty.length ≤ 64 := Nat.le_trans (pickL_length _ _) hn
  unfold CS.sync
  split
  · have h3 := flush_acts (c.backs c.dirty).1.d
    show (c.backs c.dirty).1.d.flush.acts ≤ _
    omega
  · show (c.backs c.dirty).1.d.acts ≤ _
    omega
theorem setPin_a (c : CS) (b : Int) (on : Bool) : (c.setPin b on).a = c.a ∧ (c.setPin b on).d = c.d := by unfold CS.setPin; split <;> exact ⟨rfl, rfl⟩
/-- What it keeps behind its Sync. -/
structure UE (w : World) (p : Addr) (g g2 o2 N : Nat) (c : CS) (M : List Blk) (wr : World) : Prop where
  ca : CA wr p c fun i => (i < w.heap.size ∨ i = g) ∨ i = g2
  row : OImg wr g 0 M
  srow : OImg wr g2 o2 M
  low : Below w.heap.size w wr
  fine : Fine c M
  len : M.length = N
section
variable {w wr w' : World} {p : Addr} {g g2 o2 N : Nat} {c c' : CS} {M : List Blk}
theorem UE.keep (h : UE w p g g2 o2 N c M wr) (hc : CA w' p c' fun i => (i < w.heap.size ∨ i = g) ∨ i = g2) (hk : Keep (fun i => (i < w.heap.size ∨ i = g) ∨ i = g2) wr w') (hf : Fine c' M) : UE w p g g2 o2 N c' M w' :=
  ⟨hc, h.row.keep (hk.block g (.inl (.inr rfl))), h.srow.keep (hk.block g2 (.inr rfl)), h.low.trans (hk.below fun _ hi => .inl (.inl hi)), hf, h.len⟩
theorem UE.below (h : UE w p g g2 o2 N c M wr) (hb : Below wr.heap.size wr w') : UE w p g g2 o2 N c M w' :=
  ⟨h.ca.below hb, h.row.keep (hb.block g h.row.lt), h.srow.keep (hb.block g2 h.srow.lt), h.low.trans (hb.mono h.low.size), h.fine, h.len⟩
theorem UE.n (h : UE w p g g2 o2 N c M wr) : c.n = N := h.fine.len.trans h.len
end
end Go.Proofs.Ytkolpdllogpklaa
