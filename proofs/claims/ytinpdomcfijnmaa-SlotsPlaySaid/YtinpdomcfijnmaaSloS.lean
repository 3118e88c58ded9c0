import Derived.Test.YtinpdomcfijnmaaSloM
import Derived.Test.YtinpdomcfijnmaaBVar
import Derived.Test.YtinpdomcfijnmaaLow
import Derived.Laws.Tables
import Derived.Laws.IdiomStrings
import Derived.Deep.AppendLies
namespace Go.Proofs.Ytinpdomcfijnmaa
open Go.RowKit

/-! Slots in memory: one by itself, rows of them; a name out of bytes. -/
def sls (x : SlotV) : Array Value := #[.int .u32 ((x.ino : Nat) : Int), .string x.name]
/-- A slot that lies in memory. -/
def SVar (w : World) (b : Nat) (x : SlotV) : Prop := w.heap[b]? = some (.cells (sls x) 33 (0, 0))
section
variable {w w' : World} {b : Nat} {x : SlotV}
theorem SVar.lt (h : SVar w b x) : b < w.heap.size := by
  rcases Nat.lt_or_ge b w.heap.size with q | q
  · exact q
  · unfold SVar at h; rw [Array.getElem?_eq_none q] at h; cases h
theorem SVar.keep (h : SVar w b x) (hk : w'.heap[b]? = w.heap[b]?) : SVar w' b x := hk.trans h
theorem SVar.below (h : SVar w b x) (hb : Below w.heap.size w w') : SVar w' b x := h.keep (hb.block _ h.lt)
theorem SVar.only {g : Nat} (h : SVar w b x) (ho : Only g w w') (hne : b ≠ g) : SVar w' b x := h.keep (ho.block _ h.lt (fun e => by injection e with e; exact hne e))
theorem SVar.ino (h : SVar w b x) : w.cell? ⟨b, 0, none⟩ = some (.int .u32 ((x.ino : Nat) : Int)) := cell_of_row w b 0 _ _ _ h
theorem SVar.name (h : SVar w b x) : w.cell? ⟨b, 1, none⟩ = some (.string x.name) := cell_of_row w b 1 _ _ _ h
end
theorem own_set {w : World} {base g N : Nat} {f : Nat → Nat} (h : Own w base (some ⟨g, 0, none⟩) N f) {i v : Nat} (hi : i < N) (hv : v < 256) : Own (w.setCell ⟨g, i, none⟩ (.int .u8 ((v : Nat) : Int))) base (some ⟨g, 0, none⟩) N (upd f i v) := by
  refine ⟨upd_lt h.1 i v hv, fun h0 => ?_⟩
  obtain ⟨g', o, e, hb, hc⟩ := h.2 h0
  injection e with e
  injection e with e1 e2 _
  subst e1 e2
  have := hc.set i v hi
  rw [Nat.zero_add] at this
  exact ⟨g, 0, rfl, hb, this⟩
theorem own_cell {w : World} {base g N : Nat} {f : Nat → Nat} (h : Own w base (some ⟨g, 0, none⟩) N f) {i : Nat} (hi : i < N) : w.cell? ⟨g, i, none⟩ = some (.int .u8 ((f i : Nat) : Int)) ∧ w.frozen? ⟨g, i, none⟩ = false := by
  obtain ⟨g', o, e, hb, hc⟩ := h.2 (by omega)
  injection e with e
  injection e with e1 e2 _
  subst e1 e2
  have := hc.cell i hi
  rw [Nat.zero_add] at this
  exact ⟨this, hc.frozen i⟩
/-- A name out of bytes. -/
theorem to_name {w : World} {A : Option Addr} {n c : Nat} {f : Nat → Nat} (h : Row w A n f) (hn : 0 < n) : (convert 58 9 (.slice A n c)).run Try.prog w = .ok (.string (nameOf f n)) w := by
  obtain ⟨b, o, rfl, _, hc⟩ := h.2 hn
  have e := run_convert_bytes_back (P := Try.prog) w 58 9 5 ⟨b, o, none⟩ c ((List.range n).map fun i => UInt8.ofNat (f i)) Try.underlying58 Try.underlying5 Try.underlying9 (fun j hj => by
    have hj' : j < n := by simpa using hj
    rw [show (⟨b, o, none⟩ : Addr).add j = ⟨b, o + j, none⟩ by unfold Addr.add; split <;> simp_all, hc j hj']
    have := h.1 j
    simp
    omega)
  rw [List.length_map, List.length_range] at e
  exact e
theorem slot_info : (Try.prog.info? 33).map (fun i => (i.zero, i.size, i.bytes)) = some (some (.agg #[.int .u32 0, .string ⟨#[]⟩]), 2, 24) := by kernel_rfl
theorem slot_two : (Try.prog.info? 33).map (fun i => (i.zero, i.size)) = some (some (.agg #[.int .u32 0, .string ⟨#[]⟩]), 2) := by kernel_rfl
theorem slot_size2 : (Try.prog.info? 33).map (·.size) = some 2 := (zero_of_info slot_two).2
theorem slot_size (x : SlotV) : (Try.prog.info? 33).map (·.size) = some (sls x).toList.length := by rw [slot_size2]; rfl
theorem zero_slot (w : World) : (zeroValue 33).run Try.prog w = .ok (.agg (sls .free)) w := by
  rw [(zero_of_info slot_two).1 w]; rfl
theorem sls_one (x : SlotV) : (sls x).all (·.oneCell') = true := by unfold sls; simp [Value.oneCell']
theorem SVar.new (w : World) (x : SlotV) : SVar (w.alloc (.cells (sls x) 33)) w.heap.size x := heap_alloc_new w _
/-- A slot's two cells at a place. -/
def SAt (w : World) (b o : Nat) (x : SlotV) : Prop := w.rangeAt b o (sls x).toList
theorem SVar.at {w : World} {b : Nat} {x : SlotV} (h : SVar w b x) : SAt w b 0 x := fun i v hv => by
  rw [Nat.zero_add, cell_of_row w b i _ _ _ h]; simpa using hv
section
variable {ops : Array Oper} {rest : List Oper} {op : Oper} {a : Act} {w : World} {Q : Exit → Act → World → Prop}
theorem load_slot (hgd : op.guard = none) (x : Operand) (ho : op.op = .load 33 x) (b o : Nat) (hx : a.eval x = .pointer (some ⟨b, o, none⟩)) (s : SlotV) (hc : SAt w b o s)
    (h : wpList Try.prog ops Q rest (a.put op.dst (.agg (sls s))) w) : wpList Try.prog ops Q (op :: rest) a w :=
  wpList_load_mid hgd 33 x ho b o hx (sls s).toList _ hc Try.underlying33 rfl (slot_size s) (by simpa using h)
theorem load_slot_w (hw : Region.wanted op (yielded ops a.tmps) = true) (x : Operand) (ho : op.op = .load 33 x) (b o : Nat) (hx : a.eval x = .pointer (some ⟨b, o, none⟩)) (s : SlotV) (hc : SAt w b o s)
    (h : wpList Try.prog ops Q rest (a.put op.dst (.agg (sls s))) w) : wpList Try.prog ops Q (op :: rest) a w :=
  BigFrame.wpList_want hw fun _ hK => wp_load_mid 33 x ho b o hx (sls s).toList _ hc Try.underlying33 rfl (slot_size s) (hK _ _ (by simpa using h))
theorem store_newSl (hgd : op.guard = none) (x y : Operand) (ho : op.op = .store 33 x y) (s : SlotV) (hx : a.eval x = .pointer (some ⟨w.heap.size, 0, none⟩)) (hy : a.eval y = .agg (sls s))
    (h : wpList Try.prog ops Q rest (a.put op.dst undef) (w.alloc (.cells (sls s) 33))) : wpList Try.prog ops Q (op :: rest) a (w.alloc (.cells (sls .free) 33)) := by
  refine wpList_plain hgd fun _ hK => ?_
  unfold Oper.wp execOp
  have e := run_storeVar_row (P := Try.prog) (w.alloc (.cells (sls .free) 33)) w.heap.size 33 33 (sls .free) (sls s) (heap_alloc_new w _) slot_size2 rfl (sls_one s)
  simp only [ho, hx, hy, Instr.storeAt, Instr.sureAddr, Sem.run_bind, Sem.run_pure, Result.andThen_ok, e]
  rw [World.setRow_alloc_new]
  exact hK _ _ h
end
theorem SVar.setName {w : World} {b : Nat} {x : SlotV} (h : SVar w b x) (s : ByteArray) : SVar (w.setCell ⟨b, 1, none⟩ (.string s)) b ⟨x.ino, s⟩ := by
  unfold SVar at *
  rw [heap_setCell_same w b 1 _ _ _ h]; rfl
theorem SVar.frozen {w : World} {b : Nat} {x : SlotV} (h : SVar w b x) (i : Nat) : w.frozen? ⟨b, i, none⟩ = false := by
  unfold SVar at h
  simp [World.frozen?, h]
theorem slot_built1 (n : Nat) : Try.prog.built 33 [(0, .int .u32 (n : Int))] = some (sls ⟨n, ⟨#[]⟩⟩) := by kernel_rfl
theorem slot_built2 (n : Nat) (s : ByteArray) : Try.prog.built 33 [(0, .int .u32 (n : Int)), (1, .string s)] = some (sls ⟨n, s⟩) := by kernel_rfl
theorem slot_built0 : Try.prog.built 33 [] = some (sls .free) := by kernel_rfl
theorem build_slot {ops : Array Oper} {rest : List Oper} {op : Oper} {a : Act} {w : World} {Q : Exit → Act → World → Prop} (hgd : op.guard = none) (l : Array (Nat × Operand)) (ho : op.op = .build 33 l) (x : SlotV) (hb : Try.prog.built 33 (l.toList.map fun p => (p.1, a.eval p.2)) = some (sls x))
    (h : wpList Try.prog ops Q rest (a.put op.dst (.agg (sls x))) w) : wpList Try.prog ops Q (op :: rest) a w :=
  wpList_plain hgd fun _ hK => wp_build 33 l ho (by simp [hb]) (hK _ _ (by simpa [hb] using h))

/-! Rows of slots. -/
/-- The cells of the first n of some slots. -/
def slC (d : Nat → SlotV) : Nat → List Value
  | 0 => []
  | n + 1 => slC d n ++ (sls (d n)).toList
theorem slC_length (d : Nat → SlotV) : ∀ n, (slC d n).length = n * 2
  | 0 => rfl
  | n + 1 => by rw [slC, List.length_append, slC_length d n]; simp [sls]; omega
theorem slC_get {d : Nat → SlotV} {k j : Nat} : ∀ {n : Nat}, k < n → j < 2 → (slC d n)[k * 2 + j]? = (sls (d k))[j]?
  | 0, h, _ => by omega
  | n + 1, h, hj => by
    rw [slC]
    by_cases e : k = n
    · subst e
      rw [List.getElem?_append_right (by rw [slC_length]; omega), slC_length, show k * 2 + j - k * 2 = j by omega, Array.getElem?_toList]
    · rw [List.getElem?_append_left (by rw [slC_length]; omega)]
      exact slC_get (by omega) hj
/-- A list of slots as its reader sees it. -/
structure SRow (w : World) (A : Option Addr) (n : Nat) (d : Nat → SlotV) : Prop where
  mem : 0 < n → ∃ b o, A = some ⟨b, o, none⟩ ∧ b < w.heap.size ∧ ∀ k, k < n → SAt w b (o + k * 2) (d k)
theorem SAt.below {w w' : World} {b o : Nat} {x : SlotV} (h : SAt w b o x) (hb : Below w.heap.size w w') (hlt : b < w.heap.size) : SAt w' b o x := fun i v hv =>
  (hb.cell (p := ⟨b, o + i, none⟩) hlt).trans (h i v hv)
theorem SRow.below {w w' : World} {A : Option Addr} {n : Nat} {d : Nat → SlotV} (h : SRow w A n d) (hb : Below w.heap.size w w') : SRow w' A n d :=
  ⟨fun hn => by
    obtain ⟨b, o, e, hlt, hc⟩ := h.mem hn
    exact ⟨b, o, e, Nat.lt_of_lt_of_le hlt hb.size, fun k hk => (hc k hk).below hb hlt⟩⟩
theorem SRow.drewN {w : World} {A : Option Addr} {n : Nat} {d : Nat → SlotV} (h : SRow w A n d) (k : Nat) : SRow (w.drewN k) A n d := ⟨h.mem⟩
theorem SRow.nil (w : World) (A : Option Addr) (d : Nat → SlotV) : SRow w A 0 d := ⟨fun h => absurd h (Nat.lt_irrefl 0)⟩
theorem own_srow {w : World} {base n : Nat} {v : Value} {d : Nat → SlotV} (h : w.ownsRow base 33 2 v n (slC d n)) : ∃ A c, v = .slice A n c ∧ n ≤ c ∧ SRow w A n d := by
  rcases h.2 with ⟨rfl, rfl⟩ | ⟨b, cap, cur, rfl, hb, hg, hc, _, hs, ht⟩
  · exact ⟨none, 0, rfl, Nat.le_refl _, SRow.nil _ _ _⟩
  · refine ⟨_, cap, rfl, hc, ⟨fun hn => ⟨b, 0, rfl, (Array.getElem?_eq_some_iff.1 hg).1, fun k hk i u hu => ?_⟩⟩⟩
    have hi : i < 2 := by
      rcases Nat.lt_or_ge i 2 with q | q
      · exact q
      · rw [List.getElem?_eq_none (by simpa [sls] using q)] at hu; cases hu
    rw [Nat.zero_add, cell_of_row w b _ _ _ _ hg]
    have h1 := slC_get (d := d) (n := n) hk hi
    rw [← ht, List.getElem?_take_of_lt (by omega)] at h1
    rw [← Array.getElem?_toList, h1, ← Array.getElem?_toList]
    exact hu
theorem SAt.ino {w : World} {b o : Nat} {x : SlotV} (h : SAt w b o x) : w.cell? ⟨b, o, none⟩ = some (.int .u32 ((x.ino : Nat) : Int)) := h 0 _ rfl
theorem SAt.name {w : World} {b o : Nat} {x : SlotV} (h : SAt w b o x) : w.cell? ⟨b, o + 1, none⟩ = some (.string x.name) := h 1 _ rfl
end Go.Proofs.Ytinpdomcfijnmaa
