import Derived.Test.YtkolpdllogpklaaCaM
import Derived.Maps.RangeWalk
import Derived.Maps.OwnSet
import Derived.Deep.AppendLies
import Derived.OwnWalk
namespace Go.Proofs.Ytkolpdllogpklaa
open Go.RowKit Go.Maps

/-! A block and a bool behind it: 257 cells. -/
@[irreducible] def hcell (X : Blk) (d : Bool) : Array Value := arr X ++ #[Value.bool d]
theorem hcell_size (X : Blk) (d : Bool) : (hcell X d).size = 257 := by unfold hcell; rw [Array.size_append, arr_size]; rfl
theorem hcell_get {X : Blk} {d : Bool} {i : Nat} (h : i < 256) : (hcell X d)[i]? = (arr X)[i]? := by unfold hcell; rw [Array.getElem?_append, if_pos (by rw [arr_size]; exact h)]
theorem hcell_last (X : Blk) (d : Bool) : (hcell X d)[256]? = some (.bool d) := by unfold hcell; rw [Array.getElem?_append, if_neg (by rw [arr_size]; omega), arr_size]; rfl
theorem hcell_one (X : Blk) (d : Bool) : (hcell X d).all (·.oneCell') = true := by
  unfold hcell
  rw [Array.all_append, arr_one]
  simp [Value.oneCell']
theorem hcell_inj {X Y : Blk} {d e : Bool} (h : hcell X d = hcell Y e) : X = Y ∧ d = e := by
  refine ⟨Blk.same fun i hi => ?_, ?_⟩
  · have h1 := congrArg (·[i]?) h
    simp only [hcell_get hi, arr_get hi] at h1
    simp at h1
    omega
  · have h1 := congrArg (·[256]?) h
    simp only [hcell_last] at h1
    simpa using h1
theorem held_info : (Try.prog.info? 75).map (fun i => (i.zero, i.size, i.bytes)) = some (some (.agg ⟨bytesOf (fun _ => 0) 256 ++ [.bool false]⟩), 257, 257) := by kernel_rfl
theorem held_two : (Try.prog.info? 75).map (fun i => (i.zero, i.size)) = some (some (.agg ⟨bytesOf (fun _ => 0) 256 ++ [.bool false]⟩), 257) := by kernel_rfl
theorem held_size : (Try.prog.info? 75).map (·.size) = some 257 := (zero_of_info held_two).2
theorem held_places : Try.prog.underlying 75 = some (.struct (Try.prog.fieldsOf 75)) := by kernel_rfl
theorem held_offs : (Try.prog.fieldsOf 75).toList.mapM (fun f => (Try.prog.info? f.type).map fun i => (f.offset, i.size)) = some [(0, 256), (256, 1)] := by kernel_rfl
set_option maxRecDepth 100000 in
theorem zero_cells : (⟨bytesOf (fun _ => 0) 256 ++ [.bool false]⟩ : Array Value) = hcell .zero false := by
  unfold hcell arr
  rfl
theorem zero_held (w : World) : (zeroValue 75).run Try.prog w = .ok (.agg (hcell .zero false)) w := by
  rw [(zero_of_info held_two).1 w, zero_cells]
theorem held_fill1 (X : Blk) {place : Nat → Option (Nat × Nat)} (h0 : place 0 = some (0, 256)) : Instr.fill place (hcell .zero false) [(0, .agg (arr X))] = some (hcell X false) := by
  rw [fill_cons h0 (by show (arr X).size = 256; exact arr_size X) (by rw [hcell_size]; omega)]
  rw [Instr.fill]
  congr 1
  apply Array.ext_getElem?
  intro i
  show (splice (hcell .zero false) 0 (arr X))[i]? = _
  rw [splice_get, hcell_size, arr_size]
  by_cases hi : i < 256
  · rw [if_pos ⟨by omega, by omega, by omega⟩, hcell_get hi, Nat.sub_zero]
  · rw [if_neg (by omega)]
    by_cases he : i = 256
    · subst he; rw [hcell_last, hcell_last]
    · rw [Array.getElem?_eq_none (by rw [hcell_size]; omega), Array.getElem?_eq_none (by rw [hcell_size]; omega)]
theorem held_fill2 (X : Blk) (d : Bool) {place : Nat → Option (Nat × Nat)} (h0 : place 0 = some (0, 256)) (h1 : place 1 = some (256, 1)) : Instr.fill place (hcell .zero false) [(0, .agg (arr X)), (1, .bool d)] = some (hcell X d) := by
  rw [fill_cons h0 (by show (arr X).size = 256; exact arr_size X) (by rw [hcell_size]; omega), fill_cons h1 rfl (by rw [splice_size, hcell_size]; omega)]
  rw [Instr.fill]
  congr 1
  apply Array.ext_getElem?
  intro i
  show (splice (splice (hcell .zero false) 0 (arr X)) 256 #[.bool d])[i]? = _
  rw [splice_get, splice_size, hcell_size]
  by_cases he : i = 256
  · subst he
    rw [if_pos ⟨by omega, by simp, by omega⟩, hcell_last]; rfl
  · rw [if_neg (by simp; omega), splice_get, hcell_size, arr_size]
    by_cases hi : i < 256
    · rw [if_pos ⟨by omega, by omega, by omega⟩, hcell_get hi, Nat.sub_zero]
    · rw [if_neg (by omega), Array.getElem?_eq_none (by rw [hcell_size]; omega), Array.getElem?_eq_none (by rw [hcell_size]; omega)]
theorem held_built1 (X : Blk) : Try.prog.built 75 [(0, .agg (arr X))] = some (hcell X false) := by
  obtain ⟨i, h1, h2⟩ := Option.map_eq_some_iff.1 held_two
  simp only [Prod.mk.injEq] at h2
  unfold Program.built
  rw [h1, held_places]
  simp only [h2.1, held_offs, zero_cells]
  exact held_fill1 X rfl
theorem held_built2 (X : Blk) (d : Bool) : Try.prog.built 75 [(0, .agg (arr X)), (1, .bool d)] = some (hcell X d) := by
  obtain ⟨i, h1, h2⟩ := Option.map_eq_some_iff.1 held_two
  simp only [Prod.mk.injEq] at h2
  unfold Program.built
  rw [h1, held_places]
  simp only [h2.1, held_offs, zero_cells]
  exact held_fill2 X d rfl rfl

/-! In a variable. -/
def HVar (w : World) (g : Nat) (X : Blk) (d : Bool) : Prop := w.heap[g]? = some (.cells (hcell X d) 75 (0, 0))
section
variable {w w' : World} {g : Nat} {X : Blk} {d : Bool}
theorem HVar.new (w : World) (X : Blk) (d : Bool) : HVar (w.alloc (.cells (hcell X d) 75)) w.heap.size X d := heap_alloc_new w _
theorem HVar.lt (h : HVar w g X d) : g < w.heap.size := (Array.getElem?_eq_some_iff.1 h).1
theorem HVar.below (h : HVar w g X d) (hb : Below w.heap.size w w') : HVar w' g X d := (hb.block _ h.lt).trans h
theorem HVar.flag (h : HVar w g X d) : w.cell? ⟨g, 256, none⟩ = some (.bool d) := (cell_of_row w g 256 _ _ _ h).trans (hcell_last X d)
theorem HVar.at (h : HVar w g X d) : At w g 0 X := .of fun i hi => by
  rw [Nat.zero_add, cell_of_row w g i _ _ _ h, hcell_get hi, arr_get hi]
theorem HVar.whole (h : HVar w g X d) : w.rangeAt g 0 (hcell X d).toList := fun i v hv => by
  rw [Nat.zero_add, cell_of_row w g i _ _ _ h]
  simpa using hv
end
section
variable {ops : Array Oper} {rest : List Oper} {op : Oper} {a : Act} {w : World} {Q : Exit → Act → World → Prop}
theorem hcell_length (X : Blk) (d : Bool) : (Try.prog.info? 75).map (·.size) = some (hcell X d).toList.length := by rw [held_size, Array.length_toList, hcell_size]
theorem load_held (hgd : op.guard = none) (x : Operand) (ho : op.op = .load 75 x) (b : Nat) (hx : a.eval x = .pointer (some ⟨b, 0, none⟩)) (X : Blk) (d : Bool) (hc : HVar w b X d)
    (h : wpList Try.prog ops Q rest (a.put op.dst (.agg (hcell X d))) w) : wpList Try.prog ops Q (op :: rest) a w :=
  wpList_load_mid hgd 75 x ho b 0 hx (hcell X d).toList _ hc.whole Try.underlying75 rfl (hcell_length X d) (by simpa using h)
theorem store_held (hgd : op.guard = none) (x y : Operand) (ho : op.op = .store 75 x y) (X : Blk) (d : Bool) (hx : a.eval x = .pointer (some ⟨w.heap.size, 0, none⟩)) (hy : a.eval y = .agg (hcell X d))
    (h : wpList Try.prog ops Q rest (a.put op.dst undef) (w.alloc (.cells (hcell X d) 75))) : wpList Try.prog ops Q (op :: rest) a (w.alloc (.cells (hcell .zero false) 75)) := by
  refine wpList_plain hgd fun _ hK => ?_
  unfold Oper.wp execOp
  have e := run_storeVar_row (P := Try.prog) (w.alloc (.cells (hcell .zero false) 75)) w.heap.size 75 75 (hcell .zero false) (hcell X d) (heap_alloc_new w _) (by rw [held_size, hcell_size]) (by rw [hcell_size, hcell_size]) (hcell_one X d)
  simp only [ho, hx, hy, Instr.storeAt, Instr.sureAddr, Sem.run_bind, Sem.run_pure, Result.andThen_ok, e]
  rw [World.setRow_alloc_new]
  exact hK _ _ h
end
theorem quiet_held1 {o : Oper} {a : Act} {C : World → Prop} {K : Act → Prop} (x : Operand) (ho : o.op = .build 75 #[(0, x)]) (X : Blk) (hx : a.eval x = .agg (arr X)) (hk : K (a.put o.dst (.agg (hcell X false)))) : o.quiet Try.prog a C K := by
  refine ⟨_, fun w hw => ?_, hk⟩
  unfold Oper.quietAt execOp
  have h := run_build (P := Try.prog) w 75 #[(0, .agg (arr X))] _ (held_built1 X)
  simp only [ho, List.map_toArray, List.map_cons, List.map_nil, hx, h, Sem.run_bind, Result.andThen_ok]
  exact ⟨rfl, by simp⟩
theorem quiet_held2 {o : Oper} {a : Act} {C : World → Prop} {K : Act → Prop} (x y : Operand) (ho : o.op = .build 75 #[(0, x), (1, y)]) (X : Blk) (d : Bool) (hx : a.eval x = .agg (arr X)) (hy : a.eval y = .bool d) (hk : K (a.put o.dst (.agg (hcell X d)))) : o.quiet Try.prog a C K := by
  refine ⟨_, fun w hw => ?_, hk⟩
  unfold Oper.quietAt execOp
  have h := run_build (P := Try.prog) w 75 #[(0, .agg (arr X)), (1, .bool d)] _ (held_built2 X d)
  simp only [ho, List.map_toArray, List.map_cons, List.map_nil, hx, hy, h, Sem.run_bind, Result.andThen_ok]
  exact ⟨rfl, by simp⟩

/-! The two maps. -/
theorem int_law : Keyed Try.prog 3 := int_keyed Try.underlying3
open Classical in
/-- How an element reads: as itself. -/
noncomputable def heldR (v : Value) : Option (DataW Value × List MemPlace) := if ∃ X d, v = .agg (hcell X d) then some (.held v, []) else none
theorem heldR_mk (X : Blk) (d : Bool) : heldR (.agg (hcell X d)) = some (.held (.agg (hcell X d)), []) := by unfold heldR; rw [if_pos ⟨X, d, rfl⟩]
theorem heldR_inv {v : Value} {y : DataW Value × List MemPlace} (h : heldR v = some y) : ∃ X d, v = .agg (hcell X d) ∧ y = (.held (.agg (hcell X d)), []) := by
  unfold heldR at h
  split at h
  · rename_i hx
    obtain ⟨X, d, rfl⟩ := hx
    cases h
    exact ⟨X, d, rfl, rfl⟩
  · cases h
def I64 (b : Int) : Prop := -9223372036854775808 ≤ b ∧ b ≤ 9223372036854775807
theorem key_wf {b : Int} (h : I64 b) : (Lit.int .i64 b).wf = true := WalkArith.wf_i64 (by unfold I64 at h; omega)
theorem key_of {b : Int} (h : I64 b) : keyOf Try.prog 3 (.int .i64 b) = some (.int .i64 b) := keyOf_int_mk Try.underlying3 (key_wf h)
theorem key_lit {b : Int} (h : I64 b) : WideAt.IsKeyLit (.int .i64 b) := int_law.key (key_of h)
theorem key_ne {a b : Int} (h : a ≠ b) : Lit.int .i64 a ≠ .int .i64 b := fun e => by cases e; exact h rfl

/-- A map of type K to E that reads, key by key, as m: its keys are blocks of 0 to N. -/
structure Reads {β : Type} (D : DataW Value) (N : Nat) (enc : β → DataW Value) (m : Int → Option β) : Prop where
  map : IsMap D
  has : ∀ b, I64 b → Maps.has D (.int .i64 b) = (m b).isSome
  at_ : ∀ b x, I64 b → m b = some x → ∀ z, D.atKey (.int .i64 b) z = enc x
  lo : ∀ b x, m b = some x → 0 ≤ b ∧ b < N
section
variable {β : Type} {D : DataW Value} {N : Nat} {enc : β → DataW Value} {m : Int → Option β}
theorem Reads.none (N : Nat) (enc : β → DataW Value) : Reads (.map []) N enc (fun _ => none) := ⟨isMap_empty, fun _ _ => rfl, fun _ _ _ h => (by cases h), fun _ _ h => (by cases h)⟩
theorem Reads.put (h : Reads D N enc m) {b : Int} (hb : I64 b) (h0 : 0 ≤ b) (h1 : b < N) (x : β) : Reads (D.put (.int .i64 b) (enc x)) N enc (setM m b (some x)) where
  map := h.map.put _ _
  has k hk := by
    by_cases e : k = b
    · subst e; rw [has_put_same h.map (key_lit hk), setM_same]; rfl
    · rw [has_put_other (key_ne e), setM_other e]; exact h.has k hk
  at_ k y hk hy z := by
    by_cases e : k = b
    · subst e; rw [setM_same] at hy; cases hy; exact atKey_put_same h.map (key_lit hk) _ _
    · rw [setM_other e] at hy; rw [atKey_put_other (key_ne e)]; exact h.at_ k y hk hy z
  lo k y hy := by
    by_cases e : k = b
    · subst e; exact ⟨h0, h1⟩
    · rw [setM_other e] at hy; exact h.lo k y hy
theorem Reads.del (h : Reads D N enc m) (b : Int) : Reads (D.del (.int .i64 b)) N enc (setM m b .none) where
  map := h.map.del _
  has k hk := by
    by_cases e : k = b
    · subst e; rw [has_del_same, setM_same]; rfl
    · rw [has_del_other (key_ne e), setM_other e]; exact h.has k hk
  at_ k y hk hy z := by
    by_cases e : k = b
    · subst e; rw [setM_same] at hy; cases hy
    · rw [setM_other e] at hy; rw [atKey_del_other (key_ne e)]; exact h.at_ k y hk hy z
  lo k y hy := by
    by_cases e : k = b
    · subst e; rw [setM_same] at hy; cases hy
    · rw [setM_other e] at hy; exact h.lo k y hy
end
/-- No more entries than there are blocks. -/
theorem reads_size {β : Type} {w : World} {R : Value → Option (DataW Value × List MemPlace)} {b n N : Nat} {D : DataW Value} {enc : β → DataW Value} {m : Int → Option β} (h : w.ownsMap Try.prog 3 R b n D) (hr : Reads D N enc m) : Maps.size D ≤ N := by
  have hent := h.entries int_law
  obtain ⟨es, clock, hb, F, hs, rfl⟩ := h
  obtain ⟨es', e, hp, hk⟩ := hent
  have hkey : ∀ p ∈ es', ∃ x, p.1 = .int .i64 x ∧ I64 x := fun p hp => by
    have hm : p ∈ (es.toList.map (WideElems.rg Try.prog 3 R)).foldr DataW.insert [] := by cases e; exact hp
    obtain ⟨key, hkey⟩ := fit_keys F p (mem_sorted.1 hm)
    obtain ⟨x, _, hx, hw⟩ := keyOf_int_inv Try.underlying3 hkey
    refine ⟨x, hx, ?_⟩
    simp [Lit.wf, IntKind.min, IntKind.max, IntKind.signed, IntKind.bits] at hw
    unfold I64
    omega
  rw [e] at hr ⊢
  have hnum : ∀ p ∈ es', ∃ x, p.1 = .int .i64 x ∧ 0 ≤ x ∧ x < N := fun p hp => by
    obtain ⟨x, hx, hi⟩ := hkey p hp
    have hh := hr.has x hi
    have : Maps.has (.map es') (.int .i64 x) = true := by
      rw [has_eq, List.any_eq_true]
      exact ⟨p, hp, by rw [hx]; exact WideAt.sameKey_self (key_lit hi)⟩
    rw [this] at hh
    obtain ⟨y, hy⟩ := Option.isSome_iff_exists.1 hh.symm
    exact ⟨x, hx, hr.lo x y hy⟩
  let g : Lit × DataW Value → Int := fun p => match p.1 with | .int _ x => x | _ => 0
  have hl : (es'.map g).length ≤ N := by
    refine nodup_le N _ ?_ fun b hb => ?_
    · refine List.pairwise_map.2 (hp.imp_of_mem fun {p q} hp' hq' hne e2 => hne ?_)
      obtain ⟨x, hx, _⟩ := hnum p hp'
      obtain ⟨y, hy, _⟩ := hnum q hq'
      simp only [g, hx, hy] at e2
      rw [hx, hy, e2]
    · obtain ⟨p, hp', rfl⟩ := List.mem_map.1 hb
      obtain ⟨x, hx, h0, h1⟩ := hnum p hp'
      simp only [g, hx]
      exact ⟨h0, h1⟩
  rw [List.length_map] at hl
  exact hl
theorem ownsMap_fit {w : World} {R : Value → Option (DataW Value × List MemPlace)} {b n : Nat} {D : DataW Value} (h : w.ownsMap Try.prog 3 R b n D) : w.ownsMap Try.prog 3 R b (Maps.size D) D := by
  obtain ⟨es, clock, hb, F, hs, rfl⟩ := h
  exact ⟨es, clock, hb, F, by rw [size_eq, length_sorted]; simp, rfl⟩
/-- What the cache has: block g is the map of what it has. -/
def encH (e : Ent) : DataW Value := .held (.agg (hcell e.1 e.2))
def encU (_ : Unit) : DataW Value := .agg []
def HMap (w : World) (g N : Nat) (m : Int → Option Ent) : Prop := ∃ D, w.ownsMap Try.prog 3 heldR g N D ∧ Reads D N encH m
def pinO (p : Int → Bool) : Int → Option Unit := fun b => if p b then some () else none
def PMap (w : World) (g N : Nat) (p : Int → Bool) : Prop := ∃ D, w.ownsMap Try.prog 3 unitElem g N D ∧ Reads D N encU (pinO p)
theorem HMap.of {w : World} {g n N : Nat} {m : Int → Option Ent} {D : DataW Value} (h : w.ownsMap Try.prog 3 heldR g n D) (hr : Reads D N encH m) : HMap w g N m := ⟨D, (ownsMap_fit h).mono (reads_size h hr), hr⟩
theorem PMap.of {w : World} {g n N : Nat} {p : Int → Bool} {D : DataW Value} (h : w.ownsMap Try.prog 3 unitElem g n D) (hr : Reads D N encU (pinO p)) : PMap w g N p := ⟨D, (ownsMap_fit h).mono (reads_size h hr), hr⟩
theorem HMap.lt {w : World} {g N : Nat} {m : Int → Option Ent} (h : HMap w g N m) : g < w.heap.size := by obtain ⟨D, h, _⟩ := h; exact h.lt
theorem PMap.lt {w : World} {g N : Nat} {p : Int → Bool} (h : PMap w g N p) : g < w.heap.size := by obtain ⟨D, h, _⟩ := h; exact h.lt
theorem owns_block {w w' : World} {R : Value → Option (DataW Value × List MemPlace)} {b n : Nat} {D : DataW Value} (h : w.ownsMap Try.prog 3 R b n D) (hk : w'.heap[b]? = w.heap[b]?) : w'.ownsMap Try.prog 3 R b n D := by
  obtain ⟨es, clock, hb, rest⟩ := h
  exact ⟨es, clock, hk.trans hb, rest⟩
theorem HMap.keep {w w' : World} {g N : Nat} {m : Int → Option Ent} (h : HMap w g N m) (hk : w'.heap[g]? = w.heap[g]?) : HMap w' g N m := by obtain ⟨D, h, hr⟩ := h; exact ⟨D, owns_block h hk, hr⟩
theorem PMap.keep {w w' : World} {g N : Nat} {p : Int → Bool} (h : PMap w g N p) (hk : w'.heap[g]? = w.heap[g]?) : PMap w' g N p := by obtain ⟨D, h, hr⟩ := h; exact ⟨D, owns_block h hk, hr⟩
theorem pinO_set (p : Int → Bool) (b : Int) (on : Bool) : pinO (setM p b on) = setM (pinO p) b (if on then some () else none) := by
  funext k
  unfold pinO setM
  split <;> rfl
theorem pinO_some (p : Int → Bool) (b : Int) : (pinO p b).isSome = p b := by unfold pinO; cases p b <;> rfl

/-! A cache in memory. -/
structure CAt (w : World) (cb bm pm : Nat) (c : CS) (av : Av) : Prop where
  cells : w.heap[cb]? = some (.cells #[.pointer (some c.a), .map (some bm), .map (some pm)] 38 (0, 0))
  has : HMap w bm c.n c.m
  pins : PMap w pm c.n c.pin
  disk : LD w c.a c.d (fun i => av i ∨ i = cb ∨ i = bm ∨ i = pm)
  ne : cb ≠ bm ∧ cb ≠ pm ∧ bm ≠ pm
  out : ¬ av cb ∧ ¬ av bm ∧ ¬ av pm
def CA (w : World) (p : Addr) (c : CS) (av : Av) : Prop := ∃ cb bm pm, p = ⟨cb, 0, none⟩ ∧ CAt w cb bm pm c av
section
variable {w w' : World} {cb bm pm : Nat} {c : CS} {av av' : Av} {p : Addr}
theorem CAt.lt (h : CAt w cb bm pm c av) : cb < w.heap.size := (Array.getElem?_eq_some_iff.1 h.cells).1
theorem CAt.c0 (h : CAt w cb bm pm c av) : w.cell? ⟨cb, 0, none⟩ = some (.pointer (some c.a)) := (cell_of_row w cb 0 _ _ _ h.cells).trans rfl
theorem CAt.c1 (h : CAt w cb bm pm c av) : w.cell? ⟨cb, 1, none⟩ = some (.map (some bm)) := (cell_of_row w cb 1 _ _ _ h.cells).trans rfl
theorem CAt.c2 (h : CAt w cb bm pm c av) : w.cell? ⟨cb, 2, none⟩ = some (.map (some pm)) := (cell_of_row w cb 2 _ _ _ h.cells).trans rfl
theorem CAt.bound (h : CAt w cb bm pm c av) : ∀ i, av i → i < w.heap.size := fun i hi => dk_bound h.disk i (.inl hi)
theorem CAt.frame (h : CAt w cb bm pm c av) (hs : w.heap.size ≤ w'.heap.size) (hk : ∀ i, i < w.heap.size → ¬ av i → w'.heap[i]? = w.heap[i]?) (hv : ∀ i, av' i → av i ∨ (w.heap.size ≤ i ∧ i < w'.heap.size)) : CAt w' cb bm pm c av' := by
  obtain ⟨o1, o2, o3⟩ := h.out
  have l1 := h.lt
  have l2 := h.has.lt
  have l3 := h.pins.lt
  have hout : ∀ j, j < w.heap.size → ¬ av j → ¬ av' j := fun j hj hn q => by
    rcases hv j q with q | q
    · exact hn q
    · omega
  refine ⟨(hk cb l1 o1).trans h.cells, h.has.keep (hk bm l2 o2), h.pins.keep (hk pm l3 o3), dk_frame h.disk hs (fun i hi hn => hk i hi fun q => hn (.inl q)) (fun i hi => ?_), h.ne, hout cb l1 o1, hout bm l2 o2, hout pm l3 o3⟩
  rcases hi with hi | hi
  · rcases hv i hi with q | q
    · exact .inl (.inl q)
    · exact .inr q
  · exact .inl (.inr hi)
theorem CAt.below (h : CAt w cb bm pm c av) (hb : Below w.heap.size w w') : CAt w' cb bm pm c av := h.frame hb.size (fun i hi _ => hb.block i hi) fun _ h => .inl h
/-- The disk is acted on. -/
theorem CAt.redisk (h : CAt w cb bm pm c av) {d' : DS} (hn : d'.safe.length = c.d.safe.length) (hd : LD w' c.a d' (fun i => av i ∨ i = cb ∨ i = bm ∨ i = pm)) (hk : Keep (fun i => av i ∨ i = cb ∨ i = bm ∨ i = pm) w w') : CAt w' cb bm pm { c with d := d' } av := by
  refine ⟨(hk.block cb (.inr (.inl rfl))).trans h.cells, ?_, ?_, hd, h.ne, h.out⟩
  · show HMap w' bm d'.safe.length c.m
    rw [hn]; exact h.has.keep (hk.block bm (.inr (.inr (.inl rfl))))
  · show PMap w' pm d'.safe.length c.pin
    rw [hn]; exact h.pins.keep (hk.block pm (.inr (.inr (.inr rfl))))
theorem mapTurned_keep {b : Nat} (h : w.mapTurned w' b) : w'.os = w.os ∧ w'.tape = w.tape ∧ w'.output = w.output ∧ w'.heap.size = w.heap.size ∧ ∀ i, i ≠ b → w'.heap[i]? = w.heap[i]? := by
  obtain ⟨es, clock, es', clock', hb, rfl⟩ := h
  exact ⟨rfl, rfl, rfl, by simp [ChangeMaps.setBlock], fun i hi => ChangeMaps.heap_setBlock_other hb _ hi⟩
/-- What it has is written. -/
theorem CAt.remap (h : CAt w cb bm pm c av) {m' : Int → Option Ent} (hm : HMap w' bm c.n m') (ht : w.mapTurned w' bm) : CAt w' cb bm pm { c with m := m' } av := by
  obtain ⟨_, _, _, hs, hk⟩ := mapTurned_keep ht
  obtain ⟨e1, e2, e3⟩ := h.ne
  exact ⟨(hk cb e1).trans h.cells, hm, h.pins.keep (hk pm (Ne.symm e3)), dk_frame h.disk (Nat.le_of_eq hs.symm) (fun i _ hn => hk i fun e => hn (.inr (.inr (.inl e)))) (fun _ q => .inl q), h.ne, h.out⟩
theorem CAt.repin (h : CAt w cb bm pm c av) {p' : Int → Bool} (hm : PMap w' pm c.n p') (ht : w.mapTurned w' pm) : CAt w' cb bm pm { c with pin := p' } av := by
  obtain ⟨_, _, _, hs, hk⟩ := mapTurned_keep ht
  obtain ⟨e1, e2, e3⟩ := h.ne
  exact ⟨(hk cb e2).trans h.cells, h.has.keep (hk bm e3), hm, dk_frame h.disk (Nat.le_of_eq hs.symm) (fun i _ hn => hk i fun e => hn (.inr (.inr (.inr e)))) (fun _ q => .inl q), h.ne, h.out⟩
theorem keep_turned {b : Nat} (ht : w.mapTurned w' b) (hb : ¬ av b) : Keep av w w' := by
  obtain ⟨e1, e2, e3, hs, hk⟩ := mapTurned_keep ht
  exact ⟨e1, e2, e3, Nat.le_of_eq hs.symm, fun i hi => hk i fun e => hb (e ▸ hi)⟩
theorem CA.below (h : CA w p c av) (hb : Below w.heap.size w w') : CA w' p c av := by obtain ⟨cb, bm, pm, e, h⟩ := h; exact ⟨cb, bm, pm, e, h.below hb⟩
theorem CA.frame (h : CA w p c av) (hs : w.heap.size ≤ w'.heap.size) (hk : ∀ i, i < w.heap.size → ¬ av i → w'.heap[i]? = w.heap[i]?) (hv : ∀ i, av' i → av i ∨ (w.heap.size ≤ i ∧ i < w'.heap.size)) : CA w' p c av' := by obtain ⟨cb, bm, pm, e, h⟩ := h; exact ⟨cb, bm, pm, e, h.frame hs hk hv⟩
theorem CA.bound (h : CA w p c av) : ∀ i, av i → i < w.heap.size := by obtain ⟨cb, bm, pm, e, h⟩ := h; exact h.bound
theorem CA.ok (h : CA w p c av) : c.d.ok := by obtain ⟨cb, bm, pm, e, h⟩ := h; exact dk_ok h.disk
theorem CA.new' (h : CA w p c av) (hb : Below w.heap.size w w') : CA w' p c (fun i => av i ∨ (w.heap.size ≤ i ∧ i < w'.heap.size)) := h.frame hb.size (fun i hi _ => hb.block i hi) fun _ h => h
theorem CA.mono (h : CA w p c av) (hv : ∀ i, av' i → av i) : CA w p c av' := h.frame (Nat.le_refl _) (fun _ _ _ => rfl) fun i hi => .inl (hv i hi)
theorem CA.cells (h : CA w p c av) {g : Nat} (hg : av g) (o : Nat) (vs : List Value) : CA (w.setCells g o vs) p c av :=
  h.frame (by rw [setCells_size]; exact Nat.le_refl _) (fun i _ hi => setCells_heap_ne g vs o w i (fun e => hi (e ▸ hg))) fun _ h => .inl h
/-- Its disk, by itself. -/
theorem CA.disk (h : CA w p c av) : ∃ av' : Av, (∀ i, av i → av' i) ∧ LD w c.a c.d av' ∧ ∀ w' d', d'.safe.length = c.d.safe.length → LD w' c.a d' av' → Keep av' w w' → CA w' p { c with d := d' } av := by
  obtain ⟨cb, bm, pm, e, h⟩ := h
  exact ⟨_, fun i hi => .inl hi, h.disk, fun w' d' hn hd hk => ⟨cb, bm, pm, e, h.redisk hn hd hk⟩⟩
end
end Go.Proofs.Ytkolpdllogpklaa
