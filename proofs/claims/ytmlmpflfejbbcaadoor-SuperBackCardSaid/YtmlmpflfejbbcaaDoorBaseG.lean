import Derived.Test.YtmlmpflfejbbcaaDoorRows
import Derived.WalkKit
import Derived.WalkSpells
import Derived.WalkLawsBesides
import Derived.Lib.Hide
import Derived.Laws.BitsAllLaws
import Derived.Laws.Rows
import Derived.Laws.NewBlocks
import Derived.Deep.MidRow
import Derived.Deep.WholeRow
import Derived.Deep.LoopGhost
import Derived.Outline
import Derived.Below
import Derived.Stop.BytesEq
import Derived.Laws.MakeOwn
import Derived.Deep.QuietTactic
import Derived.BigQuiet
import Derived.Laws.CopyOwn
namespace Go.Proofs.YtmlmpflfejbbcaaDoor
open Go.RowKit

/-! Blocks: 256 bytes, told by a function of the place. -/
structure Blk where
  f : Nat → Nat
  lt : ∀ i, f i < 256
  past : ∀ i, 256 ≤ i → f i = 0
theorem Blk.same {x y : Blk} (h : ∀ i, i < 256 → x.f i = y.f i) : x = y := by
  obtain ⟨f, hf, h0⟩ := x
  obtain ⟨g, hg, g0⟩ := y
  have e : f = g := by
    funext i
    by_cases hi : i < 256
    · exact h i hi
    · rw [h0 i (by omega), g0 i (by omega)]
  subst e; rfl
def Blk.of (f : Nat → Nat) (h : ∀ i, i < 256 → f i < 256) : Blk := ⟨fun i => if i < 256 then f i else 0, fun i => by by_cases hi : i < 256 <;> simp [hi, h], fun i hi => if_neg (by omega)⟩
theorem Blk.of_f {f : Nat → Nat} {h : ∀ i, i < 256 → f i < 256} {i : Nat} (hi : i < 256) : (Blk.of f h).f i = f i := if_pos hi
def Blk.zero : Blk := ⟨fun _ => 0, fun _ => by omega, fun _ _ => rfl⟩
def Blk.set (x : Blk) (k v : Nat) (hv : v < 256) : Blk := .of (fun i => if i = k then v else x.f i) fun i _ => by split; exact hv; exact x.lt i
noncomputable instance : DecidableEq Blk := fun x y => Classical.propDecidable (x = y)
noncomputable instance : Inhabited Blk := ⟨.zero⟩

def bytesOf (f : Nat → Nat) (n : Nat) : List Value := (List.range n).map fun i => Value.int .u8 ((f i : Nat) : Int)
@[irreducible] def arr (x : Blk) : Array Value := ⟨bytesOf x.f 256⟩
theorem bytesOf_length (f : Nat → Nat) (n : Nat) : (bytesOf f n).length = n := by simp [bytesOf]
theorem bytesOf_get {f : Nat → Nat} {n i : Nat} (h : i < n) : (bytesOf f n)[i]? = some (.int .u8 ((f i : Nat) : Int)) := by
  simp [bytesOf, List.getElem?_range h]
theorem arr_size (x : Blk) : (arr x).size = 256 := by unfold arr; exact bytesOf_length x.f 256
theorem arr_get {x : Blk} {i : Nat} (h : i < 256) : (arr x)[i]? = some (.int .u8 ((x.f i : Nat) : Int)) := by
  unfold arr; simp; exact bytesOf_get h
theorem arr_list (x : Blk) : (arr x).toList = bytesOf x.f 256 := by unfold arr; rfl
theorem arr_length (x : Blk) : (arr x).toList.length = 256 := by rw [arr_list]; exact bytesOf_length x.f 256
theorem arr_one (x : Blk) : (arr x).all (·.oneCell') = true := by
  rw [Array.all_eq_true_iff_forall_mem]
  intro v hv
  rw [← Array.mem_toList_iff, arr_list] at hv
  simp only [bytesOf, List.mem_map] at hv
  obtain ⟨i, _, rfl⟩ := hv
  rfl
theorem arr_ext {A : Array Value} {x : Blk} (hs : A.size = 256) (h : ∀ i, i < 256 → A[i]? = some (.int .u8 ((x.f i : Nat) : Int))) : A = arr x := by
  apply Array.ext_getElem?
  intro i
  by_cases hi : i < 256
  · rw [h i hi, arr_get hi]
  · rw [Array.getElem?_eq_none (by omega), Array.getElem?_eq_none (by rw [arr_size]; omega)]
theorem arr_inj {x y : Blk} (h : arr x = arr y) : x = y := Blk.same fun i hi => by
  have e := congrArg (·[i]?) h
  simp only [arr_get hi] at e
  simp at e
  omega
theorem arr_set {x : Blk} (k v : Nat) (hv : v < 256) : (arr x).setIfInBounds k (.int .u8 ((v : Nat) : Int)) = arr (x.set k v hv) := by
  refine arr_ext (by rw [Array.size_setIfInBounds, arr_size]) fun i hi => ?_
  unfold Blk.set
  rw [Blk.of_f hi]
  by_cases e : k = i
  · subst e
    rw [Array.getElem?_setIfInBounds_self_of_lt (by rw [arr_size]; exact hi), if_pos rfl]
  · rw [Array.getElem?_setIfInBounds_ne e, arr_get hi, if_neg (fun q => e q.symm)]

/-! In memory. -/
def At (w : World) (b o : Nat) (x : Blk) : Prop := w.rangeAt b o (arr x).toList
theorem At.cell {w : World} {b o : Nat} {x : Blk} (h : At w b o x) {i : Nat} (hi : i < 256) : w.cell? ⟨b, o + i, none⟩ = some (.int .u8 ((x.f i : Nat) : Int)) :=
  h i _ (by rw [arr_list]; exact bytesOf_get hi)
theorem At.of {w : World} {b o : Nat} {x : Blk} (h : ∀ i, i < 256 → w.cell? ⟨b, o + i, none⟩ = some (.int .u8 ((x.f i : Nat) : Int))) : At w b o x := fun j v hv => by
  rw [arr_list] at hv
  have hj : j < 256 := by
    rcases Nat.lt_or_ge j 256 with q | q
    · exact q
    · rw [List.getElem?_eq_none (by rw [bytesOf_length]; exact q)] at hv; cases hv
  rw [bytesOf_get hj] at hv
  cases hv
  exact h j hj
theorem At.lt {w : World} {b o : Nat} {x : Blk} (h : At w b o x) : b < w.heap.size := World.block_lt_of_cell? w _ (h.cell (i := 0) (by omega))
theorem At.keep {w w' : World} {b o : Nat} {x : Blk} (h : At w b o x) (hk : w'.heap[b]? = w.heap[b]?) : At w' b o x := .of fun i hi => by
  rw [← h.cell hi]; simp [World.cell?, hk]
theorem At.row {w : World} {b : Nat} {x : Blk} {t : TypeId} {fr : Nat × Nat} (h : w.heap[b]? = some (.cells (arr x) t fr)) : At w b 0 x := .of fun i hi => by
  rw [Nat.zero_add, cell_of_row w b i (arr x) t fr h, arr_get hi]

theorem blk_info : (Tryd.prog.info? 29).map (fun i => (i.zero, i.size)) = some (some (.agg ⟨bytesOf (fun _ => 0) 256⟩), 256) := by kernel_rfl
theorem blk_size : (Tryd.prog.info? 29).map (·.size) = some 256 := (zero_of_info blk_info).2
theorem zero_blk (w : World) : (zeroValue 29).run Tryd.prog w = .ok (.agg (arr .zero)) w := by
  have h := (zero_of_info blk_info).1 w
  rw [h]; unfold arr; rfl

section
variable {ops : Array Oper} {rest : List Oper} {op : Oper} {a : Act} {w : World} {Q : Exit → Act → World → Prop}
theorem load_blk (hgd : op.guard = none) (x : Operand) (ho : op.op = .load 29 x) (b o : Nat) (hx : a.eval x = .pointer (some ⟨b, o, none⟩)) (X : Blk) (hc : At w b o X)
    (h : wpList Tryd.prog ops Q rest (a.put op.dst (.agg (arr X))) w) : wpList Tryd.prog ops Q (op :: rest) a w :=
  wpList_load_mid hgd 29 x ho b o hx (arr X).toList _ hc Tryd.underlying29 rfl (by rw [arr_length]; exact blk_size) (by simpa using h)
theorem store_blk (hgd : op.guard = none) (x y : Operand) (ho : op.op = .store 29 x y) (b o : Nat) (X : Blk) (hx : a.eval x = .pointer (some ⟨b, o, none⟩)) (hy : a.eval y = .agg (arr X)) (ht : w.there b o 256)
    (h : wpList Tryd.prog ops Q rest (a.put op.dst undef) (w.setCells b o (arr X).toList)) : wpList Tryd.prog ops Q (op :: rest) a w :=
  wpList_store_mid hgd 29 x y ho b o (arr X) hx hy (by rw [arr_size]; exact ht) (by rw [arr_size]; exact blk_size) (arr_one X) h
/-- A whole variable: the row that was there is known. -/
theorem store_row (hgd : op.guard = none) (x y : Operand) (ho : op.op = .store 29 x y) (b : Nat) (X Y : Blk) (t : TypeId) (hx : a.eval x = .pointer (some ⟨b, 0, none⟩)) (hy : a.eval y = .agg (arr X)) (hb : w.heap[b]? = some (.cells (arr Y) t (0, 0)))
    (h : wpList Tryd.prog ops Q rest (a.put op.dst undef) (w.setRow b (arr X))) : wpList Tryd.prog ops Q (op :: rest) a w := by
  refine wpList_plain hgd fun _ hK => ?_
  unfold Oper.wp execOp
  simp only [ho, hx, hy, Instr.storeAt, Instr.sureAddr, Sem.run_bind, Sem.run_pure, Result.andThen_ok, run_storeVar_row w b t 29 (arr Y) (arr X) hb (by rw [arr_size]; exact blk_size) (by rw [arr_size, arr_size]) (arr_one X)]
  exact hK _ _ h
end

/-! Two blocks held against one another. -/
def octets (x : Blk) : List UInt8 := (List.range 256).map fun i => UInt8.ofNat (x.f i)
theorem octets_length (x : Blk) : (octets x).length = 256 := by simp [octets]
theorem octets_get {x : Blk} {i : Nat} (h : i < 256) : (octets x)[i]? = some (UInt8.ofNat (x.f i)) := by
  simp [octets, List.getElem?_range h]
theorem arr_octets (x : Blk) : ((octets x).map Extern.Stop.cell).toArray = arr x := by
  refine arr_ext (by simp [octets_length]) fun i hi => ?_
  have := x.lt i
  simp [octets_get hi, Extern.Stop.cell, Nat.mod_eq_of_lt this]
theorem octets_beq (x y : Blk) : (octets x == octets y) = decide (x = y) := by
  rw [Bool.eq_iff_iff, beq_iff_eq, decide_eq_true_iff]
  constructor
  · intro h
    exact arr_inj (by rw [← arr_octets, ← arr_octets, h])
  · rintro rfl; rfl
theorem u8_size (w : World) : (sizeOf 5).run Tryd.prog w = .ok 1 w := by kernel_rfl
theorem equalIn_blk (x y : Blk) (w : World) : (Op.equalIn 10000 29 (.agg (arr x)) (.agg (arr y))).run Tryd.prog w = .ok (decide (x = y)) w := by
  rw [← arr_octets x, ← arr_octets y, ← octets_beq]
  exact run_equalIn_bytes w 9998 29 5 256 Tryd.underlying29 Tryd.underlying5 u8_size _ _ (octets_length x) (octets_length y)
theorem blk_guard : Tryd.prog.eqGuardType Tryd.prog.depth 29 = false := by kernel_rfl

/-! Lists of blocks. The slice value '.slice A l.length _' reads as the blocks l. -/
def Img (w : World) (A : Option Addr) (l : List Blk) : Prop := 0 < l.length → ∃ b o, A = some ⟨b, o, none⟩ ∧ b < w.heap.size ∧ ∀ i x, l[i]? = some x → At w b (o + i * 256) x
theorem Img.keep {w w' : World} {A : Option Addr} {l : List Blk} (h : Img w A l) (hs : w.heap.size ≤ w'.heap.size) (hk : ∀ b o, A = some ⟨b, o, none⟩ → w'.heap[b]? = w.heap[b]?) : Img w' A l := fun h0 => by
  obtain ⟨b, o, e, hb, hc⟩ := h h0
  exact ⟨b, o, e, Nat.lt_of_lt_of_le hb hs, fun i x hx => (hc i x hx).keep (hk b o e)⟩
theorem Img.below {w w' : World} {A : Option Addr} {l : List Blk} (h : Img w A l) (hb : Below w.heap.size w w') : Img w' A l := fun h0 => by
  obtain ⟨b, o, e, hlt, hc⟩ := h h0
  exact ⟨b, o, e, Nat.lt_of_lt_of_le hlt hb.size, fun i x hx => (hc i x hx).keep (hb.block b hlt)⟩
theorem Img.nil (w : World) (A : Option Addr) : Img w A [] := fun h => absurd h (by simp)

/-- .. in a block that may be written. -/
def OImg (w : World) (g o : Nat) (l : List Blk) : Prop := ∃ (t : TypeId) (cs : Array Value), w.heap[g]? = some (.cells cs t (0, 0)) ∧ ∀ i x, l[i]? = some x → ∀ j, j < 256 → cs[o + i * 256 + j]? = some (.int .u8 ((x.f j : Nat) : Int))
theorem OImg.lt {w : World} {g o : Nat} {l : List Blk} (h : OImg w g o l) : g < w.heap.size := by
  obtain ⟨t, cs, h, _⟩ := h
  rcases Nat.lt_or_ge g w.heap.size with q | q
  · exact q
  · rw [Array.getElem?_eq_none q] at h; cases h
theorem OImg.at {w : World} {g o : Nat} {l : List Blk} (h : OImg w g o l) {i : Nat} {x : Blk} (hx : l[i]? = some x) : At w g (o + i * 256) x := .of fun j hj => by
  obtain ⟨t, cs, h, hc⟩ := h
  rw [cell_of_row w g _ cs t (0, 0) h]
  exact hc i x hx j hj
theorem OImg.img {w : World} {g o : Nat} {l : List Blk} (h : OImg w g o l) : Img w (some ⟨g, o, none⟩) l := fun _ => ⟨g, o, rfl, h.lt, fun _ _ hx => h.at hx⟩
theorem OImg.keep {w w' : World} {g o : Nat} {l : List Blk} (h : OImg w g o l) (hk : w'.heap[g]? = w.heap[g]?) : OImg w' g o l := by
  obtain ⟨t, cs, h, hc⟩ := h
  exact ⟨t, cs, hk.trans h, hc⟩
theorem OImg.there {w : World} {g o : Nat} {l : List Blk} (h : OImg w g o l) {i : Nat} (hi : i < l.length) : w.there g (o + i * 256) 256 := fun j hj => by
  refine ⟨by rw [(h.at (List.getElem?_eq_getElem hi)).cell hj]; rfl, ?_⟩
  obtain ⟨t, cs, h, _⟩ := h
  simp [World.frozen?, h]
theorem setCells_heap_ne (b : Nat) : ∀ (vs : List Value) (o : Nat) (w : World) (k : Nat), k ≠ b → (w.setCells b o vs).heap[k]? = w.heap[k]?
  | [], _, _, _, _ => rfl
  | v :: r, o, w, k, h => by rw [World.setCells, setCells_heap_ne b r (o + 1) _ k h]; exact Below.heap_setCell w _ v k h
theorem setCells_size (b : Nat) : ∀ (vs : List Value) (o : Nat) (w : World), (w.setCells b o vs).heap.size = w.heap.size
  | [], _, _ => rfl
  | v :: r, o, w => by rw [World.setCells, setCells_size b r (o + 1)]; simp [World.setCell]
theorem setCells_row (b : Nat) (t : TypeId) : ∀ (vs : List Value) (o : Nat) (w : World) (cs : Array Value), w.heap[b]? = some (.cells cs t (0, 0)) → ∃ cs', (w.setCells b o vs).heap[b]? = some (.cells cs' t (0, 0))
  | [], _, _, cs, h => ⟨cs, h⟩
  | v :: r, o, w, cs, h => by rw [World.setCells]; exact setCells_row b t r (o + 1) _ _ (heap_setCell_same w b o cs t v h)
theorem setCells_only (b : Nat) : ∀ (vs : List Value) (o : Nat) (w : World), (w.setCells b o vs).os = w.os ∧ (w.setCells b o vs).tape = w.tape ∧ (w.setCells b o vs).output = w.output
  | [], _, _ => ⟨rfl, rfl, rfl⟩
  | v :: r, o, w => by rw [World.setCells]; exact setCells_only b r (o + 1) _
theorem OImg.set {w : World} {g o : Nat} {l : List Blk} (h : OImg w g o l) {i : Nat} (hi : i < l.length) (X : Blk) : OImg (w.setCells g (o + i * 256) (arr X).toList) g o (l.set i X) := by
  have ht := h.there hi
  have hat := fun k x hx => h.at (i := k) (x := x) hx
  obtain ⟨t, cs, h, hc⟩ := h
  obtain ⟨cs', h'⟩ := setCells_row g t (arr X).toList (o + i * 256) w cs h
  refine ⟨t, cs', h', fun k x hx j hj => ?_⟩
  have hcell : (w.setCells g (o + i * 256) (arr X).toList).cell? ⟨g, o + k * 256 + j, none⟩ = some (.int .u8 ((x.f j : Nat) : Int)) := by
    rw [List.getElem?_set] at hx
    by_cases e : i = k
    · subst e
      rw [if_pos rfl, if_pos hi] at hx
      cases hx
      exact World.rangeAt_setCells_same w g (o + i * 256) (arr X).toList (by rw [arr_length]; exact ht) j _ (by rw [arr_list]; exact bytesOf_get hj)
    · rw [if_neg e] at hx
      exact World.rangeAt_setCells_apart (hat k x hx) g (o + i * 256) (arr X).toList (by rw [arr_length, arr_length]; right; omega) j _ (by rw [arr_list]; exact bytesOf_get hj)
  rw [cell_of_row _ g _ cs' t (0, 0) h'] at hcell
  exact hcell

/-! A block that is read in a region that draws its order. -/
theorem quiet_load {o : Oper} {a : Act} {C : World → Prop} {K : Act → Prop} (x : Operand) (ho : o.op = .load 29 x) (b off : Nat) (hx : a.eval x = .pointer (some ⟨b, off, none⟩)) (X : Blk) (hc : ∀ w, C w → At w b off X)
    (hk : K (a.put o.dst (.agg (arr X)))) : o.quiet Tryd.prog a C K := by
  refine ⟨_, fun w hw => ?_, hk⟩
  unfold Oper.quietAt execOp
  have h := run_loadAt_mid (P := Tryd.prog) w b off 29 (arr X).toList _ (hc w hw) Tryd.underlying29 rfl (by rw [arr_length]; exact blk_size)
  simp only [ho, hx, h, Sem.run_bind, Sem.run_pure, Result.andThen_ok]
  exact ⟨rfl, by simp⟩

/-! make([]Block, n). -/
@[irreducible] def madeBlks (n : Nat) : Array Value := madeCells (arr .zero) (n * 256)
theorem madeBlks_get {n k : Nat} (h : k < n * 256) : (madeBlks n)[k]? = some (.int .u8 0) := by
  unfold madeBlks madeCells
  rw [Array.getElem?_map, Array.getElem?_range]
  rw [if_pos h]
  have hm : k % (arr Blk.zero).size < 256 := by rw [arr_size]; exact Nat.mod_lt _ (by omega)
  have := arr_get (x := Blk.zero) hm
  simp only [Option.map_some]
  rw [Array.getElem!_eq_getD, Array.getD_eq_getD_getElem?, this]
  rfl
theorem blk_row : (Tryd.prog.info? 29).map (fun i => (i.zero, i.size, i.bytes)) = some (some (.agg ⟨bytesOf (fun _ => 0) 256⟩), 256, 256) := by kernel_rfl
theorem OImg.made (w : World) (n : Nat) (t : TypeId) : OImg (w.alloc (.cells (madeBlks n) t)) w.heap.size 0 (List.replicate n .zero) := by
  refine ⟨t, _, heap_alloc_new w _, fun i x hx j hj => ?_⟩
  rw [List.getElem?_replicate] at hx
  split at hx
  · cases hx
    rename_i hi
    rw [madeBlks_get (by omega)]
    rfl
  · cases hx

theorem cell_out {w : World} {g o : Nat} {vs : List Value} {p : Addr} (h : p.block ≠ g) : (w.setCells g o vs).cell? p = w.cell? p := by
  simp [World.cell?, setCells_heap_ne g vs o w p.block h]
theorem there_below {w w' : World} {g o n : Nat} (h : w.there g o n) (hb : Below w.heap.size w w') : w'.there g o n := fun j hj => by
  obtain ⟨h1, h2⟩ := h j hj
  obtain ⟨u, hu⟩ := Option.isSome_iff_exists.1 h1
  have hlt := World.block_lt_of_cell? w _ hu
  exact ⟨by rw [hb.cell hlt]; exact h1, by rw [hb.frozen hlt]; exact h2⟩

/-! The same where the operation bears a guard that says yes. -/
theorem load_blk_w {ops : Array Oper} {rest : List Oper} {op : Oper} {a : Act} {w : World} {Q : Exit → Act → World → Prop} (hw : Region.wanted op (yielded ops a.tmps) = true) (x : Operand) (ho : op.op = .load 29 x) (b o : Nat) (hx : a.eval x = .pointer (some ⟨b, o, none⟩)) (X : Blk) (hc : At w b o X)
    (h : wpList Tryd.prog ops Q rest (a.put op.dst (.agg (arr X))) w) : wpList Tryd.prog ops Q (op :: rest) a w :=
  BigFrame.wpList_want hw fun _ hK => wp_load_mid 29 x ho b o hx (arr X).toList _ hc Tryd.underlying29 rfl (by rw [arr_length]; exact blk_size) (hK _ _ (by simpa using h))
theorem built_zero : Tryd.prog.built 29 [] = some (arr .zero) := by
  have h : Tryd.prog.built 29 [] = some ⟨bytesOf (fun _ => 0) 256⟩ := by kernel_rfl
  rw [h]; unfold arr; rfl
theorem build_zero_w {ops : Array Oper} {rest : List Oper} {op : Oper} {a : Act} {w : World} {Q : Exit → Act → World → Prop} (hw : Region.wanted op (yielded ops a.tmps) = true) (ho : op.op = .build 29 #[])
    (h : wpList Tryd.prog ops Q rest (a.put op.dst (.agg (arr .zero))) w) : wpList Tryd.prog ops Q (op :: rest) a w :=
  BigFrame.wpList_want hw fun _ hK => wp_build 29 #[] ho (by simp [built_zero]) (hK _ _ (by simpa [built_zero] using h))

/-- One walk in the text's order, in a class of worlds that every operation and every callee keeps (their values must be the same in all of them). -/
theorem wp_region_class {id : Nat} {Q : Exit → Act → World → Prop} {a : Act} {w : World} {l : List Oper} (C : World → Prop) (hm : Tryd.prog.follows .mixedOrders = true) (hB : Region.lexB .any l.toArray = true) (hC : C w.drew)
    (h : wpQuiet Tryd.prog l.toArray C (fun a' => ∀ w', C w' → Q .normal a' w') l a) : (Code.region id l.toArray true).wp Tryd.prog Q a w :=
  wp_region_quiet (C := C) hm hB hC (by simpa using h)
theorem At.below {w w' : World} {b o : Nat} {x : Blk} (h : At w b o x) (hb : Below w.heap.size w w') : At w' b o x := h.keep (hb.block b h.lt)
/-- The worlds that have only more memory than w. -/
def More (w w' : World) : Prop := Below w.heap.size w w'
theorem More.drew (w : World) : More w w.drew := ⟨rfl, rfl, rfl, Nat.le_refl _, fun _ _ => rfl⟩
theorem More.on {w w' w'' : World} (h : More w w') (hb : Below w'.heap.size w' w'') : More w w'' := Below.trans h (hb.mono (Below.size h))

end Go.Proofs.YtmlmpflfejbbcaaDoor
namespace Go.Proofs.YtmlmpflfejbbcaaDoor
open Go.RowKit

def I64 (i : Int) : Prop := -9223372036854775808 ≤ i ∧ i ≤ 9223372036854775807
/-- A number that is read in such a region. -/
theorem quiet_int {o : Oper} {a : Act} {C : World → Prop} {K : Act → Prop} (x : Operand) (ho : o.op = .load 3 x) (p : Addr) (hx : a.eval x = .pointer (some p)) (k : Int) (hc : ∀ w, C w → w.cell? p = some (.int .i64 k))
    (hk : K (a.put o.dst (.int .i64 k))) : o.quiet Tryd.prog a C K := by
  refine ⟨_, fun w hw => ?_, hk⟩
  have h := hc w hw
  unfold Oper.quietAt execOp
  simp only [ho, hx]
  go_simp
  first | done | exact ⟨rfl, hw⟩ | exact hw
end Go.Proofs.YtmlmpflfejbbcaaDoor
namespace Go.Proofs.YtmlmpflfejbbcaaDoor
open Go.RowKit

/-! Geometries, and what the document says of them. -/
structure GeoV where
  gr : Int
  sz : Int
  ino : Int
  jr : Int
structure GeoV.Fits (g : GeoV) : Prop where
  gr : I64 g.gr
  sz : I64 g.sz
  ino : I64 g.ino
  jr : I64 g.jr
@[irreducible] def gcs (g : GeoV) : Array Value := #[.int .i64 g.gr, .int .i64 g.sz, .int .i64 g.ino, .int .i64 g.jr]
def May (g : GeoV) : Prop := 1 ≤ g.gr ∧ g.gr ≤ 4 ∧ 16 ≤ g.sz ∧ g.sz ≤ 512 ∧ 4 ≤ g.ino ∧ g.ino ≤ 64 ∧ g.ino % 4 = 0 ∧ 40 ≤ g.jr ∧ g.jr ≤ 256 ∧ 3 + g.ino / 4 ≤ g.sz ∧ 2 + g.jr + g.gr * g.sz ≤ 2048
instance (g : GeoV) : Decidable (May g) := by unfold May; infer_instance
def mayB (g : GeoV) : Bool := decide (May g)
def blocksG (g : GeoV) : Int := if May g then 2 + g.jr + g.gr * g.sz else 0
def inodesG (g : GeoV) : Int := if May g then g.gr * g.ino else 0
def dataG (g : GeoV) : Int := if May g then g.sz - 2 - g.ino / 4 else 0
def inGroup (g : GeoV) (k : Int) : Bool := decide (May g ∧ 0 ≤ k ∧ k < g.gr)
def startG (g : GeoV) (k : Int) : Int := if inGroup g k then 2 + g.jr + k * g.sz else 0
/-- What a block is: kind, group, place. -/
def whatG (g : GeoV) (b : Int) : Int × Int × Int :=
  if ¬ May g ∨ b < 0 ∨ blocksG g ≤ b then (0, 0, 0)
  else if b = 0 then (1, 0, 0)
  else if b = 1 then (2, 0, 0)
  else if b < 2 + g.jr then (3, 0, b - 2)
  else
    let k := (b - 2 - g.jr) / g.sz
    let at' := (b - 2 - g.jr) % g.sz
    (if at' = 0 then 4 else if at' = 1 then 5 else if at' < 2 + g.ino / 4 then 6 else 7, k, at')
def inInode (g : GeoV) (n : Int) : Bool := decide (1 ≤ n ∧ n ≤ inodesG g)
def homeG (g : GeoV) (n : Int) : Int × Int := if inInode g n then ((n - 1) / g.ino, (n - 1) % g.ino) else (0, 0)
def inodeG (g : GeoV) (n : Int) : Int × Int := if inInode g n then (startG g (homeG g n).1 + 2 + (homeG g n).2 / 4, (homeG g n).2 % 4 * 64) else (0, 0)
def numberG (g : GeoV) (k i : Int) : Int := if inGroup g k ∧ 0 ≤ i ∧ i < g.ino then k * g.ino + i + 1 else 0

/-! A geometry in memory. -/
def GVar (w : World) (b : Nat) (g : GeoV) : Prop := w.heap[b]? = some (.cells (gcs g) 23 (0, 0))
theorem GVar.lt {w : World} {b : Nat} {g : GeoV} (h : GVar w b g) : b < w.heap.size := (Array.getElem?_eq_some_iff.1 h).1
theorem GVar.below {w w' : World} {b : Nat} {g : GeoV} (h : GVar w b g) (hb : Below w.heap.size w w') : GVar w' b g := (hb.block b h.lt).trans h
theorem GVar.cell {w : World} {b : Nat} {g : GeoV} (h : GVar w b g) {i : Nat} {v : Value} (hv : (gcs g)[i]? = some v) : w.cell? ⟨b, i, none⟩ = some v := (cell_of_row w b i _ _ _ h).trans hv
theorem gcs_eq (g : GeoV) : gcs g = #[.int .i64 g.gr, .int .i64 g.sz, .int .i64 g.ino, .int .i64 g.jr] := by unfold gcs; rfl
theorem GVar.c0 {w : World} {b : Nat} {g : GeoV} (h : GVar w b g) : w.cell? ⟨b, 0, none⟩ = some (.int .i64 g.gr) := h.cell (by rw [gcs_eq]; rfl)
theorem GVar.c1 {w : World} {b : Nat} {g : GeoV} (h : GVar w b g) : w.cell? ⟨b, 1, none⟩ = some (.int .i64 g.sz) := h.cell (by rw [gcs_eq]; rfl)
theorem GVar.c2 {w : World} {b : Nat} {g : GeoV} (h : GVar w b g) : w.cell? ⟨b, 2, none⟩ = some (.int .i64 g.ino) := h.cell (by rw [gcs_eq]; rfl)
theorem GVar.c3 {w : World} {b : Nat} {g : GeoV} (h : GVar w b g) : w.cell? ⟨b, 3, none⟩ = some (.int .i64 g.jr) := h.cell (by rw [gcs_eq]; rfl)
def GAt (w : World) (b o : Nat) (g : GeoV) : Prop := w.rangeAt b o (gcs g).toList
theorem GVar.at {w : World} {b : Nat} {g : GeoV} (h : GVar w b g) : GAt w b 0 g := fun i v hv => by
  rw [Nat.zero_add]; exact h.cell (by simpa using hv)
theorem geo_size4 : (Tryd.prog.info? 23).map (·.size) = some 4 := by kernel_rfl
theorem geo_size (g : GeoV) : (Tryd.prog.info? 23).map (·.size) = some (gcs g).toList.length := by rw [geo_size4, gcs_eq]; rfl
section
variable {ops : Array Oper} {rest : List Oper} {op : Oper} {a : Act} {w : World} {Q : Exit → Act → World → Prop}
theorem load_geo (hgd : op.guard = none) (x : Operand) (ho : op.op = .load 23 x) (b o : Nat) (hx : a.eval x = .pointer (some ⟨b, o, none⟩)) (g : GeoV) (hc : GAt w b o g)
    (h : wpList Tryd.prog ops Q rest (a.put op.dst (.agg (gcs g))) w) : wpList Tryd.prog ops Q (op :: rest) a w :=
  wpList_load_mid hgd 23 x ho b o hx (gcs g).toList _ hc Tryd.underlying23 rfl (geo_size g) (by simpa using h)
end
theorem quiet_geo {o : Oper} {a : Act} {C : World → Prop} {K : Act → Prop} (x : Operand) (ho : o.op = .load 23 x) (b off : Nat) (hx : a.eval x = .pointer (some ⟨b, off, none⟩)) (g : GeoV) (hc : ∀ w, C w → GAt w b off g)
    (hk : K (a.put o.dst (.agg (gcs g)))) : o.quiet Tryd.prog a C K := by
  refine ⟨_, fun w hw => ?_, hk⟩
  unfold Oper.quietAt execOp
  have h := run_loadAt_mid (P := Tryd.prog) w b off 23 (gcs g).toList _ (hc w hw) Tryd.underlying23 rfl (geo_size g)
  simp only [ho, hx, h, Sem.run_bind, Sem.run_pure, Result.andThen_ok]
  exact ⟨rfl, by simp⟩
theorem load_geo_w {ops : Array Oper} {rest : List Oper} {op : Oper} {a : Act} {w : World} {Q : Exit → Act → World → Prop} (hw : Region.wanted op (yielded ops a.tmps) = true) (x : Operand) (ho : op.op = .load 23 x) (b o : Nat) (hx : a.eval x = .pointer (some ⟨b, o, none⟩)) (g : GeoV) (hc : GAt w b o g)
    (h : wpList Tryd.prog ops Q rest (a.put op.dst (.agg (gcs g))) w) : wpList Tryd.prog ops Q (op :: rest) a w :=
  BigFrame.wpList_want hw fun _ hK => wp_load_mid 23 x ho b o hx (gcs g).toList _ hc Tryd.underlying23 rfl (geo_size g) (hK _ _ (by simpa using h))

/-! What the program's geometry says. -/
end Go.Proofs.YtmlmpflfejbbcaaDoor
namespace Go.Proofs.YtmlmpflfejbbcaaDoor
open Go.RowKit

/-! awake: the chapter's examples. -/
def gx : GeoV := ⟨2, 16, 8, 40⟩
def gy : GeoV := ⟨2, 16, 56, 40⟩
theorem gx_fits : gx.Fits := ⟨by unfold I64 gx; decide, by unfold I64 gx; decide, by unfold I64 gx; decide, by unfold I64 gx; decide⟩
theorem gy_fits : gy.Fits := ⟨by unfold I64 gy; decide, by unfold I64 gy; decide, by unfold I64 gy; decide, by unfold I64 gy; decide⟩
theorem gx_eq : (#[.int .i64 2, .int .i64 16, .int .i64 8, .int .i64 40] : Array Value) = gcs gx := by rw [gcs_eq]; rfl
theorem gy_eq : (#[.int .i64 2, .int .i64 16, .int .i64 56, .int .i64 40] : Array Value) = gcs gy := by rw [gcs_eq]; rfl
theorem gx_may : mayB gx = true := by decide
theorem gy_may : mayB gy = false := by decide
theorem gx_blocks : blocksG gx = 74 := by decide
theorem gx_inodes : inodesG gx = 16 := by decide
theorem gx_data : dataG gx = 12 := by decide
theorem gx_what : whatG gx 57 = (7, 0, 15) := by decide
theorem gx_inode : inodeG gx 16 = (61, 192) := by decide
theorem gx_in : inInode gx 16 = true := by decide
theorem gx_start : startG gx 1 = 58 := by decide
theorem gx_group : inGroup gx 1 = true := by decide
theorem gx_number : numberG gx 1 0 = 9 := by decide

end Go.Proofs.YtmlmpflfejbbcaaDoor
namespace Go.Proofs.YtmlmpflfejbbcaaDoor
open Go.RowKit

/-! What stands where. -/
def kindG (g : GeoV) (a : Int) : Int := if a = 0 then 4 else if a = 1 then 5 else if a < 2 + g.ino / 4 then 6 else 7
theorem group_below {gr sz k a : Int} (h1 : k < gr) (h2 : 0 ≤ sz) (h3 : a < sz) : k * sz + a < gr * sz := by
  have := Int.mul_le_mul_of_nonneg_right (show k + 1 ≤ gr by omega) h2
  rw [Int.add_mul, Int.one_mul] at this
  omega
theorem what_at {g : GeoV} (hm : May g) {k a : Int} (h0 : 0 ≤ k) (h1 : k < g.gr) (h2 : 0 ≤ a) (h3 : a < g.sz) : whatG g (2 + g.jr + k * g.sz + a) = (kindG g a, k, a) := by
  have hm' := hm
  obtain ⟨m1, m2, m3, m4, m5, m6, m7, m8, m9, m10, m11⟩ := hm'
  have hb := group_below (a := a) h1 (by omega) h3
  have hk : 0 ≤ k * g.sz := Int.mul_nonneg h0 (by omega)
  have e : 2 + g.jr + k * g.sz + a - 2 - g.jr = a + k * g.sz := by omega
  unfold whatG blocksG
  rw [if_pos hm, if_neg (by simp only [hm, not_true_eq_false, false_or]; omega), if_neg (by omega), if_neg (by omega), if_neg (by omega), e]
  rw [Int.add_mul_ediv_right _ _ (by omega), Int.add_mul_emod_self_right, Int.ediv_eq_zero_of_lt h2 h3, Int.emod_eq_of_lt h2 h3, Int.zero_add]
  rfl
theorem what_end {g : GeoV} (hm : May g) : whatG g (2 + g.jr + g.gr * g.sz) = (0, 0, 0) := by
  unfold whatG blocksG
  rw [if_pos hm, if_pos (by right; right; omega)]
theorem kind_last {g : GeoV} (hm : May g) : kindG g (g.sz - 1) = 7 := by
  obtain ⟨m1, m2, m3, m4, m5, m6, m7, m8, m9, m10, m11⟩ := hm
  unfold kindG
  rw [if_neg (by omega), if_neg (by omega), if_neg (by omega)]
theorem what_next {g : GeoV} (hm : May g) {k : Int} (h0 : 0 ≤ k) (h1 : k < g.gr) : (whatG g (2 + g.jr + k * g.sz + g.sz)).1 = if k = g.gr - 1 then 0 else 4 := by
  have e : k * g.sz + g.sz = (k + 1) * g.sz := by rw [Int.add_mul, Int.one_mul]
  rw [Int.add_assoc, e]
  by_cases h : k = g.gr - 1
  · rw [if_pos h, show k + 1 = g.gr by omega, what_end hm]
  · rw [if_neg h]
    have := what_at hm (k := k + 1) (a := 0) (by omega) (by omega) (by omega) (by have := hm.2.2.1; omega)
    rw [Int.add_zero] at this
    rw [this]
    rfl
end Go.Proofs.YtmlmpflfejbbcaaDoor
namespace Go.Proofs.YtmlmpflfejbbcaaDoor
open Go.RowKit

/-! Numbers, homes, places. -/
theorem in_may {g : GeoV} {a : Int} (h : inInode g a = true) : May g ∧ 1 ≤ a ∧ a ≤ g.gr * g.ino := by
  unfold inInode at h
  have h := of_decide_eq_true h
  by_cases hm : May g
  · refine ⟨hm, h.1, ?_⟩
    have := h.2
    unfold inodesG at this
    rwa [if_pos hm] at this
  · have := h.2
    unfold inodesG at this
    rw [if_neg hm] at this
    omega
theorem home_in {g : GeoV} {a : Int} (h : inInode g a = true) : homeG g a = ((a - 1) / g.ino, (a - 1) % g.ino) := by unfold homeG; rw [if_pos h]
theorem home_bounds {g : GeoV} {a : Int} (h : inInode g a = true) : 0 ≤ (homeG g a).1 ∧ (homeG g a).1 < g.gr ∧ 0 ≤ (homeG g a).2 ∧ (homeG g a).2 < g.ino := by
  obtain ⟨hm, h1, h2⟩ := in_may h
  have hi : 0 < g.ino := by have := hm.2.2.2.2.1; omega
  rw [home_in h]
  refine ⟨Int.ediv_nonneg (by omega) (by omega), Int.ediv_lt_of_lt_mul hi (by omega), Int.emod_nonneg _ (by omega), Int.emod_lt_of_pos _ hi⟩
theorem home_back {g : GeoV} {a : Int} (h : inInode g a = true) : a = (homeG g a).1 * g.ino + (homeG g a).2 + 1 := by
  rw [home_in h]
  have := Int.mul_ediv_add_emod (a - 1) g.ino
  rw [Int.mul_comm] at this
  show a = (a - 1) / g.ino * g.ino + (a - 1) % g.ino + 1
  omega
theorem number_home {g : GeoV} {a : Int} (h : inInode g a = true) : numberG g (homeG g a).1 (homeG g a).2 = a := by
  obtain ⟨h1, h2, h3, h4⟩ := home_bounds h
  unfold numberG
  rw [if_pos ⟨by unfold inGroup; exact decide_eq_true ⟨(in_may h).1, h1, h2⟩, h3, h4⟩]
  exact (home_back h).symm
theorem home_inj {g : GeoV} {a b : Int} (ha : inInode g a = true) (hb : inInode g b = true) (h1 : (homeG g a).1 = (homeG g b).1) (h2 : (homeG g a).2 = (homeG g b).2) : a = b := by
  rw [home_back ha, home_back hb, h1, h2]
theorem inode_in {g : GeoV} {a : Int} (h : inInode g a = true) : inodeG g a = (2 + g.jr + (homeG g a).1 * g.sz + (2 + (homeG g a).2 / 4), (homeG g a).2 % 4 * 64) := by
  obtain ⟨h1, h2, h3, h4⟩ := home_bounds h
  unfold inodeG
  rw [if_pos h]
  have : startG g (homeG g a).1 = 2 + g.jr + (homeG g a).1 * g.sz := by
    unfold startG
    rw [show inGroup g (homeG g a).1 = true by unfold inGroup; exact decide_eq_true ⟨(in_may h).1, h1, h2⟩]
    rfl
  rw [this, Int.add_assoc]
theorem inode_inj {g : GeoV} {a b : Int} (ha : inInode g a = true) (hb : inInode g b = true) (h1 : (inodeG g a).1 = (inodeG g b).1) (h2 : (inodeG g a).2 = (inodeG g b).2) : a = b := by
  have hm := (in_may ha).1
  have m1 := hm.2.2.2.2.2.2.2.2.2.1
  have m2 := hm.2.2.1
  have m3 := hm.2.2.2.2.2.2.1
  obtain ⟨a1, a2, a3, a4⟩ := home_bounds ha
  obtain ⟨b1, b2, b3, b4⟩ := home_bounds hb
  have wa := what_at hm (k := (homeG g a).1) (a := 2 + (homeG g a).2 / 4) a1 a2 (by omega) (by omega)
  have wb := what_at hm (k := (homeG g b).1) (a := 2 + (homeG g b).2 / 4) b1 b2 (by omega) (by omega)
  rw [inode_in ha, inode_in hb] at h1 h2
  have e : (kindG g (2 + (homeG g a).2 / 4), (homeG g a).1, 2 + (homeG g a).2 / 4) = (kindG g (2 + (homeG g b).2 / 4), (homeG g b).1, 2 + (homeG g b).2 / 4) := by
    rw [← wa, ← wb]
    exact congrArg (whatG g) h1
  have e1 := congrArg (·.2.1) e
  have e2 := congrArg (·.2.2) e
  simp only at e1 e2
  have e3 : (homeG g a).2 % 4 * 64 = (homeG g b).2 % 4 * 64 := h2
  exact home_inj ha hb e1 (by omega)
end Go.Proofs.YtmlmpflfejbbcaaDoor
namespace Go.Proofs.YtmlmpflfejbbcaaDoor
open Go.RowKit

end Go.Proofs.YtmlmpflfejbbcaaDoor
namespace Go.Proofs.YtmlmpflfejbbcaaDoor
open Go.RowKit

/-- What is held on the way: memory only came, and the geometry stands where it stood. -/
def GP (w : World) (g : GeoV) (a : World) : Prop := Below w.heap.size w a ∧ GVar a w.heap.size g
theorem GP.step {w a b : World} {g : GeoV} (h : GP w g a) (hb : Below a.heap.size a b) : GP w g b := ⟨h.1.trans (hb.mono h.1.size), h.2.below hb⟩

end Go.Proofs.YtmlmpflfejbbcaaDoor
namespace Go.Proofs.YtmlmpflfejbbcaaDoor
open Go.RowKit
/-- Result variables of a call's own that are blocks. -/
theorem results_blk {fn : Func} {p : Tmp} (h : fn.results = #[.cell p 29]) (tmps : Array Value) (w : World) (g : Nat) (X : Blk) (t : TypeId) (hp : tmps.getD p undef = .pointer (some ⟨g, 0, none⟩)) (hg : w.heap[g]? = some (.cells (arr X) t (0, 0))) :
    (results fn tmps).run Tryd.prog w = .ok (.agg (arr X)) w :=
  results_cell_row h tmps w g t (arr X) (0, 0) _ hp hg Tryd.underlying29 rfl (by rw [arr_size]; exact blk_size)
theorem results_blk_tmp {fn : Func} {p u : Tmp} (h : fn.results = #[.cell p 29, .tmp u]) (tmps : Array Value) (w : World) (g : Nat) (X : Blk) (t : TypeId) (hp : tmps.getD p undef = .pointer (some ⟨g, 0, none⟩)) (hg : w.heap[g]? = some (.cells (arr X) t (0, 0))) :
    (results fn tmps).run Tryd.prog w = .ok (.tuple #[.agg (arr X), tmps.getD u undef]) w := by
  have hp' : tmps[p]?.getD undef = .pointer (some ⟨g, 0, none⟩) := by simpa using hp
  simp [results, h, hp', asAddr, run_loadVar_row w g t 29 (arr X) (0, 0) _ hg Tryd.underlying29 rfl (by rw [arr_size]; exact blk_size)]
end Go.Proofs.YtmlmpflfejbbcaaDoor
