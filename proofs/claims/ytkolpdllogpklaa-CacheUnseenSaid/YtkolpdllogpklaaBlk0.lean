import Derived.Test.YtkolpdllogpklaaRows
import Derived.WalkKit
import Derived.WalkSpells
import Derived.WalkLawsBesides
import Derived.Lib.Hide
import Derived.Laws.BitsAllLaws
import Derived.Laws.Rows
import Derived.Laws.NewBlocks
import Derived.Deep.MidRow
import Derived.Deep.WholeRow
import Derived.Deep.LoopGhost
import Derived.Outline
import Derived.Below
import Derived.Stop.BytesEq
import Derived.Laws.MakeOwn
import Derived.Deep.QuietTactic
import Derived.BigQuiet
namespace Go.Proofs.Ytkolpdllogpklaa
open Go.RowKit

/-! Blocks: 256 bytes, told by a function of the place. -/
structure Blk where
  f : Nat → Nat
  lt : ∀ i, f i < 256
  past : ∀ i, 256 ≤ i → f i = 0
theorem Blk.same {x y : Blk} (h : ∀ i, i < 256 → x.f i = y.f i) : x = y := by
  obtain ⟨f, hf, h0⟩ := x
  obtain ⟨g, hg, g0⟩ := y
  have e : f = g := by
    funext i
    by_cases hi : i < 256
    · exact h i hi
    · rw [h0 i (by omega), g0 i (by omega)]
  subst e; rfl
def Blk.of (f : Nat → Nat) (h : ∀ i, i < 256 → f i < 256) : Blk := ⟨fun i => if i < 256 then f i else 0, fun i => by by_cases hi : i < 256 <;> simp [hi, h], fun i hi => if_neg (by omega)⟩
theorem Blk.of_f {f : Nat → Nat} {h : ∀ i, i < 256 → f i < 256} {i : Nat} (hi : i < 256) : (Blk.of f h).f i = f i := if_pos hi
def Blk.zero : Blk := ⟨fun _ => 0, fun _ => by omega, fun _ _ => rfl⟩
def Blk.set (x : Blk) (k v : Nat) (hv : v < 256) : Blk := .of (fun i => if i = k then v else x.f i) fun i _ => by split; exact hv; exact x.lt i
noncomputable instance : DecidableEq Blk := fun x y => Classical.propDecidable (x = y)
noncomputable instance : Inhabited Blk := ⟨.zero⟩

def bytesOf (f : Nat → Nat) (n : Nat) : List Value := (List.range n).map fun i => Value.int .u8 ((f i : Nat) : Int)
@[irreducible] def arr (x : Blk) : Array Value := ⟨bytesOf x.f 256⟩
theorem bytesOf_length (f : Nat → Nat) (n : Nat) : (bytesOf f n).length = n := by simp [bytesOf]
theorem bytesOf_get {f : Nat → Nat} {n i : Nat} (h : i < n) : (bytesOf f n)[i]? = some (.int .u8 ((f i : Nat) : Int)) := by
  simp [bytesOf, List.getElem?_range h]
theorem arr_size (x : Blk) : (arr x).size = 256 := by unfold arr; exact bytesOf_length x.f 256
theorem arr_get {x : Blk} {i : Nat} (h : i < 256) : (arr x)[i]? = some (.int .u8 ((x.f i : Nat) : Int)) := by
  unfold arr; simp; exact bytesOf_get h
theorem arr_list (x : Blk) : (arr x).toList = bytesOf x.f 256 := by unfold arr; rfl
theorem arr_length (x : Blk) : (arr x).toList.length = 256 := by rw [arr_list]; exact bytesOf_length x.f 256
theorem arr_one (x : Blk) : (arr x).all (·.oneCell') = true := by
  rw [Array.all_eq_true_iff_forall_mem]
  intro v hv
  rw [← Array.mem_toList_iff, arr_list] at hv
  simp only [bytesOf, List.mem_map] at hv
  obtain ⟨i, _, rfl⟩ := hv
  rfl
theorem arr_ext {A : Array Value} {x : Blk} (hs : A.size = 256) (h : ∀ i, i < 256 → A[i]? = some (.int .u8 ((x.f i : Nat) : Int))) : A = arr x := by
  apply Array.ext_getElem?
  intro i
  by_cases hi : i < 256
  · rw [h i hi, arr_get hi]
  · rw [Array.getElem?_eq_none (by omega), Array.getElem?_eq_none (by rw [arr_size]; omega)]
theorem arr_inj {x y : Blk} (h : arr x = arr y) : x = y := Blk.same fun i hi => by
  have e := congrArg (·[i]?) h
  simp only [arr_get hi] at e
  simp at e
  omega
theorem arr_set {x : Blk} (k v : Nat) (hv : v < 256) : (arr x).setIfInBounds k (.int .u8 ((v : Nat) : Int)) = arr (x.set k v hv) := by
  refine arr_ext (by rw [Array.size_setIfInBounds, arr_size]) fun i hi => ?_
  unfold Blk.set
  rw [Blk.of_f hi]
  by_cases e : k = i
  · subst e
    rw [Array.getElem?_setIfInBounds_self_of_lt (by rw [arr_size]; exact hi), if_pos rfl]
  · rw [Array.getElem?_setIfInBounds_ne e, arr_get hi, if_neg (fun q => e q.symm)]

/-! In memory. -/
def At (w : World) (b o : Nat) (x : Blk) : Prop := w.rangeAt b o (arr x).toList
theorem At.cell {w : World} {b o : Nat} {x : Blk} (h : At w b o x) {i : Nat} (hi : i < 256) : w.cell? ⟨b, o + i, none⟩ = some (.int .u8 ((x.f i : Nat) : Int)) :=
  h i _ (by rw [arr_list]; exact bytesOf_get hi)
theorem At.of {w : World} {b o : Nat} {x : Blk} (h : ∀ i, i < 256 → w.cell? ⟨b, o + i, none⟩ = some (.int .u8 ((x.f i : Nat) : Int))) : At w b o x := fun j v hv => by
  rw [arr_list] at hv
  have hj : j < 256 := by
    rcases Nat.lt_or_ge j 256 with q | q
    · exact q
    · rw [List.getElem?_eq_none (by rw [bytesOf_length]; exact q)] at hv; cases hv
  rw [bytesOf_get hj] at hv
  cases hv
  exact h j hj
theorem At.lt {w : World} {b o : Nat} {x : Blk} (h : At w b o x) : b < w.heap.size := World.block_lt_of_cell? w _ (h.cell (i := 0) (by omega))
theorem At.keep {w w' : World} {b o : Nat} {x : Blk} (h : At w b o x) (hk : w'.heap[b]? = w.heap[b]?) : At w' b o x := .of fun i hi => by
  rw [← h.cell hi]; simp [World.cell?, hk]
theorem At.row {w : World} {b : Nat} {x : Blk} {t : TypeId} {fr : Nat × Nat} (h : w.heap[b]? = some (.cells (arr x) t fr)) : At w b 0 x := .of fun i hi => by
  rw [Nat.zero_add, cell_of_row w b i (arr x) t fr h, arr_get hi]

theorem blk_info : (Try.prog.info? 41).map (fun i => (i.zero, i.size)) = some (some (.agg ⟨bytesOf (fun _ => 0) 256⟩), 256) := by kernel_rfl
theorem blk_size : (Try.prog.info? 41).map (·.size) = some 256 := (zero_of_info blk_info).2
theorem zero_blk (w : World) : (zeroValue 41).run Try.prog w = .ok (.agg (arr .zero)) w := by
  have h := (zero_of_info blk_info).1 w
  rw [h]; unfold arr; rfl

section
variable {ops : Array Oper} {rest : List Oper} {op : Oper} {a : Act} {w : World} {Q : Exit → Act → World → Prop}
theorem load_blk (hgd : op.guard = none) (x : Operand) (ho : op.op = .load 41 x) (b o : Nat) (hx : a.eval x = .pointer (some ⟨b, o, none⟩)) (X : Blk) (hc : At w b o X)
    (h : wpList Try.prog ops Q rest (a.put op.dst (.agg (arr X))) w) : wpList Try.prog ops Q (op :: rest) a w :=
  wpList_load_mid hgd 41 x ho b o hx (arr X).toList _ hc Try.underlying41 rfl (by rw [arr_length]; exact blk_size) (by simpa using h)
theorem store_blk (hgd : op.guard = none) (x y : Operand) (ho : op.op = .store 41 x y) (b o : Nat) (X : Blk) (hx : a.eval x = .pointer (some ⟨b, o, none⟩)) (hy : a.eval y = .agg (arr X)) (ht : w.there b o 256)
    (h : wpList Try.prog ops Q rest (a.put op.dst undef) (w.setCells b o (arr X).toList)) : wpList Try.prog ops Q (op :: rest) a w :=
  wpList_store_mid hgd 41 x y ho b o (arr X) hx hy (by rw [arr_size]; exact ht) (by rw [arr_size]; exact blk_size) (arr_one X) h
/-- A whole variable: the row that was there is known. -/
theorem store_row (hgd : op.guard = none) (x y : Operand) (ho : op.op = .store 41 x y) (b : Nat) (X Y : Blk) (t : TypeId) (hx : a.eval x = .pointer (some ⟨b, 0, none⟩)) (hy : a.eval y = .agg (arr X)) (hb : w.heap[b]? = some (.cells (arr Y) t (0, 0)))
    (h : wpList Try.prog ops Q rest (a.put op.dst undef) (w.setRow b (arr X))) : wpList Try.prog ops Q (op :: rest) a w := by
  refine wpList_plain hgd fun _ hK => ?_
  unfold Oper.wp execOp
  simp only [ho, hx, hy, Instr.storeAt, Instr.sureAddr, Sem.run_bind, Sem.run_pure, Result.andThen_ok, run_storeVar_row w b t 41 (arr Y) (arr X) hb (by rw [arr_size]; exact blk_size) (by rw [arr_size, arr_size]) (arr_one X)]
  exact hK _ _ h
end

/-! Two blocks held against one another. -/
def octets (x : Blk) : List UInt8 := (List.range 256).map fun i => UInt8.ofNat (x.f i)
theorem octets_length (x : Blk) : (octets x).length = 256 := by simp [octets]
theorem octets_get {x : Blk} {i : Nat} (h : i < 256) : (octets x)[i]? = some (UInt8.ofNat (x.f i)) := by
  simp [octets, List.getElem?_range h]
theorem arr_octets (x : Blk) : ((octets x).map Extern.Stop.cell).toArray = arr x := by
  refine arr_ext (by simp [octets_length]) fun i hi => ?_
  have := x.lt i
  simp [octets_get hi, Extern.Stop.cell, Nat.mod_eq_of_lt this]
theorem octets_beq (x y : Blk) : (octets x == octets y) = decide (x = y) := by
  rw [Bool.eq_iff_iff, beq_iff_eq, decide_eq_true_iff]
  constructor
  · intro h
    exact arr_inj (by rw [← arr_octets, ← arr_octets, h])
  · rintro rfl; rfl
theorem u8_size (w : World) : (sizeOf 5).run Try.prog w = .ok 1 w := by kernel_rfl
theorem equalIn_blk (x y : Blk) (w : World) : (Op.equalIn 10000 41 (.agg (arr x)) (.agg (arr y))).run Try.prog w = .ok (decide (x = y)) w := by
  rw [← arr_octets x, ← arr_octets y, ← octets_beq]
  exact run_equalIn_bytes w 9998 41 5 256 Try.underlying41 Try.underlying5 u8_size _ _ (octets_length x) (octets_length y)
theorem blk_guard : Try.prog.eqGuardType Try.prog.depth 41 = false := by kernel_rfl

/-! Lists of blocks. The slice value '.slice A l.length _' reads as the blocks l. -/
def Img (w : World) (A : Option Addr) (l : List Blk) : Prop := 0 < l.length → ∃ b o, A = some ⟨b, o, none⟩ ∧ b < w.heap.size ∧ ∀ i x, l[i]? = some x → At w b (o + i * 256) x
theorem Img.keep {w w' : World} {A : Option Addr} {l : List Blk} (h : Img w A l) (hs : w.heap.size ≤ w'.heap.size) (hk : ∀ b o, A = some ⟨b, o, none⟩ → w'.heap[b]? = w.heap[b]?) : Img w' A l := fun h0 => by
  obtain ⟨b, o, e, hb, hc⟩ := h h0
  exact ⟨b, o, e, Nat.lt_of_lt_of_le hb hs, fun i x hx => (hc i x hx).keep (hk b o e)⟩
theorem Img.below {w w' : World} {A : Option Addr} {l : List Blk} (h : Img w A l) (hb : Below w.heap.size w w') : Img w' A l := fun h0 => by
  obtain ⟨b, o, e, hlt, hc⟩ := h h0
  exact ⟨b, o, e, Nat.lt_of_lt_of_le hlt hb.size, fun i x hx => (hc i x hx).keep (hb.block b hlt)⟩
theorem Img.nil (w : World) (A : Option Addr) : Img w A [] := fun h => absurd h (by simp)

/-- .. in a block that may be written. -/
def OImg (w : World) (g o : Nat) (l : List Blk) : Prop := ∃ (t : TypeId) (cs : Array Value), w.heap[g]? = some (.cells cs t (0, 0)) ∧ ∀ i x, l[i]? = some x → ∀ j, j < 256 → cs[o + i * 256 + j]? = some (.int .u8 ((x.f j : Nat) : Int))
theorem OImg.lt {w : World} {g o : Nat} {l : List Blk} (h : OImg w g o l) : g < w.heap.size := by
  obtain ⟨t, cs, h, _⟩ := h
  rcases Nat.lt_or_ge g w.heap.size with q | q
  · exact q
  · rw [Array.getElem?_eq_none q] at h; cases h
theorem OImg.at {w : World} {g o : Nat} {l : List Blk} (h : OImg w g o l) {i : Nat} {x : Blk} (hx : l[i]? = some x) : At w g (o + i * 256) x := .of fun j hj => by
  obtain ⟨t, cs, h, hc⟩ := h
  rw [cell_of_row w g _ cs t (0, 0) h]
  exact hc i x hx j hj
theorem OImg.img {w : World} {g o : Nat} {l : List Blk} (h : OImg w g o l) : Img w (some ⟨g, o, none⟩) l := fun _ => ⟨g, o, rfl, h.lt, fun _ _ hx => h.at hx⟩
theorem OImg.keep {w w' : World} {g o : Nat} {l : List Blk} (h : OImg w g o l) (hk : w'.heap[g]? = w.heap[g]?) : OImg w' g o l := by
  obtain ⟨t, cs, h, hc⟩ := h
  exact ⟨t, cs, hk.trans h, hc⟩
theorem OImg.there {w : World} {g o : Nat} {l : List Blk} (h : OImg w g o l) {i : Nat} (hi : i < l.length) : w.there g (o + i * 256) 256 := fun j hj => by
  refine ⟨by rw [(h.at (List.getElem?_eq_getElem hi)).cell hj]; rfl, ?_⟩
  obtain ⟨t, cs, h, _⟩ := h
  simp [World.frozen?, h]
theorem setCells_heap_ne (b : Nat) : ∀ (vs : List Value) (o : Nat) (w : World) (k : Nat), k ≠ b → (w.setCells b o vs).heap[k]? = w.heap[k]?
  | [], _, _, _, _ => rfl
  | v :: r, o, w, k, h => by rw [World.setCells, setCells_heap_ne b r (o + 1) _ k h]; exact Below.heap_setCell w _ v k h
theorem setCells_size (b : Nat) : ∀ (vs : List Value) (o : Nat) (w : World), (w.setCells b o vs).heap.size = w.heap.size
  | [], _, _ => rfl
  | v :: r, o, w => by rw [World.setCells, setCells_size b r (o + 1)]; simp [World.setCell]
theorem setCells_row (b : Nat) (t : TypeId) : ∀ (vs : List Value) (o : Nat) (w : World) (cs : Array Value), w.heap[b]? = some (.cells cs t (0, 0)) → ∃ cs', (w.setCells b o vs).heap[b]? = some (.cells cs' t (0, 0))
  | [], _, _, cs, h => ⟨cs, h⟩
  | v :: r, o, w, cs, h => by rw [World.setCells]; exact setCells_row b t r (o + 1) _ _ (heap_setCell_same w b o cs t v h)
theorem setCells_only (b : Nat) : ∀ (vs : List Value) (o : Nat) (w : World), (w.setCells b o vs).os = w.os ∧ (w.setCells b o vs).tape = w.tape ∧ (w.setCells b o vs).output = w.output
  | [], _, _ => ⟨rfl, rfl, rfl⟩
  | v :: r, o, w => by rw [World.setCells]; exact setCells_only b r (o + 1) _
theorem OImg.set {w : World} {g o : Nat} {l : List Blk} (h : OImg w g o l) {i : Nat} (hi : i < l.length) (X : Blk) : OImg (w.setCells g (o + i * 256) (arr X).toList) g o (l.set i X) := by
  have ht := h.there hi
  have hat := fun k x hx => h.at (i := k) (x := x) hx
  obtain ⟨t, cs, h, hc⟩ := h
  obtain ⟨cs', h'⟩ := setCells_row g t (arr X).toList (o + i * 256) w cs h
  refine ⟨t, cs', h', fun k x hx j hj => ?_⟩
  have hcell : (w.setCells g (o + i * 256) (arr X).toList).cell? ⟨g, o + k * 256 + j, none⟩ = some (.int .u8 ((x.f j : Nat) : Int)) := by
    rw [List.getElem?_set] at hx
    by_cases e : i = k
    · subst e
      rw [if_pos rfl, if_pos hi] at hx
      cases hx
      exact World.rangeAt_setCells_same w g (o + i * 256) (arr X).toList (by rw [arr_length]; exact ht) j _ (by rw [arr_list]; exact bytesOf_get hj)
    · rw [if_neg e] at hx
      exact World.rangeAt_setCells_apart (hat k x hx) g (o + i * 256) (arr X).toList (by rw [arr_length, arr_length]; right; omega) j _ (by rw [arr_list]; exact bytesOf_get hj)
  rw [cell_of_row _ g _ cs' t (0, 0) h'] at hcell
  exact hcell

/-! A block that is read in a region that draws its order. -/
theorem quiet_load {o : Oper} {a : Act} {C : World → Prop} {K : Act → Prop} (x : Operand) (ho : o.op = .load 41 x) (b off : Nat) (hx : a.eval x = .pointer (some ⟨b, off, none⟩)) (X : Blk) (hc : ∀ w, C w → At w b off X)
    (hk : K (a.put o.dst (.agg (arr X)))) : o.quiet Try.prog a C K := by
  refine ⟨_, fun w hw => ?_, hk⟩
  unfold Oper.quietAt execOp
  have h := run_loadAt_mid (P := Try.prog) w b off 41 (arr X).toList _ (hc w hw) Try.underlying41 rfl (by rw [arr_length]; exact blk_size)
  simp only [ho, hx, h, Sem.run_bind, Sem.run_pure, Result.andThen_ok]
  exact ⟨rfl, by simp⟩

/-! make([]Block, n). -/
@[irreducible] def madeBlks (n : Nat) : Array Value := madeCells (arr .zero) (n * 256)
theorem madeBlks_get {n k : Nat} (h : k < n * 256) : (madeBlks n)[k]? = some (.int .u8 0) := by
  unfold madeBlks madeCells
  rw [Array.getElem?_map, Array.getElem?_range]
  rw [if_pos h]
  have hm : k % (arr Blk.zero).size < 256 := by rw [arr_size]; exact Nat.mod_lt _ (by omega)
  have := arr_get (x := Blk.zero) hm
  simp only [Option.map_some]
  rw [Array.getElem!_eq_getD, Array.getD_eq_getD_getElem?, this]
  rfl
theorem blk_row : (Try.prog.info? 41).map (fun i => (i.zero, i.size, i.bytes)) = some (some (.agg ⟨bytesOf (fun _ => 0) 256⟩), 256, 256) := by kernel_rfl
theorem OImg.made (w : World) (n : Nat) (t : TypeId) : OImg (w.alloc (.cells (madeBlks n) t)) w.heap.size 0 (List.replicate n .zero) := by
  refine ⟨t, _, heap_alloc_new w _, fun i x hx j hj => ?_⟩
  rw [List.getElem?_replicate] at hx
  split at hx
  · cases hx
    rename_i hi
    rw [madeBlks_get (by omega)]
    rfl
  · cases hx

theorem cell_out {w : World} {g o : Nat} {vs : List Value} {p : Addr} (h : p.block ≠ g) : (w.setCells g o vs).cell? p = w.cell? p := by
  simp [World.cell?, setCells_heap_ne g vs o w p.block h]
theorem there_below {w w' : World} {g o n : Nat} (h : w.there g o n) (hb : Below w.heap.size w w') : w'.there g o n := fun j hj => by
  obtain ⟨h1, h2⟩ := h j hj
  obtain ⟨u, hu⟩ := Option.isSome_iff_exists.1 h1
  have hlt := World.block_lt_of_cell? w _ hu
  exact ⟨by rw [hb.cell hlt]; exact h1, by rw [hb.frozen hlt]; exact h2⟩

/-! The same where the operation bears a guard that says yes. -/
theorem load_blk_w {ops : Array Oper} {rest : List Oper} {op : Oper} {a : Act} {w : World} {Q : Exit → Act → World → Prop} (hw : Region.wanted op (yielded ops a.tmps) = true) (x : Operand) (ho : op.op = .load 41 x) (b o : Nat) (hx : a.eval x = .pointer (some ⟨b, o, none⟩)) (X : Blk) (hc : At w b o X)
    (h : wpList Try.prog ops Q rest (a.put op.dst (.agg (arr X))) w) : wpList Try.prog ops Q (op :: rest) a w :=
  BigFrame.wpList_want hw fun _ hK => wp_load_mid 41 x ho b o hx (arr X).toList _ hc Try.underlying41 rfl (by rw [arr_length]; exact blk_size) (hK _ _ (by simpa using h))
theorem built_zero : Try.prog.built 41 [] = some (arr .zero) := by
  have h : Try.prog.built 41 [] = some ⟨bytesOf (fun _ => 0) 256⟩ := by kernel_rfl
  rw [h]; unfold arr; rfl
theorem build_zero_w {ops : Array Oper} {rest : List Oper} {op : Oper} {a : Act} {w : World} {Q : Exit → Act → World → Prop} (hw : Region.wanted op (yielded ops a.tmps) = true) (ho : op.op = .build 41 #[])
    (h : wpList Try.prog ops Q rest (a.put op.dst (.agg (arr .zero))) w) : wpList Try.prog ops Q (op :: rest) a w :=
  BigFrame.wpList_want hw fun _ hK => wp_build 41 #[] ho (by simp [built_zero]) (hK _ _ (by simpa [built_zero] using h))

/-- One walk in the text's order, in a class of worlds that every operation and every callee keeps (their values must be the same in all of them). -/
theorem wp_region_class {id : Nat} {Q : Exit → Act → World → Prop} {a : Act} {w : World} {l : List Oper} (C : World → Prop) (hm : Try.prog.follows .mixedOrders = true) (hB : Region.lexB .any l.toArray = true) (hC : C w.drew)
    (h : wpQuiet Try.prog l.toArray C (fun a' => ∀ w', C w' → Q .normal a' w') l a) : (Code.region id l.toArray true).wp Try.prog Q a w :=
  wp_region_quiet (C := C) hm hB hC (by simpa using h)
theorem At.below {w w' : World} {b o : Nat} {x : Blk} (h : At w b o x) (hb : Below w.heap.size w w') : At w' b o x := h.keep (hb.block b h.lt)
/-- The worlds that have only more memory than w. -/
def More (w w' : World) : Prop := Below w.heap.size w w'
theorem More.drew (w : World) : More w w.drew := ⟨rfl, rfl, rfl, Nat.le_refl _, fun _ _ => rfl⟩
theorem More.on {w w' w'' : World} (h : More w w') (hb : Below w'.heap.size w' w'') : More w w'' := Below.trans h (hb.mono (Below.size h))

end Go.Proofs.Ytkolpdllogpklaa
