import Derived.Test.YtjiooadakklmlaaJbP1
import Derived.Test.YtjiooadakklmlaaJbA
namespace Go.Proofs.Ytjiooadakklmlaa
open Go.RowKit

/-! The landed code: the rows of a list of numbers, a struct of closures over a block. -/
def PBox (w : World) (p b : Nat) : Prop := w.heap[p]? = some (.cells #[.pointer (some ⟨b, 0, none⟩)] 80 (0, 0))
section
variable {w w' : World} {p b : Nat}
theorem PBox.lt (h : PBox w p b) : p < w.heap.size := (Array.getElem?_eq_some_iff.1 h).1
theorem PBox.keep (h : PBox w p b) (hk : w'.heap[p]? = w.heap[p]?) : PBox w' p b := hk.trans h
theorem PBox.below (h : PBox w p b) (hb : Below w.heap.size w w') : PBox w' p b := h.keep (hb.block _ h.lt)
theorem PBox.only {g : Nat} (h : PBox w p b) (ho : Only g w w') (hne : p ≠ g) : PBox w' p b := h.keep (ho.block _ h.lt (fun e => by injection e with e; exact hne e))
theorem PBox.cell (h : PBox w p b) : w.cell? ⟨p, 0, none⟩ = some (.pointer (some ⟨b, 0, none⟩)) := cell_of_row w p 0 _ _ _ h
end
theorem pN1 (v : Nat) (w : World) : Calls Try.prog 60 #[.int .u32 (v : Int)] w fun e w' => e = .returned (.int .u32 (v : Int)) ∧ w' = w := by
  go_enter Try.func60, Try.ntmps60
  go_wp2
  go_ret
  exact ⟨rfl, rfl⟩
theorem pN2 (p b i : Nat) (X : Blk) (w : World) (hp : PBox w p b) (hV : BVar w b X) (hi : i < 60) : Calls Try.prog 61 #[.int .i64 (i : Int), .pointer (some ⟨p, 0, none⟩)] w fun e w' => e = .returned (.int .u32 ((num X (4 + i) : Nat) : Int)) ∧ w' = w := by
  have C := Lib.hid (pNum b (4 + i) X w hV (by omega))
  rw [show ((4 * (4 + i) : Nat) : Int) = 16 + 4 * (i : Int) by omega] at C
  have c := hp.cell
  have w1 : IntKind.i64.wrap (4 * (i : Int)) = 4 * (i : Int) := by rw [IntKind.wrap_i64]; omega
  have w2 : IntKind.i64.wrap (16 + 4 * (i : Int)) = 16 + 4 * (i : Int) := by rw [IntKind.wrap_i64]; omega
  generalize num X (4 + i) = v at C ⊢
  clear hp hV
  go_enter Try.func61, Try.ntmps61
  go_wp2_with (go_at_call 46; with_reducible refine (C.out).mono ?_; rintro e w2 ⟨rfl, rfl⟩)
  go_ret
  exact ⟨rfl, rfl⟩
theorem pN3 (p b i v : Nat) (X : Blk) (w : World) (hp : PBox w p b) (hV : BVar w b X) (hi : i < 60) (hv : v < 4294967296) : Calls Try.prog 62 #[.int .i64 (i : Int), .int .u32 (v : Int), .pointer (some ⟨p, 0, none⟩)] w fun e w' => e = .returned (.tuple #[]) ∧ BVar w' b (putB32 X (4 * (4 + i)) v) ∧ Only b w w' := by
  have C := Lib.hid (pPutN b (4 + i) v X w hV (by omega) hv)
  rw [show ((4 * (4 + i) : Nat) : Int) = 16 + 4 * (i : Int) by omega] at C
  have c := hp.cell
  have w1 : IntKind.i64.wrap (4 * (i : Int)) = 4 * (i : Int) := by rw [IntKind.wrap_i64]; omega
  have w2 : IntKind.i64.wrap (16 + 4 * (i : Int)) = 16 + 4 * (i : Int) := by rw [IntKind.wrap_i64]; omega
  clear hp hV
  go_enter Try.func62, Try.ntmps62
  go_wp2_with (go_at_call 45; with_reducible refine (C.out).mono ?_; rintro e w2 ⟨rfl, h2⟩)
  all_goals refine bodyPost_end (results_none rfl _ _ _) rfl ?_
  all_goals exact ⟨rfl, h2⟩
/-- The five cells of the rows of numbers; the box p holds the block's pointer. -/
def nrw (p : Nat) : Array Value := #[.int .u8 3, .int .i64 60, .func (.func 60) #[] #[], .func (.func 61) #[] #[.pointer (some ⟨p, 0, none⟩)], .func (.func 62) #[] #[.pointer (some ⟨p, 0, none⟩)]]
def rw0 : Array Value := #[.int .u8 0, .int .i64 0, .nilFunc, .nilFunc, .nilFunc]
def NRow (w : World) (r p : Nat) : Prop := w.heap[r]? = some (.cells (nrw p) 102 (0, 0))
theorem nrw_two : (Try.prog.info? 102).map (fun i => (i.zero, i.size)) = some (some (.agg rw0), 5) := by kernel_rfl
theorem nrw_size5 : (Try.prog.info? 102).map (·.size) = some 5 := (zero_of_info nrw_two).2
theorem zero_nrw (w : World) : (zeroValue 102).run Try.prog w = .ok (.agg rw0) w := (zero_of_info nrw_two).1 w
theorem nrw_one (p : Nat) : (nrw p).all (·.oneCell') = true := by unfold nrw; simp [Value.oneCell']
theorem nrw_built (p : Nat) : Try.prog.built 102 [(0, .int .u8 3), (1, .int .i64 60), (2, .func (.func 60) #[] #[]), (3, .func (.func 61) #[] #[.pointer (some ⟨p, 0, none⟩)]), (4, .func (.func 62) #[] #[.pointer (some ⟨p, 0, none⟩)])] = some (nrw p) := by kernel_rfl
section
variable {w w' : World} {r p : Nat}
theorem NRow.lt (h : NRow w r p) : r < w.heap.size := (Array.getElem?_eq_some_iff.1 h).1
theorem NRow.keep (h : NRow w r p) (hk : w'.heap[r]? = w.heap[r]?) : NRow w' r p := hk.trans h
theorem NRow.below (h : NRow w r p) (hb : Below w.heap.size w w') : NRow w' r p := h.keep (hb.block _ h.lt)
theorem NRow.only {g : Nat} (h : NRow w r p) (ho : Only g w w') (hne : r ≠ g) : NRow w' r p := h.keep (ho.block _ h.lt (fun e => by injection e with e; exact hne e))
theorem NRow.c0 (h : NRow w r p) : w.cell? ⟨r, 0, none⟩ = some (.int .u8 3) := cell_of_row w r 0 _ _ _ h
theorem NRow.c1 (h : NRow w r p) : w.cell? ⟨r, 1, none⟩ = some (.int .i64 60) := cell_of_row w r 1 _ _ _ h
theorem NRow.c2 (h : NRow w r p) : w.cell? ⟨r, 2, none⟩ = some (.func (.func 60) #[] #[]) := cell_of_row w r 2 _ _ _ h
theorem NRow.c3 (h : NRow w r p) : w.cell? ⟨r, 3, none⟩ = some (.func (.func 61) #[] #[.pointer (some ⟨p, 0, none⟩)]) := cell_of_row w r 3 _ _ _ h
theorem NRow.c4 (h : NRow w r p) : w.cell? ⟨r, 4, none⟩ = some (.func (.func 62) #[] #[.pointer (some ⟨p, 0, none⟩)]) := cell_of_row w r 4 _ _ _ h
end
theorem nrow_set {w : World} {r p : Nat} (h : w.heap[r]? = some (.cells rw0 102 (0, 0))) : NRow (w.setRow r (nrw p)) r p := by
  unfold NRow World.setRow
  simp [Array.getElem?_modify, h]
section
variable {ops : Array Oper} {rest : List Oper} {op : Oper} {a : Act} {w : World} {Q : Exit → Act → World → Prop}
theorem store_nrw (hgd : op.guard = none) (x y : Operand) (ho : op.op = .store 102 x y) (r p : Nat) (hx : a.eval x = .pointer (some ⟨r, 0, none⟩)) (hy : a.eval y = .agg (nrw p)) (hb : w.heap[r]? = some (.cells rw0 102 (0, 0)))
    (h : wpList Try.prog ops Q rest (a.put op.dst undef) (w.setRow r (nrw p))) : wpList Try.prog ops Q (op :: rest) a w := by
  refine wpList_plain hgd fun _ hK => ?_
  unfold Oper.wp execOp
  have e := run_storeVar_row (P := Try.prog) w r 102 102 rw0 (nrw p) hb nrw_size5 rfl (nrw_one p)
  simp only [ho, hx, hy, Instr.storeAt, Instr.sureAddr, Sem.run_bind, Sem.run_pure, Result.andThen_ok, e]
  exact hK _ _ h
theorem build_nrw (hgd : op.guard = none) (y3 y4 : Operand) (ho : op.op = .build 102 #[(0, .const (.int .u8 3)), (1, .const (.int .i64 60)), (2, .func 60), (3, y3), (4, y4)]) (p : Nat) (h3 : a.eval y3 = .func (.func 61) #[] #[.pointer (some ⟨p, 0, none⟩)]) (h4 : a.eval y4 = .func (.func 62) #[] #[.pointer (some ⟨p, 0, none⟩)])
    (h : wpList Try.prog ops Q rest (a.put op.dst (.agg (nrw p))) w) : wpList Try.prog ops Q (op :: rest) a w := by
  have e : Try.prog.built 102 ((#[(0, Operand.const (.int .u8 3)), (1, .const (.int .i64 60)), (2, .func 60), (3, y3), (4, y4)].map fun (q : Nat × Operand) => (q.1, a.eval q.2)).toList) = some (nrw p) := by
    have e2 : (#[(0, Operand.const (.int .u8 3)), (1, .const (.int .i64 60)), (2, .func 60), (3, y3), (4, y4)].map fun (q : Nat × Operand) => (q.1, a.eval q.2)).toList = [(0, .int .u8 3), (1, .int .i64 60), (2, .func (.func 60) #[] #[]), (3, a.eval y3), (4, a.eval y4)] := by
      simp only [List.map_toArray, List.map_cons, List.map_nil]
      rfl
    rw [e2, h3, h4]
    exact nrw_built p
  exact wpList_plain hgd fun _ hK => wp_build 102 _ ho (by rw [e]; rfl) (hK _ _ (by rw [e]; exact h))
end
theorem res_nrw {fn : Func} {q : Tmp} (h : fn.results = #[.cell q 102]) (tmps : Array Value) (w : World) (r p : Nat) (hp : tmps.getD q undef = .pointer (some ⟨r, 0, none⟩)) (hg : NRow w r p) :
    (results fn tmps).run Try.prog w = .ok (.agg (nrw p)) w :=
  results_cell_row h tmps w r 102 (nrw p) (0, 0) _ hp hg Try.underlying102 rfl nrw_size5
set_option maxHeartbeats 1000000 in
theorem pNumbersIn (b : Nat) (w : World) : Calls Try.prog 44 #[.pointer (some ⟨b, 0, none⟩)] w fun e w' => e = .returned (.agg (nrw w.heap.size)) ∧ PBox w' w.heap.size b ∧ Below w.heap.size w w' := by
  have hz := fun W => zero_nrw W
  have P := Lib.hid (show PBox ((w.alloc (.cells #[.pointer (some ⟨b, 0, none⟩)] 80)).alloc (.cells rw0 102)) w.heap.size b from PBox.below (heap_alloc_new w _) (below_new _ _))
  have R := Lib.hid (show ((w.alloc (.cells #[.pointer (some ⟨b, 0, none⟩)] 80)).alloc (.cells rw0 102)).heap[w.heap.size + 1]? = some (.cells rw0 102 (0, 0)) from heap_alloc2_new w _ _)
  have B := Lib.hid (show Below w.heap.size w ((w.alloc (.cells #[.pointer (some ⟨b, 0, none⟩)] 80)).alloc (.cells rw0 102)) from low_go (below_new w _) (below_new _ _))
  have hmf : ∀ (fn : Fn) (first cap : Array Value) (w : World), (Instr.makeFunc fn first cap).run Try.prog w = .ok (.func fn first cap) w := fun _ _ _ _ => rfl
  go_enter Try.func44, Try.ntmps44
  go_upto_region 1 with fail
  generalize (w.alloc (.cells #[.pointer (some ⟨b, 0, none⟩)] 80)).alloc (.cells rw0 102) = w1 at P R B ⊢
  clear hz
  go_wp2_with (first
    | (refine build_nrw rfl (.tmp 3) (.tmp 4) rfl w.heap.size rfl rfl ?_)
    | (refine store_nrw rfl (.tmp 2) (.tmp 5) rfl (w.heap.size + 1) w.heap.size rfl rfl R.out ?_))
  exact bodyPost_ret (res_nrw Try.results44 _ _ (w.heap.size + 1) w.heap.size rfl (nrow_set R.out)) rfl ⟨rfl, P.out.keep (setRow_other _ _ _ _ (by omega)), row_low B.out (by omega) _⟩
end Go.Proofs.Ytjiooadakklmlaa
