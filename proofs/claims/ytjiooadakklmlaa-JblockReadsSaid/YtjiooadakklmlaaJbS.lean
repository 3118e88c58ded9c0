import Derived.Test.YtjiooadakklmlaaJbM2
import Derived.Test.YtjiooadakklmlaaBVar
import Derived.Test.YtjiooadakklmlaaLow
import Derived.Laws.Tables
import Derived.Deep.AppendLies
import Derived.Great.BuildSlice
namespace Go.Proofs.Ytjiooadakklmlaa
open Go.RowKit

/-! Heads and tags in memory; lists of numbers, lists of tags. -/
def hcs (x : HeadV) : Array Value := #[.int .u32 ((x.seq : Nat) : Int), .int .i64 x.start]
def HVar (w : World) (b : Nat) (x : HeadV) : Prop := w.heap[b]? = some (.cells (hcs x) 24 (0, 0))
section
variable {w w' : World} {b : Nat} {x : HeadV}
theorem HVar.lt (h : HVar w b x) : b < w.heap.size := by
  rcases Nat.lt_or_ge b w.heap.size with q | q
  · exact q
  · unfold HVar at h; rw [Array.getElem?_eq_none q] at h; cases h
theorem HVar.keep (h : HVar w b x) (hk : w'.heap[b]? = w.heap[b]?) : HVar w' b x := hk.trans h
theorem HVar.below (h : HVar w b x) (hb : Below w.heap.size w w') : HVar w' b x := h.keep (hb.block _ h.lt)
theorem HVar.only {g : Nat} (h : HVar w b x) (ho : Only g w w') (hne : b ≠ g) : HVar w' b x := h.keep (ho.block _ h.lt (fun e => by injection e with e; exact hne e))
theorem HVar.seq (h : HVar w b x) : w.cell? ⟨b, 0, none⟩ = some (.int .u32 ((x.seq : Nat) : Int)) := cell_of_row w b 0 _ _ _ h
theorem HVar.start (h : HVar w b x) : w.cell? ⟨b, 1, none⟩ = some (.int .i64 x.start) := cell_of_row w b 1 _ _ _ h
end
theorem head_two : (Try.prog.info? 24).map (fun i => (i.zero, i.size)) = some (some (.agg #[.int .u32 0, .int .i64 0]), 2) := by kernel_rfl
theorem head_size2 : (Try.prog.info? 24).map (·.size) = some 2 := (zero_of_info head_two).2
theorem head_size (x : HeadV) : (Try.prog.info? 24).map (·.size) = some (hcs x).toList.length := by rw [head_size2]; rfl
theorem zero_head (w : World) : (zeroValue 24).run Try.prog w = .ok (.agg (hcs .zero)) w := by
  rw [(zero_of_info head_two).1 w]; rfl
theorem hcs_one (x : HeadV) : (hcs x).all (·.oneCell') = true := by unfold hcs; simp [Value.oneCell']
theorem head_built2 (n : Nat) (s : Int) : Try.prog.built 24 [(0, .int .u32 (n : Int)), (1, .int .i64 s)] = some (hcs ⟨n, s⟩) := by kernel_rfl
theorem head_built0 : Try.prog.built 24 [] = some (hcs .zero) := by kernel_rfl
def HAt (w : World) (b o : Nat) (x : HeadV) : Prop := w.rangeAt b o (hcs x).toList
theorem HVar.at {w : World} {b : Nat} {x : HeadV} (h : HVar w b x) : HAt w b 0 x := fun i v hv => by
  rw [Nat.zero_add, cell_of_row w b i _ _ _ h]; simpa using hv
section
variable {ops : Array Oper} {rest : List Oper} {op : Oper} {a : Act} {w : World} {Q : Exit → Act → World → Prop}
theorem load_head (hgd : op.guard = none) (x : Operand) (ho : op.op = .load 24 x) (b o : Nat) (hx : a.eval x = .pointer (some ⟨b, o, none⟩)) (s : HeadV) (hc : HAt w b o s)
    (h : wpList Try.prog ops Q rest (a.put op.dst (.agg (hcs s))) w) : wpList Try.prog ops Q (op :: rest) a w :=
  wpList_load_mid hgd 24 x ho b o hx (hcs s).toList _ hc Try.underlying24 rfl (head_size s) (by simpa using h)
theorem load_head_w (hw : Region.wanted op (yielded ops a.tmps) = true) (x : Operand) (ho : op.op = .load 24 x) (b o : Nat) (hx : a.eval x = .pointer (some ⟨b, o, none⟩)) (s : HeadV) (hc : HAt w b o s)
    (h : wpList Try.prog ops Q rest (a.put op.dst (.agg (hcs s))) w) : wpList Try.prog ops Q (op :: rest) a w :=
  BigFrame.wpList_want hw fun _ hK => wp_load_mid 24 x ho b o hx (hcs s).toList _ hc Try.underlying24 rfl (head_size s) (hK _ _ (by simpa using h))
theorem store_headv (hgd : op.guard = none) (x y : Operand) (ho : op.op = .store 24 x y) (b : Nat) (s t : HeadV) (hx : a.eval x = .pointer (some ⟨b, 0, none⟩)) (hy : a.eval y = .agg (hcs s)) (hb : HVar w b t)
    (h : wpList Try.prog ops Q rest (a.put op.dst undef) (w.setRow b (hcs s))) : wpList Try.prog ops Q (op :: rest) a w := by
  refine wpList_plain hgd fun _ hK => ?_
  unfold Oper.wp execOp
  have e := run_storeVar_row (P := Try.prog) w b 24 24 (hcs t) (hcs s) hb head_size2 rfl (hcs_one s)
  simp only [ho, hx, hy, Instr.storeAt, Instr.sureAddr, Sem.run_bind, Sem.run_pure, Result.andThen_ok, e]
  exact hK _ _ h
end
theorem HVar.setRow {w : World} {b : Nat} {t : HeadV} (h : HVar w b t) (s : HeadV) : HVar (w.setRow b (hcs s)) b s := by
  unfold HVar at *
  unfold World.setRow
  simp [Array.getElem?_modify, h]
theorem res_head {fn : Func} {p u : Tmp} (h : fn.results = #[.cell p 24, .tmp u]) (tmps : Array Value) (w : World) (g : Nat) (x : HeadV) (v : Value) (hp : tmps.getD p undef = .pointer (some ⟨g, 0, none⟩)) (hu : tmps.getD u undef = v) (hg : HVar w g x) :
    (results fn tmps).run Try.prog w = .ok (.tuple #[.agg (hcs x), v]) w := by
  have hp' : tmps[p]?.getD undef = .pointer (some ⟨g, 0, none⟩) := by simpa using hp
  have hu' : tmps[u]?.getD undef = v := by simpa using hu
  simp [results, h, hp', hu', asAddr, run_loadVar_row w g 24 24 (hcs x) (0, 0) _ hg Try.underlying24 rfl head_size2]
theorem head_guard : Try.prog.eqGuardType Try.prog.depth 24 = false := by kernel_rfl
theorem HeadV.eq_iff (x y : HeadV) : x = y ↔ x.seq = y.seq ∧ x.start = y.start := ⟨fun h => by rw [h]; exact ⟨rfl, rfl⟩, fun h => HeadV.same h.1 h.2⟩
set_option maxRecDepth 100000 in
theorem equalIn_head (x y : HeadV) (w : World) : (Op.equalIn 10000 24 (.agg (hcs x)) (.agg (hcs y))).run Try.prog w = .ok (decide (x = y)) w := by
  have e : decide (x = y) = ((x.seq : Int) == (y.seq : Int) && (x.start == y.start)) := by
    rw [Bool.eq_iff_iff]
    simp [HeadV.eq_iff]
    intros; omega
  rw [e]
  unfold hcs
  generalize (x.seq : Int) = x1
  generalize (y.seq : Int) = y1
  generalize x.start = x2
  generalize y.start = y2
  go_simp
  by_cases h1 : x1 = y1 <;> by_cases h2 : x2 = y2 <;> simp [h1, h2]

/-! Tags. -/
def tcs (t : TagV) : Array Value := #[.int .u32 ((t.1 : Nat) : Int), .bool t.2]
theorem tag_info : (Try.prog.info? 62).map (fun i => (i.zero, i.size, i.bytes)) = some (some (.agg #[.int .u32 0, .bool false]), 2, 8) := by kernel_rfl
theorem tag_two : (Try.prog.info? 62).map (fun i => (i.zero, i.size)) = some (some (.agg #[.int .u32 0, .bool false]), 2) := by kernel_rfl
theorem tag_size2 : (Try.prog.info? 62).map (·.size) = some 2 := (zero_of_info tag_two).2
theorem tag_size (x : TagV) : (Try.prog.info? 62).map (·.size) = some (tcs x).toList.length := by rw [tag_size2]; rfl
theorem tag_guard : Try.prog.eqGuardType Try.prog.depth 62 = false := by kernel_rfl
theorem u32_info : (Try.prog.info? 22).map (fun i => (i.zero, i.size, i.bytes)) = some (some (.int .u32 0), 1, 4) := by kernel_rfl
noncomputable instance : DecidableEq TagV := fun x y => Classical.propDecidable (x = y)
set_option maxRecDepth 100000 in
theorem equalIn_tag (x y : TagV) (w : World) : (Op.equalIn 10000 62 (.agg (tcs x)) (.agg (tcs y))).run Try.prog w = .ok (decide (x = y)) w := by
  have e : decide (x = y) = ((x.1 : Int) == (y.1 : Int) && (x.2 == y.2)) := by
    rw [Bool.eq_iff_iff]
    simp [Prod.ext_iff]
    intros; omega
  rw [e]
  unfold tcs
  generalize (x.1 : Int) = x1
  generalize (y.1 : Int) = y1
  generalize x.2 = x2
  generalize y.2 = y2
  go_simp
  by_cases h1 : x1 = y1 <;> cases x2 <;> cases y2 <;> simp [h1]
/-- A tag's two cells at a place. -/
def TAt (w : World) (b o : Nat) (x : TagV) : Prop := w.rangeAt b o (tcs x).toList
theorem TAt.blk {w : World} {b o : Nat} {x : TagV} (h : TAt w b o x) : w.cell? ⟨b, o, none⟩ = some (.int .u32 ((x.1 : Nat) : Int)) := h 0 _ rfl
theorem TAt.esc {w : World} {b o : Nat} {x : TagV} (h : TAt w b o x) : w.cell? ⟨b, o + 1, none⟩ = some (.bool x.2) := h 1 _ rfl
theorem TAt.below {w w' : World} {b o : Nat} {x : TagV} (h : TAt w b o x) (hb : Below w.heap.size w w') (hlt : b < w.heap.size) : TAt w' b o x := fun i v hv =>
  (hb.cell (p := ⟨b, o + i, none⟩) hlt).trans (h i v hv)
theorem TAt.of {w : World} {b o : Nat} {x : TagV} (h0 : w.cell? ⟨b, o, none⟩ = some (.int .u32 ((x.1 : Nat) : Int))) (h1 : w.cell? ⟨b, o + 1, none⟩ = some (.bool x.2)) : TAt w b o x := fun i v hv => by
  match i, hv with
  | 0, hv => rw [Nat.add_zero, h0]; exact hv
  | 1, hv => rw [h1]; exact hv
/-- Lists as their readers see them. -/
def NumsAt (w : World) (A : Option Addr) (l : List Nat) : Prop := 0 < l.length → ∃ b o, A = some ⟨b, o, none⟩ ∧ b < w.heap.size ∧ ∀ i v, l[i]? = some v → w.cell? ⟨b, o + i, none⟩ = some (.int .u32 ((v : Nat) : Int))
def TagsAt (w : World) (A : Option Addr) (l : List TagV) : Prop := 0 < l.length → ∃ b o, A = some ⟨b, o, none⟩ ∧ b < w.heap.size ∧ ∀ i t, l[i]? = some t → TAt w b (o + i * 2) t
theorem NumsAt.below {w w' : World} {A : Option Addr} {l : List Nat} (h : NumsAt w A l) (hb : Below w.heap.size w w') : NumsAt w' A l := fun h0 => by
  obtain ⟨b, o, e, hlt, hc⟩ := h h0
  exact ⟨b, o, e, Nat.lt_of_lt_of_le hlt hb.size, fun i v hv => (hb.cell (p := ⟨b, o + i, none⟩) hlt).trans (hc i v hv)⟩
theorem TagsAt.below {w w' : World} {A : Option Addr} {l : List TagV} (h : TagsAt w A l) (hb : Below w.heap.size w w') : TagsAt w' A l := fun h0 => by
  obtain ⟨b, o, e, hlt, hc⟩ := h h0
  exact ⟨b, o, e, Nat.lt_of_lt_of_le hlt hb.size, fun i t ht => (hc i t ht).below hb hlt⟩
theorem NumsAt.nil (w : World) (A : Option Addr) : NumsAt w A [] := fun h => absurd h (Nat.lt_irrefl 0)
theorem TagsAt.nil (w : World) (A : Option Addr) : TagsAt w A [] := fun h => absurd h (Nat.lt_irrefl 0)
/-- The cells of numbers; of tags. -/
def nC (l : List Nat) : List Value := l.map fun v => .int .u32 ((v : Nat) : Int)
def tC : List TagV → List Value
  | [] => []
  | t :: l => (tcs t).toList ++ tC l
theorem nC_length (l : List Nat) : (nC l).length = l.length * 1 := by simp [nC]
theorem nC_append (l m : List Nat) : nC (l ++ m) = nC l ++ nC m := by simp [nC]
theorem nC_one (l : List Nat) : ∀ u ∈ nC l, u.oneCell' = true := fun u hu => by
  obtain ⟨v, _, rfl⟩ := List.mem_map.1 hu
  rfl
theorem tC_length : ∀ l : List TagV, (tC l).length = l.length * 2
  | [] => rfl
  | t :: l => by simp [tC, tcs, tC_length l]; omega
theorem tC_append : ∀ l m : List TagV, tC (l ++ m) = tC l ++ tC m
  | [], _ => rfl
  | t :: l, m => by show (tcs t).toList ++ tC (l ++ m) = _; rw [tC_append l m, ← List.append_assoc]; rfl
theorem tC_get : ∀ {l : List TagV} {k j : Nat} {t : TagV}, l[k]? = some t → j < 2 → (tC l)[k * 2 + j]? = (tcs t)[j]?
  | [], _, _, _, h, _ => by simp at h
  | q :: l, 0, j, t, h, hj => by
    obtain rfl : q = t := by simpa using h
    show ((tcs q).toList ++ tC l)[0 * 2 + j]? = _
    rw [List.getElem?_append_left (by simp [tcs]; omega), ← Array.getElem?_toList]
    congr 1; omega
  | q :: l, k + 1, j, t, h, hj => by
    show ((tcs q).toList ++ tC l)[(k + 1) * 2 + j]? = _
    rw [List.getElem?_append_right (by simp [tcs]; omega), show (k + 1) * 2 + j - (tcs q).toList.length = k * 2 + j by simp [tcs]; omega]
    exact tC_get (by simpa using h) hj
theorem tC_one (l : List TagV) : ∀ u ∈ tC l, u.oneCell' = true := by
  induction l with
  | nil => intro u h; cases h
  | cons p l ih =>
    intro u h
    rcases List.mem_append.1 (show u ∈ (tcs p).toList ++ tC l from h) with h | h
    · unfold tcs at h
      simp at h
      rcases h with rfl | rfl <;> rfl
    · exact ih u h
theorem own_nums {w : World} {base : Nat} {v : Value} {l : List Nat} (h : w.ownsRow base 22 1 v l.length (nC l)) : ∃ A c, v = .slice A l.length c ∧ l.length ≤ c ∧ NumsAt w A l := by
  rcases h.2 with ⟨rfl, h0⟩ | ⟨g, cap, cur, rfl, hb, hg, hc, _, _, ht⟩
  · exact ⟨none, 0, by rw [h0], by omega, fun q => absurd q (by omega)⟩
  · refine ⟨_, cap, rfl, hc, fun _ => ⟨g, 0, rfl, (Array.getElem?_eq_some_iff.1 hg).1, fun k p hp => ?_⟩⟩
    have hk : k < l.length := by
      rcases Nat.lt_or_ge k l.length with q | q
      · exact q
      · rw [List.getElem?_eq_none q] at hp; cases hp
    rw [Nat.zero_add, cell_of_row w g _ _ _ _ hg]
    have h1 : (nC l)[k]? = some (.int .u32 ((p : Nat) : Int)) := by unfold nC; rw [List.getElem?_map, hp]; rfl
    rw [← ht, List.getElem?_take_of_lt (by omega)] at h1
    rw [← Array.getElem?_toList, h1]
theorem own_tags {w : World} {base : Nat} {v : Value} {l : List TagV} (h : w.ownsRow base 62 2 v l.length (tC l)) : ∃ A c, v = .slice A l.length c ∧ l.length ≤ c ∧ TagsAt w A l := by
  rcases h.2 with ⟨rfl, h0⟩ | ⟨g, cap, cur, rfl, hb, hg, hc, _, _, ht⟩
  · exact ⟨none, 0, by rw [h0], by omega, fun q => absurd q (by omega)⟩
  · refine ⟨_, cap, rfl, hc, fun _ => ⟨g, 0, rfl, (Array.getElem?_eq_some_iff.1 hg).1, fun k p hp => ?_⟩⟩
    have hk : k < l.length := by
      rcases Nat.lt_or_ge k l.length with q | q
      · exact q
      · rw [List.getElem?_eq_none q] at hp; cases hp
    have key : ∀ j, j < 2 → w.cell? ⟨g, 0 + k * 2 + j, none⟩ = (tcs p)[j]? := fun j hj => by
      rw [Nat.zero_add, cell_of_row w g _ _ _ _ hg]
      have h1 := tC_get hp hj
      rw [← ht, List.getElem?_take_of_lt (by omega)] at h1
      rw [← Array.getElem?_toList, h1]
    exact TAt.of (key 0 (by omega)) (key 1 (by omega))
theorem own_keep {w w' : World} {base n size : Nat} {e : TypeId} {v : Value} {xs : List Value} (h : w.ownsRow base e size v n xs) (hb : Below w.heap.size w w') : w'.ownsRow base e size v n xs :=
  h.kept (row := none) ⟨hb.os, hb.tape, hb.output, hb.size, fun j hj _ => hb.block j hj⟩ (by rcases h.2 with ⟨rfl, _⟩ | ⟨_, _, _, rfl, _⟩ <;> simp [Value.ownBlock])
theorem own_monoJ {w : World} {base base' n size : Nat} {e : TypeId} {v : Value} {xs : List Value} (h : w.ownsRow base e size v n xs) (hb : base' ≤ base) : w.ownsRow base' e size v n xs := by
  refine ⟨h.1, ?_⟩
  rcases h.2 with h | ⟨g, cap, cur, h1, h2, h3⟩
  · exact .inl h
  · exact .inr ⟨g, cap, cur, h1, Nat.le_trans hb h2, h3⟩
end Go.Proofs.Ytjiooadakklmlaa
