import Derived.Test.YtfijagjkgmhimaaOpenArr
import Derived.Test.YtfijagjkgmhimaaRowOpen
import Derived.Test.YtfijagjkgmhimaaInoS
namespace Go.Proofs.Ytfijagjkgmhimaa
open Go.ChangeShapes Go.WideShapes Go.ChangeAt Go.RowKit Go.Deep

/-! An inode that comes in. -/
abbrev R7 (k : IntKind) : World → List Value → Int → Prop := fun _ cs n => cs = [.int k n] ∧ (Lit.int k n).wf = true
abbrev R7Cons {α β : Type} (R : World → List Value → α → Prop) (S : World → List Value → β → Prop) : World → List Value → α × β → Prop := fun w cs q => ∃ c r, cs = c ++ r ∧ R w c q.1 ∧ S w r q.2
abbrev R7Nil : World → List Value → Unit → Prop := fun _ _ _ => True
abbrev R7Arr (t e : TypeId) (n : Nat) {α : Type} (R : World → List Value → α → Prop) : World → List Value → List α → Prop := fun w cs l => cs.length = Try.prog.cellsOf t ∧ l.length = n ∧ ∀ i x, l[i]? = some x → R w ((cs.drop (i * Try.prog.cellsOf e)).take (Try.prog.cellsOf e)) x
set_option maxRecDepth 100000 in
theorem ino_under : Try.prog.underlying 27 = some (.struct (Try.prog.fieldsOf 27)) := by kernel_rfl
set_option maxRecDepth 100000 in
theorem ino_fields : ∃ f0 f1 f2 f3 f4 f5 : Field, Try.prog.fieldsOf 27 = #[f0, f1, f2, f3, f4, f5] ∧ f0.offset = 0 ∧ f1.offset = 1 ∧ f2.offset = 2 ∧ f3.offset = 3 ∧ f4.offset = 4 ∧ f5.offset = 15 ∧
    f0.type = 5 ∧ f1.type = 3 ∧ f2.type = 24 ∧ f3.type = 3 ∧ f4.type = 25 ∧ f5.type = 24 := ⟨_, _, _, _, _, _, rfl, rfl, rfl, rfl, rfl, rfl, rfl, rfl, rfl, rfl, rfl, rfl, rfl⟩
theorem cells7_int : Try.prog.cellsOf 3 = 1 := by kernel_rfl
theorem cells7_u8 : Try.prog.cellsOf 5 = 1 := by kernel_rfl
theorem cells7_u32 : Try.prog.cellsOf 24 = 1 := by kernel_rfl
theorem cells7_pts : Try.prog.cellsOf 25 = 11 := by kernel_rfl
set_option maxRecDepth 100000 in
theorem cells7_ino : Try.prog.cellsOf 27 = 16 := by kernel_rfl
theorem pts_under : Try.prog.underlying 25 = some (.array 11 24) := by kernel_rfl
theorem reads_pts : Reads Try.prog 25 (R7Arr 25 24 11 (R7 .u32)) := Reads.array pts_under (Reads.int Try.underlying24)
set_option maxRecDepth 100000 in
theorem reads_ino : Reads Try.prog 27 (R7Cons (R7 .u8) (R7Cons (R7 .i64) (R7Cons (R7 .u32) (R7Cons (R7 .i64) (R7Cons (R7Arr 25 24 11 (R7 .u32)) (R7Cons (R7 .u32) R7Nil)))))) := by
  obtain ⟨f0, f1, f2, f3, f4, f5, e, o0, o1, o2, o3, o4, o5, t0, t1, t2, t3, t4, t5⟩ := ino_fields
  refine Reads.struct ino_under ?_
  rw [e]
  have ri := Reads.int Try.underlying3
  have ru := Reads.int Try.underlying24
  have rb := Reads.int Try.underlying5
  exact ReadsFs.cons o0 (by rw [t0]; exact rb) (ReadsFs.cons (by rw [o1, t0, cells7_u8]) (by rw [t1]; exact ri) (ReadsFs.cons (by rw [o2, t0, t1, cells7_u8, cells7_int]) (by rw [t2]; exact ru) (ReadsFs.cons (by rw [o3, t0, t1, t2, cells7_u8, cells7_int, cells7_u32]) (by rw [t3]; exact ri)
    (ReadsFs.cons (by rw [o4, t0, t1, t2, t3, cells7_u8, cells7_int, cells7_u32]) (by rw [t4]; exact reads_pts) (ReadsFs.cons (by rw [o5, t0, t1, t2, t3, t4, cells7_u8, cells7_int, cells7_u32, cells7_pts]) (by rw [t5]; exact ru) ReadsFs.nil)))))
/-- Eleven pointers, out of eleven numbers. -/
def ptsOf (l : List Int) (h : ∀ i, (l.getD i 0).toNat < 4294967296) (h0 : l.length = 11) : Ptrs :=
  ⟨fun i => (l.getD i 0).toNat, h, fun i hi => by show (l.getD i 0).toNat = 0; rw [List.getD_eq_getElem?_getD, List.getElem?_eq_none (by omega)]; rfl⟩
set_option maxRecDepth 100000 in
theorem opened_ino {H : Type} {enc : TypeId × Value → H} {W : World} {d : DataW H} {p : List MemPlace} {ts : List TypeId} {ds : List (DataW H)} {j : Nat} {v : Value} {base : Nat} (hok : Value.okWide Try.prog W .any base 27 v) (hsz : (DataW.weightsEach Try.prog ts ds).all (· ≤ reachBytes) = true) (htj : ts[j]? = some 27) (hdj : ds[j]? = some d)
    (hT : DataW.Trod enc Try.prog W 0 (fun _ => true) true 27 v d p) : ∃ s : InoV, v = .agg (ics s) ∧ s.Fits := by
  obtain ⟨⟨q0, q1, q2, q3, l, q5, _⟩, c0, r0, e, ⟨rfl, w0⟩, c1, r1, rfl, ⟨rfl, w1⟩, c2, r2, rfl, ⟨rfl, w2⟩, c3, r3, rfl, ⟨rfl, w3⟩, c4, r4, rfl, ⟨hc4, hl, hel⟩, c5, r5, rfl, ⟨rfl, w5⟩, _⟩ := reads_ino.arg hsz htj hdj hT
  obtain ⟨cs, rfl, hcs⟩ := okWide_struct ino_under hok
  rw [cells7_ino] at hcs
  rw [cells7_pts] at hc4
  rw [cells7_u32] at hel
  have hl : l.length = 11 := hl
  have e' : cs.toList = [.int .u8 q0] ++ ([.int .i64 q1] ++ ([.int .u32 q2] ++ ([.int .i64 q3] ++ (c4 ++ ([.int .u32 q5] ++ r5))))) := e
  have u0 : 0 ≤ q0 ∧ q0 < 256 := wf_u8 w0
  have u2 : 0 ≤ q2 ∧ q2 < 4294967296 := wf_u32 w2
  have u5 : 0 ≤ q5 ∧ q5 < 4294967296 := wf_u32 w5
  have hv : ∀ i, i < 11 → ∃ n : Int, l[i]? = some n ∧ c4[i]? = some (.int .u32 n) ∧ 0 ≤ n ∧ n < 4294967296 := by
    intro i hi
    have e1 : l[i]? = some l[i] := List.getElem?_eq_getElem (by omega)
    obtain ⟨h4, h5⟩ := hel i _ e1
    have h6 : c4[i]? = some (.int .u32 l[i]) := by
      have := congrArg (·[0]?) h4
      simpa [List.getElem?_take] using this
    have h7 := wf_u32 h5
    exact ⟨l[i], e1, h6, h7.1, h7.2⟩
  have hlt : ∀ i, (l.getD i 0).toNat < 4294967296 := fun i => by
    rw [List.getD_eq_getElem?_getD]
    rcases Nat.lt_or_ge i 11 with hi | hi
    · obtain ⟨n, e1, _, h5, h6⟩ := hv i hi
      rw [e1]
      show n.toNat < 4294967296
      omega
    · rw [List.getElem?_eq_none (by omega)]; decide
  refine ⟨⟨q0.toNat, q1, q2.toNat, q3, ptsOf l hlt hl, q5.toNat⟩, ?_, ⟨by show q0.toNat < 256; omega, wf_i64 w1, by show q2.toNat < 4294967296; omega, wf_i64 w3, by show q5.toNat < 4294967296; omega⟩⟩
  have e2 := fun i : Nat => congrArg (fun t : List Value => t[i]?) e'
  rw [ics_ext (x := ⟨q0.toNat, q1, q2.toNat, q3, ptsOf l hlt hl, q5.toNat⟩) hcs ?_ ?_ ?_ ?_ ?_ ?_]
  · have := e2 0
    show cs[0]? = some (Value.int .u8 ((q0.toNat : Nat) : Int))
    rw [Int.toNat_of_nonneg u0.1]
    simpa using this
  · have := e2 1
    simpa using this
  · have := e2 2
    show cs[2]? = some (Value.int .u32 ((q2.toNat : Nat) : Int))
    rw [Int.toNat_of_nonneg u2.1]
    simpa using this
  · have := e2 3
    simpa using this
  · intro k hk
    obtain ⟨n, e1, h4, h5, h6⟩ := hv k hk
    have h7 : (ptsOf l hlt hl).f k = n.toNat := by
      show (l.getD k 0).toNat = _
      rw [List.getD_eq_getElem?_getD, e1]; rfl
    show cs[4 + k]? = some (Value.int .u32 (((ptsOf l hlt hl).f k : Nat) : Int))
    rw [h7, Int.toNat_of_nonneg h5, ← h4]
    have h8 : cs.toList[4 + k]? = ([.int .u8 q0] ++ ([.int .i64 q1] ++ ([.int .u32 q2] ++ ([.int .i64 q3] ++ (c4 ++ ([.int .u32 q5] ++ r5))))))[4 + k]? := e2 (4 + k)
    rw [show 4 + k = k + 1 + 1 + 1 + 1 by omega] at h8 ⊢
    simp only [List.cons_append, List.nil_append, List.getElem?_cons_succ] at h8
    rw [List.getElem?_append_left (by omega)] at h8
    rw [← h8, Array.getElem?_toList]
  · have h8 : cs.toList[15]? = ([.int .u8 q0] ++ ([.int .i64 q1] ++ ([.int .u32 q2] ++ ([.int .i64 q3] ++ (c4 ++ ([.int .u32 q5] ++ r5))))))[11 + 4]? := e2 15
    show cs[15]? = some (Value.int .u32 ((q5.toNat : Nat) : Int))
    rw [Int.toNat_of_nonneg u5.1]
    simp only [List.cons_append, List.nil_append, List.getElem?_cons_succ] at h8
    rw [List.getElem?_append_right (by omega), show 11 - c4.length = 0 by omega] at h8
    rw [← Array.getElem?_toList, h8]; rfl
end Go.Proofs.Ytfijagjkgmhimaa
