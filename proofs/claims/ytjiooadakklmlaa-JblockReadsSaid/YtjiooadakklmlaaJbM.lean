import Derived.Test.YtjiooadakklmlaaPutB
namespace Go.Proofs.Ytjiooadakklmlaa
open Go.RowKit

/-! Journal blocks told plainly: a block is 64 numbers. -/
def byteN (v i : Nat) : Nat := if i = 0 then v % 256 else if i = 1 then v / 256 % 256 else if i = 2 then v / 65536 % 256 else v / 16777216 % 256
theorem byteN_lt (v i : Nat) : byteN v i < 256 := by
  unfold byteN
  split
  · omega
  split
  · omega
  split <;> omega
/-- The block that has these numbers. -/
@[irreducible] def numB (v : Nat → Nat) : Blk := .of (fun j => byteN (v (j / 4)) (j % 4)) fun _ _ => byteN_lt _ _
/-- The k-th number of a block. -/
def num (X : Blk) (k : Nat) : Nat := g32 X.f (4 * k)
theorem num_lt (X : Blk) (k : Nat) : num X k < 4294967296 := g32_lt X.lt _
theorem numB_f {v : Nat → Nat} {j : Nat} (h : j < 256) : (numB v).f j = byteN (v (j / 4)) (j % 4) := by
  unfold numB
  exact Blk.of_f h
theorem num_numB {v : Nat → Nat} {k : Nat} (h : k < 64) (hv : v k < 4294967296) : num (numB v) k = v k := by
  unfold num g32
  rw [numB_f (by omega), numB_f (by omega), numB_f (by omega), numB_f (by omega)]
  rw [show 4 * k / 4 = k by omega, show (4 * k + 1) / 4 = k by omega, show (4 * k + 2) / 4 = k by omega, show (4 * k + 3) / 4 = k by omega, show 4 * k % 4 = 0 by omega, show (4 * k + 1) % 4 = 1 by omega, show (4 * k + 2) % 4 = 2 by omega, show (4 * k + 3) % 4 = 3 by omega]
  unfold byteN
  simp
  omega
theorem byte_num (X : Blk) (k i : Nat) (hi : i < 4) : byteN (num X k) i = X.f (4 * k + i) := by
  have h0 := X.lt (4 * k)
  have h1 := X.lt (4 * k + 1)
  have h2 := X.lt (4 * k + 2)
  have h3 := X.lt (4 * k + 3)
  unfold num g32 byteN
  match i, hi with
  | 0, _ => show _ = X.f (4 * k); rw [if_pos rfl]; omega
  | 1, _ => rw [if_neg (by omega), if_pos rfl]; omega
  | 2, _ => rw [if_neg (by omega), if_neg (by omega), if_pos rfl]; omega
  | 3, _ => rw [if_neg (by omega), if_neg (by omega), if_neg (by omega)]; omega
theorem num_ext {X Y : Blk} (h : ∀ k, k < 64 → num X k = num Y k) : X = Y := Blk.same fun j hj => by
  have e := h (j / 4) (by omega)
  have e1 := byte_num X (j / 4) (j % 4) (by omega)
  have e2 := byte_num Y (j / 4) (j % 4) (by omega)
  rw [show 4 * (j / 4) + j % 4 = j by omega] at e1 e2
  rw [← e1, ← e2, e]
theorem num_zero (k : Nat) : num .zero k = 0 := rfl
theorem num_put {X : Blk} {i v k : Nat} (hi : i < 64) (hv : v < 4294967296) : num (putB32 X (4 * i) v) k = if k = i then v else num X k := by
  unfold num
  by_cases e : k = i
  · subst e; rw [if_pos rfl, g32_putB32 (by omega) hv]
  · rw [if_neg e, g32_putB32_off (by omega)]
/-- From the k-th number on all are noughts. -/
def Tail0 (X : Blk) (k : Nat) : Prop := ∀ j, k ≤ j → j < 64 → num X j = 0
noncomputable instance (X : Blk) (k : Nat) : Decidable (Tail0 X k) := Classical.propDecidable _
theorem tail_bytes {X : Blk} {k : Nat} (h : Tail0 X k) : ∀ i, i < 256 - 4 * k → X.f (4 * k + i) = 0 := fun i hi => by
  have e := byte_num X ((4 * k + i) / 4) ((4 * k + i) % 4) (by omega)
  rw [show 4 * ((4 * k + i) / 4) + (4 * k + i) % 4 = 4 * k + i by omega, h _ (by omega) (by omega)] at e
  rw [← e]
  unfold byteN
  simp
theorem tail_not {X : Blk} {k : Nat} (h : ¬ Tail0 X k) : ∃ i, i < 256 - 4 * k ∧ 0 < X.f (4 * k + i) := by
  refine Classical.byContradiction fun q => h fun j h1 h2 => ?_
  have z : ∀ i, i < 4 → X.f (4 * j + i) = 0 := fun i hi => Classical.byContradiction fun u => q ⟨4 * j + i - 4 * k, by omega, by rw [show 4 * k + (4 * j + i - 4 * k) = 4 * j + i by omega]; omega⟩
  have z0 := z 0 (by omega)
  rw [Nat.add_zero] at z0
  unfold num g32
  rw [z0, z 1 (by omega), z 2 (by omega), z 3 (by omega)]
abbrev magic : Nat := 1280199249
structure MaySeq (s : Nat) : Prop where
  pos : 1 ≤ s
  le : s ≤ 2147483648
instance (s : Nat) : Decidable (MaySeq s) := decidable_of_iff (1 ≤ s ∧ s ≤ 2147483648) ⟨fun h => ⟨h.1, h.2⟩, fun h => ⟨h.pos, h.le⟩⟩
/-- A block begins as one of a kind. -/
structure Begins (X : Blk) (k : Nat) : Prop where
  magic : num X 0 = magic
  kind : num X 1 = k
  seq : MaySeq (num X 2)
instance (X : Blk) (k : Nat) : Decidable (Begins X k) := decidable_of_iff (num X 0 = 1280199249 ∧ num X 1 = k ∧ MaySeq (num X 2)) ⟨fun h => ⟨h.1, h.2.1, h.2.2⟩, fun h => ⟨h.magic, h.kind, h.seq⟩⟩
/-- The block whose first numbers these are. -/
def listB (l : List Nat) : Blk := numB fun k => l.getD k 0
theorem num_list {l : List Nat} {k : Nat} (hl : ∀ v ∈ l, v < 4294967296) (hk : k < 64) : num (listB l) k = l.getD k 0 := by
  unfold listB
  refine num_numB hk ?_
  rw [List.getD_eq_getElem?_getD]
  rcases h : l[k]? with _ | v
  · exact Nat.zero_lt_succ _
  · exact hl v (List.mem_of_getElem? h)

/-! Heads. -/
structure HeadV where
  seq : Nat
  start : Int
def HeadV.zero : HeadV := ⟨0, 0⟩
noncomputable instance : DecidableEq HeadV := fun x y => Classical.propDecidable (x = y)
theorem HeadV.same {x y : HeadV} (h : x.seq = y.seq) (e : x.start = y.start) : x = y := by cases x; cases y; simp_all
structure MayH (h : HeadV) : Prop where
  seq : MaySeq h.seq
  lo : 0 ≤ h.start
  hi : h.start ≤ 255
noncomputable instance (h : HeadV) : Decidable (MayH h) := Classical.propDecidable _
def headL (h : HeadV) : List Nat := [magic, 4, h.seq, h.start.toNat]
noncomputable def writeJH (h : HeadV) : Blk × Int := if MayH h then (listB (headL h), 0) else (.zero, 2)
structure IsJH (X : Blk) : Prop where
  begins : Begins X 4
  start : num X 3 ≤ 255
  rest : Tail0 X 4
noncomputable instance (X : Blk) : Decidable (IsJH X) := Classical.propDecidable _
def headOf (X : Blk) : HeadV := ⟨num X 2, (num X 3 : Int)⟩
noncomputable def readJH (X : Blk) : HeadV × Int := if IsJH X then (headOf X, 0) else (.zero, 90)

/-! Commits. -/
structure MayC (seq : Nat) (count : Int) : Prop where
  seq : MaySeq seq
  lo : 1 ≤ count
  hi : count ≤ 256
noncomputable instance (s : Nat) (c : Int) : Decidable (MayC s c) := Classical.propDecidable _
def commitL (seq : Nat) (count : Int) (sum : Nat) : List Nat := [magic, 2, seq, count.toNat, sum]
noncomputable def writeJC (seq : Nat) (count : Int) (sum : Nat) : Blk × Int := if MayC seq count then (listB (commitL seq count sum), 0) else (.zero, 2)
structure IsJC (X : Blk) : Prop where
  begins : Begins X 2
  lo : 1 ≤ num X 3
  hi : num X 3 ≤ 256
  rest : Tail0 X 5
noncomputable instance (X : Blk) : Decidable (IsJC X) := Classical.propDecidable _

/-! Lists that rise. -/
def Rise (l : List Nat) : Prop := ∀ i, i + 1 < l.length → l.getD i 0 < l.getD (i + 1) 0
noncomputable instance (l : List Nat) : Decidable (Rise l) := Classical.propDecidable _

/-! Revoke blocks. -/
structure MayR (seq : Nat) (l : List Nat) : Prop where
  seq : MaySeq seq
  lo : 1 ≤ l.length
  hi : l.length ≤ 60
  rise : Rise l
noncomputable instance (s : Nat) (l : List Nat) : Decidable (MayR s l) := Classical.propDecidable _
def revokeL (seq : Nat) (l : List Nat) : List Nat := [magic, 3, seq, l.length] ++ l
noncomputable def writeJR (seq : Nat) (l : List Nat) : Blk × Int := if MayR seq l then (listB (revokeL seq l), 0) else (.zero, 2)
def numsOf (X : Blk) (n : Nat) : List Nat := (List.range n).map fun i => num X (4 + i)
structure IsJR (X : Blk) : Prop where
  begins : Begins X 3
  lo : 1 ≤ num X 3
  hi : num X 3 ≤ 60
  rest : Tail0 X (4 + num X 3)
  rise : Rise (numsOf X (num X 3))
noncomputable instance (X : Blk) : Decidable (IsJR X) := Classical.propDecidable _

/-! Descriptors: tags. -/
abbrev TagV := Nat × Bool
def flag (b : Bool) : Nat := if b then 1 else 0
def flatT : List TagV → List Nat
  | [] => []
  | t :: l => t.1 :: flag t.2 :: flatT l
structure MayT (seq : Nat) (l : List TagV) : Prop where
  seq : MaySeq seq
  lo : 1 ≤ l.length
  hi : l.length ≤ 30
  rise : Rise (l.map Prod.fst)
noncomputable instance (s : Nat) (l : List TagV) : Decidable (MayT s l) := Classical.propDecidable _
def tagsL (seq : Nat) (l : List TagV) : List Nat := [magic, 1, seq, l.length] ++ flatT l
noncomputable def writeJT (seq : Nat) (l : List TagV) : Blk × Int := if MayT seq l then (listB (tagsL seq l), 0) else (.zero, 2)
def tagAt (X : Blk) (i : Nat) : TagV := (num X (4 + 2 * i), num X (5 + 2 * i) == 1)
def tagsOf (X : Blk) (n : Nat) : List TagV := (List.range n).map (tagAt X)
structure IsJT (X : Blk) : Prop where
  begins : Begins X 1
  lo : 1 ≤ num X 3
  hi : num X 3 ≤ 30
  rest : Tail0 X (4 + 2 * num X 3)
  flags : ∀ i, i < num X 3 → num X (5 + 2 * i) ≤ 1
  rise : Rise ((tagsOf X (num X 3)).map Prod.fst)
noncomputable instance (X : Blk) : Decidable (IsJT X) := Classical.propDecidable _

/-! Kinds and copies. -/
def kindOf (X : Blk) : Nat × Nat := if Begins X (num X 1) ∧ 1 ≤ num X 1 ∧ num X 1 ≤ 4 then (num X 1, num X 2) else (0, 0)
def escB (X : Blk) : Blk × Bool := if num X 0 = magic then (putB32 X 0 0, true) else (X, false)
def unescB (X : Blk) : Blk := putB32 X 0 magic
end Go.Proofs.Ytjiooadakklmlaa
