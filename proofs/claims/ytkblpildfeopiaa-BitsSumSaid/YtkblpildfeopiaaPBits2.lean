import Derived.Test.YtkblpildfeopiaaPBits1
namespace Go.Proofs.Ytkblpildfeopiaa
open Go.RowKit Go.Shelf Go.BigFrame

/-! One bit of a byte set, or cleared: all bytes, all places. -/
def orB (v m : Nat) : Nat := (bits BinOp.or IntKind.u8 ((v : Nat) : Int) (2 ^ m % 256)).toNat
def clB (v m : Nat) : Nat := (bits BinOp.andNot IntKind.u8 ((v : Nat) : Int) (2 ^ m % 256)).toNat
theorem or_all : ((List.range 256).all fun v => (List.range 8).all fun m => orB v m < 256 && (bits BinOp.or IntKind.u8 ((v : Nat) : Int) (2 ^ m % 256) == ((orB v m : Nat) : Int)) && (List.range 8).all fun j => (orB v m / 2 ^ j % 2 == 1) == (j == m || v / 2 ^ j % 2 == 1)) = true := by kernel_rfl
theorem cl_all : ((List.range 256).all fun v => (List.range 8).all fun m => clB v m < 256 && (bits BinOp.andNot IntKind.u8 ((v : Nat) : Int) (2 ^ m % 256) == ((clB v m : Nat) : Int)) && (List.range 8).all fun j => (clB v m / 2 ^ j % 2 == 1) == (!(j == m) && v / 2 ^ j % 2 == 1)) = true := by kernel_rfl
theorem or_at {v m : Nat} (hv : v < 256) (hm : m < 8) : orB v m < 256 ∧ bits BinOp.or IntKind.u8 ((v : Nat) : Int) (2 ^ m % 256) = ((orB v m : Nat) : Int) ∧ ∀ j, j < 8 → (orB v m / 2 ^ j % 2 == 1) = (j == m || v / 2 ^ j % 2 == 1) := by
  have h := List.all_eq_true.1 (List.all_eq_true.1 or_all v (List.mem_range.2 hv)) m (List.mem_range.2 hm)
  simp only [Bool.and_eq_true] at h
  exact ⟨of_decide_eq_true h.1.1, beq_iff_eq.1 h.1.2, fun j hj => beq_iff_eq.1 (List.all_eq_true.1 h.2 j (List.mem_range.2 hj))⟩
theorem cl_at {v m : Nat} (hv : v < 256) (hm : m < 8) : clB v m < 256 ∧ bits BinOp.andNot IntKind.u8 ((v : Nat) : Int) (2 ^ m % 256) = ((clB v m : Nat) : Int) ∧ ∀ j, j < 8 → (clB v m / 2 ^ j % 2 == 1) = (!(j == m) && v / 2 ^ j % 2 == 1) := by
  have h := List.all_eq_true.1 (List.all_eq_true.1 cl_all v (List.mem_range.2 hv)) m (List.mem_range.2 hm)
  simp only [Bool.and_eq_true] at h
  exact ⟨of_decide_eq_true h.1.1, beq_iff_eq.1 h.1.2, fun j hj => beq_iff_eq.1 (List.all_eq_true.1 h.2 j (List.mem_range.2 hj))⟩
theorem setB_byte {X : Blk} {k y : Nat} {b : Bool} (hy : y < 256) (h : ∀ j, j < 8 → (y / 2 ^ j % 2 == 1) = if j = k % 8 then b else (X.f (k / 8) / 2 ^ j % 2 == 1)) :
    (arr X).setIfInBounds (k / 8) (.int .u8 ((y : Nat) : Int)) = arr (setB X k b) := by
  rw [arr_set _ _ hy]
  congr 1
  refine bit_ext fun i hi => ?_
  rw [bit_setB hi]
  unfold bit Blk.set
  rw [Blk.of_f (by omega)]
  by_cases e : i / 8 = k / 8
  · rw [if_pos e, h (i % 8) (Nat.mod_lt _ (by omega))]
    by_cases q : i = k
    · rw [if_pos (by rw [q]), if_pos q]
    · rw [if_neg (by omega), if_neg q, e]
  · rw [if_neg e, if_neg (fun q => e (by rw [q]))]
theorem or_mask (X : Blk) (k : Nat) : bits BinOp.or IntKind.u8 ((X.f (k / 8) : Nat) : Int) ((mkB k : Nat) : Int) = ((orB (X.f (k / 8)) (k % 8) : Nat) : Int) := by
  rw [← (or_at (X.lt (k / 8)) (m := k % 8) (Nat.mod_lt _ (by omega))).2.1]; unfold mkB; simp
theorem cl_mask (X : Blk) (k : Nat) : bits BinOp.andNot IntKind.u8 ((X.f (k / 8) : Nat) : Int) ((mkB k : Nat) : Int) = ((clB (X.f (k / 8)) (k % 8) : Nat) : Int) := by
  rw [← (cl_at (X.lt (k / 8)) (m := k % 8) (Nat.mod_lt _ (by omega))).2.1]; unfold mkB; simp
theorem or_byte (X : Blk) (k : Nat) : (arr X).setIfInBounds (k / 8) (.int .u8 ((orB (X.f (k / 8)) (k % 8) : Nat) : Int)) = arr (setB X k true) :=
  setB_byte (or_at (X.lt _) (Nat.mod_lt _ (by omega))).1 fun j hj => by
    rw [(or_at (X.lt _) (Nat.mod_lt _ (by omega))).2.2 j hj]
    by_cases e : j = k % 8
    · rw [if_pos e]; simp [e]
    · rw [if_neg e]; simp [e]
theorem cl_byte (X : Blk) (k : Nat) : (arr X).setIfInBounds (k / 8) (.int .u8 ((clB (X.f (k / 8)) (k % 8) : Nat) : Int)) = arr (setB X k false) :=
  setB_byte (cl_at (X.lt _) (Nat.mod_lt _ (by omega))).1 fun j hj => by
    rw [(cl_at (X.lt _) (Nat.mod_lt _ (by omega))).2.2 j hj]
    by_cases e : j = k % 8
    · rw [if_pos e]; simp [e]
    · rw [if_neg e]; simp [e]
theorem turnB_nat {X : Blk} {k : Nat} {v : Bool} (h : k < 2048) : turnB X k v = setB X k v := by
  cases ht : turns X k v
  · rw [turnB_no ht]
    rw [turns_in h] at ht
    rw [setB_same (by simpa using ht)]
  · exact turnB_yes ht
theorem setB_ne {X : Blk} {k : Nat} {v : Bool} (h : k < 2048) : decide (setB X k v = X) = !(turns X k v) := by
  rw [turns_in h]
  by_cases e : bit X k = v
  · rw [setB_same e, e]; simp
  · have hne : setB X k v ≠ X := fun q => e (by have := bit_setB (X := X) (k := k) (v := v) h; rw [q, if_pos rfl] at this; exact this)
    rw [decide_eq_false hne]
    cases v <;> cases hb : bit X k <;> simp_all
theorem But.of_below {g : Nat} {w w' : World} (h : Below w.heap.size w w') : But g w w' := ⟨h.os, h.tape, h.output, h.size, fun i hi _ => h.block i hi⟩
theorem But.trans {g : Nat} {w w' w'' : World} (h : But g w w') (h2 : But g w' w'') : But g w w'' := ⟨h2.os.trans h.os, h2.tape.trans h.tape, h2.output.trans h.output, Nat.le_trans h.size h2.size, fun i hi hne => (h2.block i (Nat.lt_of_lt_of_le hi h.size) hne).trans (h.block i hi hne)⟩
theorem But.set {g k : Nat} {v : Value} {w w' : World} (h : Below w.heap.size w w') : But g w (w'.setCell ⟨g, k, none⟩ v) :=
  ⟨h.os, h.tape, h.output, Nat.le_trans h.size (by simp [World.setCell]), fun i hi hne => (Below.heap_setCell w' _ v i hne).trans (h.block i hi)⟩
theorem Var.put {w : World} {g k y : Nat} {X Y : Blk} (h : Var w g X) (he : (arr X).setIfInBounds k (.int .u8 ((y : Nat) : Int)) = arr Y) : Var (w.setCell ⟨g, k, none⟩ (.int .u8 ((y : Nat) : Int))) g Y := by
  have := heap_setCell_same w g k _ _ (.int .u8 ((y : Nat) : Int)) h
  rw [he] at this
  exact this
end Go.Proofs.Ytkblpildfeopiaa
