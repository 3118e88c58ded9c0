import Derived.Test.YtkolpdllogpklaaDkC
namespace Go.Proofs.Ytkolpdllogpklaa
open Go.RowKit

/-! Plain: what a cache has. -/
abbrev Ent := Blk × Bool
structure CS where
  a : Addr
  d : DS
  m : Int → Option Ent
  pin : Int → Bool
def setM {β : Type} (m : Int → β) (b : Int) (v : β) : Int → β := fun k => if k = b then v else m k
theorem setM_same {β : Type} (m : Int → β) (b : Int) (v : β) : setM m b v b = v := if_pos rfl
theorem setM_other {β : Type} {m : Int → β} {b k : Int} {v : β} (h : k ≠ b) : setM m b v k = m k := if_neg h
theorem setM_self {β : Type} {m : Int → β} {b : Int} {v : β} (h : m b = v) : setM m b v = m := by
  funext k
  unfold setM
  split
  · rename_i e; rw [e, h]
  · rfl
def CS.n (c : CS) : Nat := List.length c.d.safe
def CS.err (c : CS) (b : Int) : Int := if b < 0 ∨ (c.n : Int) ≤ b then 2 else 0
theorem CS.err_out {c : CS} {b : Int} (h : b < 0 ∨ (c.n : Int) ≤ b) : c.err b = 2 := if_pos h
theorem CS.err_in {c : CS} {b : Int} (h : ¬ (b < 0 ∨ (c.n : Int) ≤ b)) : c.err b = 0 := if_neg h
theorem CS.in_of {c : CS} {b : Int} (h : c.err b = 0) : 0 ≤ b ∧ b < c.n := by
  unfold CS.err at h
  split at h
  · cases h
  · omega
/-- The blocks' numbers. -/
def nums (n : Nat) : List Int := (List.range n).map fun (i : Nat) => (i : Int)
theorem mem_nums {n : Nat} {b : Int} : b ∈ nums n ↔ 0 ≤ b ∧ b < n := by
  unfold nums
  rw [List.mem_map]
  constructor
  · rintro ⟨i, hi, rfl⟩
    have := List.mem_range.1 hi
    omega
  · rintro ⟨h0, h1⟩
    exact ⟨b.toNat, List.mem_range.2 (by omega), by omega⟩
theorem nums_length (n : Nat) : (nums n).length = n := by simp [nums]
theorem nums_rise (n : Nat) : (nums n).Pairwise (· < ·) := by
  unfold nums
  rw [List.pairwise_map]
  exact (List.pairwise_lt_range (n := n)).imp fun h => by omega
def pickL (n : Nat) (P : Int → Bool) : List Int := (nums n).filter P
theorem pickL_rise (n : Nat) (P : Int → Bool) : (pickL n P).Pairwise (· < ·) := (nums_rise n).filter _
theorem mem_pickL {n : Nat} {P : Int → Bool} {b : Int} : b ∈ pickL n P ↔ (0 ≤ b ∧ b < n) ∧ P b = true := by
  unfold pickL
  rw [List.mem_filter, mem_nums]
theorem pickL_length (n : Nat) (P : Int → Bool) : (pickL n P).length ≤ n := by
  have := List.length_filter_le P (nums n)
  rw [nums_length] at this
  exact this
theorem pickL_congr {n : Nat} {P Q : Int → Bool} (h : ∀ b : Int, 0 ≤ b → b < n → P b = Q b) : pickL n P = pickL n Q :=
  List.filter_congr fun b hb => h b (mem_nums.1 hb).1 (mem_nums.1 hb).2
def CS.isD (c : CS) (b : Int) : Bool := match c.m b with | some e => e.2 | none => false
def CS.isC (c : CS) (b : Int) : Bool := match c.m b with | some e => !e.2 && !c.pin b | none => false
def CS.dirty (c : CS) : List Int := pickL c.n c.isD
def CS.clean (c : CS) : List Int := pickL c.n c.isC

/-! Rising lists of numbers are what they hold. -/
theorem rise_nodup {l : List Int} (h : l.Pairwise (· < ·)) : l.Nodup := h.imp fun h => Int.ne_of_lt h
def leI : Int → Int → Bool := fun x y => decide (x ≤ y)
theorem sort_eq {l r : List Int} (hl : l.Nodup) (hr : r.Pairwise (· < ·)) (hm : ∀ b, b ∈ l ↔ b ∈ r) : l.mergeSort leI = r := by
  have tr : ∀ a b c : Int, leI a b = true → leI b c = true → leI a c = true := fun a b c h1 h2 => by simp only [leI, decide_eq_true_eq] at *; omega
  have to : ∀ a b : Int, (leI a b || leI b a) = true := fun a b => by simp only [leI, Bool.or_eq_true, decide_eq_true_eq]; omega
  have hp : l.Perm r := (List.perm_ext_iff_of_nodup hl (rise_nodup hr)).2 hm
  refine List.Perm.eq_of_pairwise (le := fun a b => leI a b = true) (fun a b _ _ h1 h2 => ?_) (List.pairwise_mergeSort tr to l) (hr.imp fun {a b} h => ?_) ((List.mergeSort_perm l leI).trans hp)
  · simp only [leI, decide_eq_true_eq] at h1 h2; omega
  · simp only [leI, decide_eq_true_eq]; omega
theorem nodup_le : ∀ (n : Nat) (l : List Int), l.Nodup → (∀ b ∈ l, 0 ≤ b ∧ b < n) → l.length ≤ n
  | n, l, hl, hb => by
    have h : (l.mergeSort leI) = pickL n (fun b => decide (b ∈ l)) := sort_eq hl (pickL_rise _ _) fun b => by
      rw [mem_pickL]
      constructor
      · intro h; exact ⟨hb b h, by simpa using h⟩
      · rintro ⟨_, h⟩; simpa using h
    have e := (List.mergeSort_perm l leI).length_eq
    rw [h] at e
    rw [← e]
    exact pickL_length _ _

/-! Which one a number picks. -/
def pickAt (l : List Int) (k : Int) : Int := l.getD ((max k 0).toNat % l.length) 0
theorem pickAt_mem {l : List Int} {k : Int} (h : l ≠ []) : pickAt l k ∈ l := by
  unfold pickAt
  have h1 : (max k 0).toNat % l.length < l.length := Nat.mod_lt _ (List.length_pos_iff.2 h)
  rw [List.getD_eq_getElem?_getD, List.getElem?_eq_getElem h1]
  exact List.getElem_mem h1

/-! What each call makes of it. -/
noncomputable def CS.readV (c : CS) (b : Int) : Blk := if c.err b = 0 then (match c.m b with | some e => e.1 | none => c.d.read b) else .zero
def CS.readE (c : CS) (b : Int) : Int := if c.err b = 0 then (match c.m b with | some _ => 0 | none => c.d.err b) else c.err b
noncomputable def CS.read (c : CS) (b : Int) : CS := if c.err b = 0 ∧ c.m b = none ∧ c.d.err b = 0 then { c with m := setM c.m b (some (c.d.read b, false)) } else c
def CS.write (c : CS) (b : Int) (x : Blk) : CS := if c.err b = 0 then { c with m := setM c.m b (some (x, true)) } else c
def CS.backE (c : CS) (b : Int) : Int := if c.err b = 0 then (match c.m b with | some (_, true) => c.d.err b | _ => 0) else c.err b
def CS.back (c : CS) (b : Int) : CS := if c.err b = 0 ∧ c.d.err b = 0 then (match c.m b with | some (x, true) => { c with d := c.d.write b x, m := setM c.m b (some (x, false)) } | _ => c) else c
def CS.cut (c : CS) (b : Int) : CS := { c with m := setM c.m b none }
def CS.dropE (c : CS) (b : Int) : Int := if c.err b = 0 then (if c.pin b then 110 else 0) else c.err b
def CS.drop (c : CS) (b : Int) : CS := if c.err b = 0 ∧ c.pin b = false then c.cut b else c
def CS.setPin (c : CS) (b : Int) (on : Bool) : CS := if c.err b = 0 then { c with pin := setM c.pin b on } else c
def CS.backs : CS → List Int → CS × Int
  | c, [] => (c, 0)
  | c, b :: r => if c.backE b = 0 then (c.back b).backs r else (c.back b, c.backE b)
def CS.sync (c : CS) : CS × Int := if (c.backs c.dirty).2 = 0 then ({ (c.backs c.dirty).1 with d := (c.backs c.dirty).1.d.flush }, (c.backs c.dirty).1.d.err 0) else c.backs c.dirty
theorem write_len (s : DS) (b : Int) (x : Blk) : (s.write b x).safe.length = s.safe.length := by unfold DS.write; split <;> rfl
theorem flush_len (s : DS) : s.flush.safe.length = s.safe.length := by
  unfold DS.flush
  split
  · rfl
  · show s.now.length = _
    exact over_length _ _
theorem CS.read_n (c : CS) (b : Int) : (c.read b).n = c.n := by unfold CS.read; split <;> rfl
theorem CS.write_n (c : CS) (b : Int) (x : Blk) : (c.write b x).n = c.n := by unfold CS.write; split <;> rfl
theorem CS.back_n (c : CS) (b : Int) : (c.back b).n = c.n := by
  unfold CS.back
  split
  · split
    · exact write_len _ _ _
    · rfl
  · rfl
theorem CS.backs_n : ∀ (l : List Int) (c : CS), (c.backs l).1.n = c.n
  | [], _ => rfl
  | b :: r, c => by
    unfold CS.backs
    split
    · rw [CS.backs_n r, CS.back_n]
    · exact CS.back_n c b
theorem CS.back_acts (c : CS) (b : Int) : (c.back b).d.acts ≤ c.d.acts + 1 := by
  unfold CS.back
  split
  · split
    · show (c.d.write _ _).acts ≤ _
      unfold DS.write
      split <;> simp [DS.act]
    · exact Nat.le_succ _
  · exact Nat.le_succ _
theorem CS.backs_acts : ∀ (l : List Int) (c : CS), (c.backs l).1.d.acts ≤ c.d.acts + l.length
  | [], _ => Nat.le_refl _
  | b :: r, c => by
    unfold CS.backs
    have h := c.back_acts b
    split
    · have := CS.backs_acts r (c.back b); simp only [List.length_cons]; omega
    · simp only [List.length_cons]; omega
end Go.Proofs.Ytkolpdllogpklaa
