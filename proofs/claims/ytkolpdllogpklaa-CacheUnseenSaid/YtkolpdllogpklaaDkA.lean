import Derived.Test.YtkolpdllogpklaaFill
import Derived.Deep.RegionHeld3
import Derived.BigFrame
import Derived.Laws.MakeOwn
import Derived.Test.YtkolpdllogpklaaBlk
import Derived.Great.BuildSlice
import Derived.Laws.Tables
import Derived.Deep.AppendLies
import Derived.OwnWalk
import Derived.Deep.RegionLaw
import Derived.Laws.CopyOwn
namespace Go.Proofs.Ytkolpdllogpklaa
open Go.RowKit
theorem take_eq_succ {l r : List Blk} {k : Nat} (kl : k < l.length) (kr : k < r.length) (h : l.take k = r.take k) (e : l[k] = r[k]) : l.take (k + 1) = r.take (k + 1) := by
  rw [List.take_succ_eq_append_getElem kl, List.take_succ_eq_append_getElem kr, h, e]
theorem ne_of_get {l r : List Blk} {k : Nat} (kl : k < l.length) (kr : k < r.length) (e : l[k] ≠ r[k]) : l ≠ r := fun h => by subst h; exact e rfl
theorem ret_bool {a b : Bool} (h : a = b) : Ending.returned (.bool a) = .returned (.bool b) := by rw [h]
end Go.Proofs.Ytkolpdllogpklaa
namespace Go.Proofs.Ytkolpdllogpklaa
open Go.RowKit

/-! What a disk is, as the chapter tells it: what is safe, what waits, how many acts were done, how many more may be done. -/
abbrev Waits := List (Nat × Blk)
structure DS where
  safe : List Blk
  wait : Waits
  acts : Nat
  left : Option Nat
def over (l : List Blk) : Waits → List Blk
  | [] => l
  | p :: ps => over (l.set p.1 p.2) ps
def kept : Waits → List Bool → Waits
  | [], _ => []
  | _ :: _, [] => []
  | p :: ps, k :: ks => if k then p :: kept ps ks else kept ps ks
theorem over_length : ∀ (ps : Waits) (l : List Blk), (over l ps).length = l.length
  | [], _ => rfl
  | p :: ps, l => by rw [over, over_length ps]; simp
theorem over_append : ∀ (ps qs : Waits) (l : List Blk), over l (ps ++ qs) = over (over l ps) qs
  | [], _, _ => rfl
  | p :: ps, qs, l => by rw [List.cons_append, over, over, over_append ps]
theorem kept_all : ∀ (ps : Waits) (ks : List Bool), ps.length ≤ ks.length → (∀ i, i < ps.length → ks[i]? = some true) → kept ps ks = ps
  | [], _, _, _ => rfl
  | p :: ps, [], h, _ => absurd h (by simp)
  | p :: ps, k :: ks, h, ht => by
    have h0 := ht 0 (by simp)
    simp at h0
    subst h0
    rw [kept, if_pos rfl, kept_all ps ks (by simpa using h) (fun i hi => by have := ht (i + 1) (by simp; omega); simpa using this)]
def DS.now (s : DS) : List Blk := over s.safe s.wait
def DS.dead (s : DS) : Bool := s.left == some 0
def DS.act (s : DS) : DS := { s with acts := s.acts + 1, left := s.left.map (· - 1) }
def DS.new (n : Nat) : DS := ⟨List.replicate n .zero, [], 0, none⟩
def DS.err (s : DS) (b : Int) : Int := if s.dead then 30 else if b < 0 ∨ (s.safe.length : Int) ≤ b then 2 else 0
noncomputable def DS.read (s : DS) (b : Int) : Blk := if s.err b = 0 then s.now.getD b.toNat .zero else .zero
def DS.write (s : DS) (b : Int) (x : Blk) : DS := if s.err b = 0 then { s.act with wait := s.wait ++ [(b.toNat, x)] } else s
def DS.flush (s : DS) : DS := if s.dead then s else { s.act with safe := s.now, wait := [] }
def DS.power (s : DS) (after : Int) : DS := { s with left := if after < 0 then none else some after.toNat }
def DS.crash (s : DS) (keep : List Bool) : DS := { s with safe := over s.safe (kept s.wait keep), wait := [], left := none }
def DS.ok (s : DS) : Prop := 1 ≤ s.safe.length ∧ s.safe.length ≤ 2048 ∧ (∀ p ∈ s.wait, p.1 < s.safe.length) ∧ s.wait.length ≤ s.acts ∧ s.acts ≤ 1000000

/-- The blocks of memory in av are as they were; nothing is lost. -/
structure Keep (av : Nat → Prop) (w w' : World) : Prop where
  os : w'.os = w.os
  tape : w'.tape = w.tape
  output : w'.output = w.output
  size : w.heap.size ≤ w'.heap.size
  block : ∀ i, av i → w'.heap[i]? = w.heap[i]?
theorem Keep.refl (av : Nat → Prop) (w : World) : Keep av w w := ⟨rfl, rfl, rfl, Nat.le_refl _, fun _ _ => rfl⟩
theorem Keep.trans {av : Nat → Prop} {a b c : World} (h : Keep av a b) (k : Keep av b c) : Keep av a c :=
  ⟨k.os.trans h.os, k.tape.trans h.tape, k.output.trans h.output, Nat.le_trans h.size k.size, fun i hi => (k.block i hi).trans (h.block i hi)⟩
theorem Keep.mono {av av' : Nat → Prop} {a b : World} (h : Keep av a b) (hv : ∀ i, av' i → av i) : Keep av' a b := ⟨h.os, h.tape, h.output, h.size, fun i hi => h.block i (hv i hi)⟩
theorem Keep.below {av : Nat → Prop} {a b : World} {B : Nat} (h : Keep av a b) (hv : ∀ i, i < B → av i) : Below B a b := ⟨h.os, h.tape, h.output, h.size, fun i hi => h.block i (hv i hi)⟩
theorem Keep.of_below {B : Nat} {a b : World} (h : Below B a b) : Keep (· < B) a b := ⟨h.os, h.tape, h.output, h.size, h.block⟩
theorem Keep.cell {av : Nat → Prop} {a b : World} (h : Keep av a b) {p : Addr} (hp : av p.block) : b.cell? p = a.cell? p := by simp [World.cell?, h.block _ hp]
theorem Keep.img {av : Nat → Prop} {a b : World} (h : Keep av a b) {A : Option Addr} {l : List Blk} (hA : ∀ g o, A = some ⟨g, o, none⟩ → av g) (hi : Img a A l) : Img b A l := hi.keep h.size fun g o e => h.block g (hA g o e)
theorem Keep.oimg {av : Nat → Prop} {a b : World} (h : Keep av a b) {g o : Nat} {l : List Blk} (hA : av g) (hi : OImg a g o l) : OImg b g o l := hi.keep (h.block g hA)

/-- A list of bools. -/
def Bools (w : World) (A : Option Addr) (l : List Bool) : Prop := 0 < l.length → ∃ b o, A = some ⟨b, o, none⟩ ∧ b < w.heap.size ∧ ∀ i x, l[i]? = some x → w.cell? ⟨b, o + i, none⟩ = some (.bool x)

abbrev Av := Nat → Prop
section
variable {D : World → Addr → DS → Av → Prop}
end
theorem Keep.cells {av : Av} {a w : World} (h : Keep av a w) {g : Nat} (hg : ¬ av g) (o : Nat) (vs : List Value) : Keep av a (w.setCells g o vs) :=
  h.trans ⟨(setCells_only g vs o w).1, (setCells_only g vs o w).2.1, (setCells_only g vs o w).2.2, by rw [setCells_size]; exact Nat.le_refl _, fun i hi => setCells_heap_ne g vs o w i (fun e => hg (e ▸ hi))⟩
theorem below_cells {B : Nat} {a w : World} (h : Below B a w) {g : Nat} (hg : B ≤ g) (o : Nat) (vs : List Value) : Below B a (w.setCells g o vs) :=
  h.trans ⟨(setCells_only g vs o w).1, (setCells_only g vs o w).2.1, (setCells_only g vs o w).2.2, by rw [setCells_size]; exact Nat.le_refl _, fun i hi => setCells_heap_ne g vs o w i (by omega)⟩

end Go.Proofs.Ytkolpdllogpklaa
namespace Go.Proofs.Ytkolpdllogpklaa
open Go.RowKit

/-! A list of writes that came in: numbers and what is filled in. -/
abbrev Puts := List (Int × Nat)
def PutsAt (w : World) (A : Option Addr) (l : Puts) : Prop := 0 < l.length → ∃ b o, A = some ⟨b, o, none⟩ ∧ b < w.heap.size ∧ ∀ i p, l[i]? = some p → w.cell? ⟨b, o + i * 2, none⟩ = some (.int .i64 p.1) ∧ w.cell? ⟨b, o + i * 2 + 1, none⟩ = some (.int .u32 (p.2 : Int)) ∧ -9223372036854775808 ≤ p.1 ∧ p.1 ≤ 9223372036854775807 ∧ p.2 < 4294967296
theorem PutsAt.below {w w' : World} {A : Option Addr} {l : Puts} (h : PutsAt w A l) (hb : Below w.heap.size w w') : PutsAt w' A l := fun h0 => by
  obtain ⟨b, o, e, hlt, hc⟩ := h h0
  refine ⟨b, o, e, Nat.lt_of_lt_of_le hlt hb.size, fun i p hp => ?_⟩
  obtain ⟨h1, h2, h3⟩ := hc i p hp
  exact ⟨(hb.cell (p := ⟨b, o + i * 2, none⟩) hlt).trans h1, (hb.cell (p := ⟨b, o + i * 2 + 1, none⟩) hlt).trans h2, h3⟩
def inside (n : Nat) (b : Int) : Bool := decide (0 ≤ b) && decide (b < n)
def ws (n : Nat) : Puts → Waits
  | [] => []
  | p :: ps => if inside n p.1 then (p.1.toNat, fillB p.2) :: ws n ps else ws n ps
theorem ws_snoc (n : Nat) (p : Int × Nat) : ∀ ps : Puts, ws n (ps ++ [p]) = ws n ps ++ if inside n p.1 then [(p.1.toNat, fillB p.2)] else []
  | [] => by simp [ws]
  | q :: qs => by
    rw [List.cons_append, ws, ws_snoc n p qs, ws]
    split <;> simp
theorem ws_take {n : Nat} {l : Puts} {k : Nat} (h : k < l.length) : ws n (l.take (k + 1)) = ws n (l.take k) ++ if inside n l[k].1 then [(l[k].1.toNat, fillB l[k].2)] else [] := by
  rw [List.take_succ_eq_append_getElem h, ws_snoc]
theorem ws_lt (n : Nat) : ∀ (ps : Puts), ∀ p ∈ ws n ps, p.1 < n
  | [], _, h => by simp [ws] at h
  | q :: qs, p, h => by
    unfold ws at h
    split at h
    · rename_i hi
      rcases List.mem_cons.1 h with rfl | h
      · simp [inside] at hi; show q.1.toNat < n; omega
      · exact ws_lt n qs p h
    · exact ws_lt n qs p h
theorem ws_len (n : Nat) : ∀ (ps : Puts), (ws n ps).length ≤ ps.length
  | [] => Nat.le_refl _
  | q :: qs => by
    unfold ws
    have := ws_len n qs
    split <;> simp <;> omega
def put (n : Nat) (ps : Waits) : DS := ⟨List.replicate n .zero, ps, ps.length, none⟩
theorem put_nil (n : Nat) : put n [] = .new n := rfl
theorem put_err (n : Nat) (ps : Waits) (b : Int) : (put n ps).err b = if inside n b then 0 else 2 := by
  unfold DS.err put inside DS.dead
  simp
  by_cases h1 : b < 0 <;> by_cases h2 : (n : Int) ≤ b <;> simp [h1, h2] <;> omega
theorem put_write (n : Nat) (ps : Waits) (b : Int) (x : Blk) : (put n ps).write b x = put n (ps ++ if inside n b then [(b.toNat, x)] else []) := by
  unfold DS.write
  rw [put_err]
  cases h : inside n b <;> simp [put, DS.act]
theorem over_take {n : Nat} {l : Puts} {k : Nat} (h : k < l.length) (z : List Blk) : over z (ws n (l.take (k + 1))) = if inside n l[k].1 then (over z (ws n (l.take k))).set l[k].1.toNat (fillB l[k].2) else over z (ws n (l.take k)) := by
  rw [ws_take h, over_append]
  split <;> rfl
def count (n : Int) : Nat := 1 + (n % 18446744073709551616 % 64).toNat
theorem count_range (n : Int) : 1 ≤ count n ∧ count n ≤ 64 := by unfold count; omega

theorem cnt_eq (n : Int) : wrap64 (1 + wrap64 ((IntKind.u64.wrap n).tmod 64)) = ((count n : Nat) : Int) := by
  have h0 : IntKind.u64.wrap n = n % 18446744073709551616 := by simp [IntKind.wrap, IntKind.bits, IntKind.signed]
  have h1 : 0 ≤ n % 18446744073709551616 := Int.emod_nonneg _ (by omega)
  have h2 : (n % 18446744073709551616).tmod 64 = n % 18446744073709551616 % 64 := Int.tmod_eq_emod_of_nonneg h1
  rw [h0, h2]
  unfold count
  generalize n % 18446744073709551616 = r at h1 ⊢
  have h3 : 0 ≤ r % 64 := by omega
  have h4 : r % 64 < 64 := by omega
  unfold wrap64
  omega

section
variable {D : World → Addr → DS → Av → Prop}
end
end Go.Proofs.Ytkolpdllogpklaa
namespace Go.Proofs.Ytkolpdllogpklaa
open Go.RowKit

def flushed (N : Nat) (W : Waits) : DS := ⟨over (List.replicate N .zero) W, [], W.length + 1, none⟩
theorem put_flush (N : Nat) (W : Waits) : (put N W).flush = flushed N W := rfl
theorem put_err0 (N : Nat) (W : Waits) (h : 1 ≤ N) : (put N W).err 0 = 0 := by rw [put_err]; simp [inside]; omega
theorem flushed_crash (N : Nat) (W : Waits) (l : List Bool) : (flushed N W).crash l = ⟨over (List.replicate N .zero) W, [], W.length + 1, none⟩ := rfl
theorem flushed_now (N : Nat) (W : Waits) : (flushed N W).now = over (List.replicate N .zero) W := rfl
theorem over_rep (N : Nat) (W : Waits) : (over (List.replicate N Blk.zero) W).length = N := by rw [over_length, List.length_replicate]
section
variable {D : World → Addr → DS → Av → Prop}
end
end Go.Proofs.Ytkolpdllogpklaa
namespace Go.Proofs.Ytkolpdllogpklaa
open Go.RowKit

theorem put_now (N : Nat) (W : Waits) : (put N W).now = over (List.replicate N .zero) W := rfl
theorem put_read {N : Nat} {W : Waits} {i : Nat} (h : i < N) : (put N W).read (i : Int) = (over (List.replicate N .zero) W).getD i .zero := by
  unfold DS.read
  rw [put_err, put_now]
  have : inside N (i : Int) = true := by simp [inside]; omega
  rw [this]
  simp
theorem put_errI {N : Nat} {W : Waits} {i : Nat} (h : i < N) : (put N W).err (i : Int) = 0 := by
  rw [put_err]
  have : inside N (i : Int) = true := by simp [inside]; omega
  rw [this]; rfl
section
variable {D : World → Addr → DS → Av → Prop}
end
end Go.Proofs.Ytkolpdllogpklaa
namespace Go.Proofs.Ytkolpdllogpklaa
open Go.RowKit

def aw : Waits := [(1, fillB 1), (1, fillB 2), (2, fillB 3)]
def awC : DS := ⟨over (List.replicate 4 .zero) [(1, fillB 1), (2, fillB 3)], [], 3, none⟩
theorem aw_crash : (put 4 aw).crash [true, false, true] = awC := rfl
theorem aw_read1 : (put 4 aw).read 1 = fillB 2 := by
  rw [show (1 : Int) = ((1 : Nat) : Int) from rfl, put_read (by omega)]; rfl
theorem awC_err (b : Int) (h0 : 0 ≤ b) (h1 : b < 4) : awC.err b = 0 := by
  unfold DS.err awC DS.dead
  dsimp only
  rw [if_neg (by simp), if_neg (by rw [over_length, List.length_replicate]; omega)]
theorem awC_read1 : awC.read 1 = fillB 1 := by
  unfold DS.read
  rw [if_pos (awC_err 1 (by omega) (by omega))]; rfl
theorem awC_read2 : awC.read 2 = fillB 3 := by
  unfold DS.read
  rw [if_pos (awC_err 2 (by omega) (by omega))]; rfl
section
variable {D : World → Addr → DS → Av → Prop}
end
end Go.Proofs.Ytkolpdllogpklaa
namespace Go.Proofs.Ytkolpdllogpklaa
open Go.RowKit

/-! What a composite literal's parts make of the zero value's cells. -/
def splice (cells : Array Value) (off : Nat) (vs : Array Value) : Array Value := vs.zipIdx.foldl (fun cs (c, j) => cs.setIfInBounds (off + j) c) cells
theorem foldl_set : ∀ (l : List Value) (k off : Nat) (cells : Array Value) (i : Nat), ((l.zipIdx k).foldl (fun cs (c, j) => cs.setIfInBounds (off + j) c) cells)[i]? = if off + k ≤ i ∧ i < off + k + l.length ∧ i < cells.size then l[i - (off + k)]? else cells[i]?
  | [], k, off, cells, i => by simp; intro h1 h2; omega
  | v :: l, k, off, cells, i => by
    rw [List.zipIdx_cons, List.foldl_cons, foldl_set l (k + 1) off _ i]
    simp only [Array.size_setIfInBounds, List.length_cons]
    by_cases h0 : i < cells.size
    · by_cases h1 : i = off + k
      · subst h1
        rw [if_neg (by omega), if_pos ⟨by omega, by omega, h0⟩, Array.getElem?_setIfInBounds_self_of_lt h0, Nat.sub_self]
        rfl
      · by_cases h2 : off + (k + 1) ≤ i ∧ i < off + (k + 1) + l.length ∧ i < cells.size
        · rw [if_pos h2, if_pos ⟨by omega, by omega, h0⟩, show i - (off + k) = (i - (off + (k + 1))) + 1 by omega]
          rfl
        · rw [if_neg h2, if_neg (by omega), Array.getElem?_setIfInBounds_ne (by omega)]
    · rw [if_neg (by omega), if_neg (by omega), Array.getElem?_eq_none (by simp; omega), Array.getElem?_eq_none (by omega)]
theorem splice_get (cells : Array Value) (off : Nat) (vs : Array Value) (i : Nat) : (splice cells off vs)[i]? = if off ≤ i ∧ i < off + vs.size ∧ i < cells.size then vs[i - off]? else cells[i]? := by
  unfold splice
  rw [← Array.foldl_toList, Array.toList_zipIdx]
  have h := foldl_set vs.toList 0 off cells i
  simpa using h
theorem foldl_set_size : ∀ (l : List (Value × Nat)) (off : Nat) (cells : Array Value), (l.foldl (fun cs (c, j) => cs.setIfInBounds (off + j) c) cells).size = cells.size
  | [], _, _ => rfl
  | p :: l, off, cells => by rw [List.foldl_cons, foldl_set_size l off]; simp
theorem splice_size (cells : Array Value) (off : Nat) (vs : Array Value) : (splice cells off vs).size = cells.size := by
  unfold splice
  rw [← Array.foldl_toList]
  exact foldl_set_size _ _ _
theorem fill_cons {place : Nat → Option (Nat × Nat)} {cells : Array Value} {i off size : Nat} {v : Value} {rest : List (Nat × Value)} (hp : place i = some (off, size)) (hv : v.cells.size = size) (hs : off + size ≤ cells.size) :
    Instr.fill place cells ((i, v) :: rest) = Instr.fill place (splice cells off v.cells) rest := by
  rw [Instr.fill, hp]
  have h2 : ¬ off + v.cells.size > cells.size := by omega
  simp only [hv, ne_eq, not_true_eq_false, decide_false, Bool.false_or]
  rw [if_neg (by simp; omega)]
  rfl
/-- A part that is as great as the whole. -/
theorem splice_whole {cells vs : Array Value} (h : cells.size = vs.size) : splice cells 0 vs = vs := by
  apply Array.ext_getElem?
  intro i
  rw [splice_get]
  by_cases hi : i < vs.size
  · rw [if_pos ⟨by omega, by omega, by omega⟩, Nat.sub_zero]
  · rw [if_neg (by omega), Array.getElem?_eq_none (by omega), Array.getElem?_eq_none (by omega)]

/-! A number, and a block behind it: 257 cells. -/
@[irreducible] def wcell (b : Int) (X : Blk) : Array Value := #[Value.int .i64 b] ++ arr X
theorem wcell_size (b : Int) (X : Blk) : (wcell b X).size = 257 := by unfold wcell; rw [Array.size_append, arr_size]; rfl
theorem wcell_zero (b : Int) (X : Blk) : (wcell b X)[0]? = some (.int .i64 b) := by unfold wcell; rw [Array.getElem?_append, if_pos (by simp)]; rfl
theorem wcell_succ (b : Int) (X : Blk) (i : Nat) : (wcell b X)[i + 1]? = (arr X)[i]? := by
  unfold wcell
  rw [Array.getElem?_append]
  rw [if_neg (by simp)]
  simp
theorem wcell_one (b : Int) (X : Blk) : (wcell b X).all (·.oneCell') = true := by
  unfold wcell
  rw [Array.all_append, arr_one]
  simp [Value.oneCell']
theorem wait_fill {Z : Array Value} (hZ : Z.size = 257) (b : Int) (X : Blk) {place : Nat → Option (Nat × Nat)} (h0 : place 0 = some (0, 1)) (h1 : place 1 = some (1, 256)) :
    Instr.fill place Z [(0, .int .i64 b), (1, .agg (arr X))] = some (wcell b X) := by
  rw [fill_cons h0 rfl (by omega), fill_cons h1 (by show (arr X).size = 256; exact arr_size X) (by rw [splice_size]; omega)]
  rw [Instr.fill]
  congr 1
  apply Array.ext_getElem?
  intro i
  show (splice (splice Z 0 #[.int .i64 b]) 1 (arr X))[i]? = _
  rw [splice_get, splice_size, arr_size]
  match i with
  | 0 =>
    rw [if_neg (by omega), splice_get, if_pos ⟨by omega, by simp, by omega⟩, wcell_zero]
    rfl
  | i + 1 =>
    rw [wcell_succ]
    by_cases hi : i < 256
    · rw [if_pos ⟨by omega, by omega, by omega⟩, Nat.add_sub_cancel]
    · rw [if_neg (by omega), splice_get, if_neg (by simp), Array.getElem?_eq_none (by omega), Array.getElem?_eq_none (by rw [arr_size]; omega)]
/-- The struct type t (a number, a block) as the program has it, in one closed fact. -/
theorem wait_built {t : TypeId} {z : Array Value} {d : Array Field} (hi : (Try.prog.info? t).map (·.zero) = some (some (.agg z))) (hu : Try.prog.underlying t = some (.struct d)) (hz : z.size = 257)
    (hp : d.toList.mapM (fun f => (Try.prog.info? f.type).map fun i => (f.offset, i.size)) = some [(0, 1), (1, 256)]) (b : Int) (X : Blk) :
    Try.prog.built t [(0, .int .i64 b), (1, .agg (arr X))] = some (wcell b X) := by
  obtain ⟨it, h1, h2⟩ := Option.map_eq_some_iff.1 hi
  unfold Program.built
  rw [h1, hu]
  simp only [h2, hp]
  exact wait_fill hz b X rfl rfl

end Go.Proofs.Ytkolpdllogpklaa
namespace Go.Proofs.Ytkolpdllogpklaa
open Go.RowKit

/-! The list of writes that wait, as the statement keeps it. -/
/-! The walk's own way with them: behind names that it does not open. -/
theorem wcell_list_one (b : Int) (X : Blk) : ∀ u ∈ (wcell b X).toList, u.oneCell' = true := by
  have := wcell_one b X
  rw [Array.all_eq_true_iff_forall_mem] at this
  exact fun u hu => this u (by simpa using hu)
theorem wait_zero_cells : (Value.agg ⟨.int .i64 0 :: bytesOf (fun _ => 0) 256⟩).cells.size = 257 := by
  show (Value.int .i64 0 :: bytesOf (fun _ => 0) 256).length = 257
  rw [List.length_cons, bytesOf_length]
theorem wcell_list_len (b : Int) (X : Blk) : (wcell b X).toList.length = 1 * 257 := by rw [Array.length_toList, wcell_size]
def wcells (W : Waits) : List Value := W.flatMap fun p => (wcell p.1 p.2).toList
theorem wcells_snoc (W : Waits) (p : Nat × Blk) : wcells (W ++ [p]) = wcells W ++ (wcell p.1 p.2).toList := by simp [wcells]
/-! The acts of a script. -/
abbrev Acts := List (Nat × Int × Nat)
def ActsAt (w : World) (A : Option Addr) (l : Acts) : Prop := 0 < l.length → ∃ b o, A = some ⟨b, o, none⟩ ∧ b < w.heap.size ∧ ∀ i p, l[i]? = some p → w.cell? ⟨b, o + i * 4, none⟩ = some (.int .u8 (p.1 : Int)) ∧ w.cell? ⟨b, o + i * 4 + 1, none⟩ = some (.int .i64 p.2.1) ∧ w.cell? ⟨b, o + i * 4 + 2, none⟩ = some (.int .u32 (p.2.2 : Int)) ∧ p.1 < 256 ∧ -9223372036854775808 ≤ p.2.1 ∧ p.2.1 ≤ 9223372036854775807 ∧ p.2.2 < 4294967296
def cs (L : List Blk) (W : Waits) (c : Nat) : DS := ⟨L, W, c, none⟩
theorem cs_err {L : List Blk} {W : Waits} {c n : Nat} (hL : L.length = n) (b : Int) : (cs L W c).err b = if inside n b then 0 else 2 := by
  unfold DS.err cs inside DS.dead
  simp [hL]
  by_cases h1 : b < 0 <;> by_cases h2 : (n : Int) ≤ b <;> simp [h1, h2] <;> omega
theorem cs_write {L : List Blk} {W : Waits} {c n : Nat} (hL : L.length = n) (b : Int) (x : Blk) : (cs L W c).write b x = if inside n b then cs L (W ++ [(b.toNat, x)]) (c + 1) else cs L W c := by
  unfold DS.write
  rw [cs_err hL]
  cases h : inside n b <;> simp [cs, DS.act]
theorem cs_flush (L : List Blk) (W : Waits) (c : Nat) : (cs L W c).flush = cs (over L W) [] (c + 1) := rfl
theorem cs_now (L : List Blk) (W : Waits) (c : Nat) : (cs L W c).now = over L W := rfl

theorem flat_get {α β : Type} (f : α → List β) (n : Nat) (hf : ∀ a, (f a).length = n) : ∀ (l : List α) (k j : Nat) (a : α), l[k]? = some a → j < n → (l.flatMap f)[k * n + j]? = (f a)[j]?
  | [], k, j, a, h, _ => by simp at h
  | q :: l, 0, j, a, h, hj => by
    simp at h
    subst h
    rw [List.flatMap_cons, Nat.zero_mul, Nat.zero_add, List.getElem?_append_left (by rw [hf]; exact hj)]
  | q :: l, k + 1, j, a, h, hj => by
    simp at h
    have e : (k + 1) * n + j = n + (k * n + j) := by rw [Nat.succ_mul]; omega
    rw [List.flatMap_cons, e, List.getElem?_append_right (by rw [hf]; omega), hf, Nat.add_sub_cancel_left]
    exact flat_get f n hf l k j a h hj
theorem wcells_get (W : Waits) (k j : Nat) (p : Nat × Blk) (h : W[k]? = some p) (hj : j < 257) : (wcells W)[k * 257 + j]? = (wcell p.1 p.2)[j]? := by
  unfold wcells
  rw [flat_get (fun p : Nat × Blk => (wcell p.1 p.2).toList) 257 (fun p => by rw [Array.length_toList, wcell_size]) W k j p h hj, Array.getElem?_toList]
theorem kept_take : ∀ (W : Waits) (kl : List Bool) (k : Nat) (h : k < W.length), kept (W.take (k + 1)) kl = kept (W.take k) kl ++ if kl[k]? = some true then [W[k]] else []
  | [], _, _, h => absurd h (by simp)
  | p :: W, [], k, h => by cases k <;> simp [kept]
  | p :: W, b :: kl, 0, h => by cases b <;> simp [kept]
  | p :: W, b :: kl, k + 1, h => by
    have ih := kept_take W kl k (by simpa using h)
    simp only [List.take_succ_cons, kept, List.getElem?_cons_succ, List.getElem_cons_succ]
    rw [ih]
    cases b <;> simp
noncomputable def allK (W : Waits) (kl : List Bool) (k : Nat) : Bool := decide (W.length ≤ kl.length ∧ ∀ i, i < k → kl[i]? = some true)
theorem allK_zero (W : Waits) (kl : List Bool) : allK W kl 0 = decide (W.length ≤ kl.length) := by
  unfold allK
  rw [Bool.eq_iff_iff, decide_eq_true_iff, decide_eq_true_iff]
  exact ⟨fun h => h.1, fun h => ⟨h, fun i hi => by omega⟩⟩
theorem allK_yes {W : Waits} {kl : List Bool} {k : Nat} (h : kl[k]? = some true) : allK W kl (k + 1) = allK W kl k := by
  unfold allK
  rw [Bool.eq_iff_iff, decide_eq_true_iff, decide_eq_true_iff]
  refine ⟨fun hh => ⟨hh.1, fun i hi => hh.2 i (by omega)⟩, fun hh => ⟨hh.1, fun i hi => ?_⟩⟩
  by_cases e : i = k
  · rw [e]; exact h
  · exact hh.2 i (by omega)
theorem allK_no {W : Waits} {kl : List Bool} {k : Nat} (h : ¬ kl[k]? = some true) : allK W kl (k + 1) = false := by
  unfold allK
  rw [decide_eq_false_iff_not]
  exact fun hh => h (hh.2 k (by omega))
theorem allK_end {W : Waits} {kl : List Bool} (h : allK W kl W.length = true) : kept W kl = W := by
  unfold allK at h
  rw [decide_eq_true_iff] at h
  exact kept_all W kl h.1 h.2
theorem cs_crash (L : List Blk) (W : Waits) (c : Nat) (l : List Bool) : (cs L W c).crash l = cs (over L (kept W l)) [] c := rfl
theorem kept_lt : ∀ (W : Waits) (kl : List Bool) (p : Nat × Blk), p ∈ kept W kl → p ∈ W
  | [], _, p, h => by simp [kept] at h
  | q :: W, [], p, h => by simp [kept] at h
  | q :: W, b :: kl, p, h => by
    cases b
    · simp only [kept, Bool.false_eq_true, if_false] at h
      exact List.mem_cons_of_mem _ (kept_lt W kl p h)
    · simp only [kept, if_true] at h
      rcases List.mem_cons.1 h with rfl | h
      · exact List.mem_cons_self
      · exact List.mem_cons_of_mem _ (kept_lt W kl p h)

theorem cs_read0 {L : List Blk} {c n : Nat} (hL : L.length = n) (h : 1 ≤ n) (x : Blk) : (cs (over L [(0, x)]) [] c).read 0 = x ∧ (cs (over L [(0, x)]) [] c).err 0 = 0 := by
  have he : (cs (over L [(0, x)]) [] c).err 0 = 0 := by
    rw [cs_err (n := n) (by rw [over_length]; exact hL), if_pos (by simp [inside]; omega)]
  refine ⟨?_, he⟩
  unfold DS.read
  rw [if_pos he]
  show (L.set 0 x).getD 0 .zero = x
  rw [List.getD_eq_getElem?_getD, List.getElem?_set, if_pos rfl, if_pos (by omega)]
  rfl
section
variable {D : World → Addr → DS → Av → Prop}
end
end Go.Proofs.Ytkolpdllogpklaa
namespace Go.Proofs.Ytkolpdllogpklaa
open Go.RowKit

/-! The document's own disk: a struct of four cells: what is safe, what waits, what was done, what is left. -/
def leftOf : Option Nat → Int
  | none => -1
  | some k => (k : Nat)
theorem left_dead (s : DS) : (leftOf s.left == 0) = s.dead := by
  unfold leftOf DS.dead
  cases s.left with
  | none => rfl
  | some k => cases k <;> simp <;> omega
theorem rKeep {w : World} {b : Nat} {av : Av} (hv : ¬ av b) (k : Nat) (x : Value) : Keep av w (w.setCell ⟨b, k, none⟩ x) := by
  have h := (Keep.refl av w).cells hv k [x]
  exact h
theorem setCell_other (w : World) (b k i : Nat) (x : Value) (h : i ≠ b) : (w.setCell ⟨b, k, none⟩ x).heap[i]? = w.heap[i]? := setCells_heap_ne b [x] k w i h
theorem setCell_size (w : World) (b k : Nat) (x : Value) : (w.setCell ⟨b, k, none⟩ x).heap.size = w.heap.size := setCells_size b [x] k w
theorem row_frozen {w : World} {b k : Nat} {cs : Array Value} {t : TypeId} (h : w.heap[b]? = some (.cells cs t (0, 0))) : w.frozen? ⟨b, k, none⟩ = false := by simp [World.frozen?, h]
end Go.Proofs.Ytkolpdllogpklaa
namespace Go.Proofs.Ytkolpdllogpklaa
open Go.RowKit

noncomputable def lastB (s : DS) (b k : Nat) : Blk := (over s.safe (s.wait.take k)).getD b .zero
theorem lastB_zero (s : DS) (b : Nat) : lastB s b 0 = s.safe.getD b .zero := rfl
theorem lastB_succ {s : DS} {b k : Nat} {p : Nat × Blk} (hp : s.wait[k]? = some p) (hb : b < s.safe.length) : lastB s b (k + 1) = if p.1 = b then p.2 else lastB s b k := by
  obtain ⟨hk, rfl⟩ := List.getElem?_eq_some_iff.1 hp
  unfold lastB
  rw [List.take_succ_eq_append_getElem hk, over_append]
  show ((over s.safe (s.wait.take k)).set _ _).getD b .zero = _
  rw [List.getD_eq_getElem?_getD, List.getElem?_set]
  by_cases e : s.wait[k].1 = b
  · rw [if_pos e, if_pos e, if_pos (by rw [over_length, e]; exact hb)]; rfl
  · rw [if_neg e, if_neg e, List.getD_eq_getElem?_getD]
theorem lastB_end (s : DS) (b : Nat) : lastB s b s.wait.length = s.now.getD b .zero := by unfold lastB DS.now; rw [List.take_length]
theorem alloc2_cell {w : World} {a : Addr} {v : Value} (h : w.cell? a = some v) (x y : Obj) : ((w.alloc x).alloc y).cell? a = some v := by
  have hlt := World.block_lt_of_cell? w _ h
  rw [World.cell?_alloc_old _ _ _ (by simp; omega), World.cell?_alloc_old _ _ _ (by omega), h]
theorem alloc1_cell {w : World} {a : Addr} {v : Value} (h : w.cell? a = some v) (x : Obj) : (w.alloc x).cell? a = some v := by
  have hlt := World.block_lt_of_cell? w _ h
  rw [World.cell?_alloc_old _ _ _ (by omega), h]
theorem At.alloc {w : World} {b o : Nat} {x : Blk} (h : At w b o x) (y : Obj) : At (w.alloc y) b o x := .of fun _ hi => alloc1_cell (h.cell hi) y
end Go.Proofs.Ytkolpdllogpklaa
namespace Go.Proofs.Ytkolpdllogpklaa
open Go.RowKit

theorem results_blk_tmp {fn : Func} {p u : Tmp} (h : fn.results = #[.cell p 41, .tmp u]) (tmps : Array Value) (w : World) (g : Nat) (X : Blk) (t : TypeId) (hp : tmps.getD p undef = .pointer (some ⟨g, 0, none⟩)) (hg : w.heap[g]? = some (.cells (arr X) t (0, 0))) :
    (results fn tmps).run Try.prog w = .ok (.tuple #[.agg (arr X), tmps.getD u undef]) w := by
  have hp' : tmps[p]?.getD undef = .pointer (some ⟨g, 0, none⟩) := by simpa using hp
  simp [results, h, hp', asAddr, run_loadVar_row w g t 41 (arr X) (0, 0) _ hg Try.underlying41 rfl (by rw [arr_size]; exact blk_size)]
theorem DS.err_dead {s : DS} {p : Int} (h : s.dead = true) : s.err p = 30 := by unfold DS.err; rw [if_pos h]
theorem DS.err_out {s : DS} {p : Int} (h : s.dead = false) (hp : p < 0 ∨ (s.safe.length : Int) ≤ p) : s.err p = 2 := by unfold DS.err; rw [if_neg (by simp [h]), if_pos hp]
theorem DS.err_in {s : DS} {p : Int} (h : s.dead = false) (hp : ¬ (p < 0 ∨ (s.safe.length : Int) ≤ p)) : s.err p = 0 := by unfold DS.err; rw [if_neg (by simp [h]), if_neg hp]
theorem DS.read_bad {s : DS} {p : Int} (h : s.err p ≠ 0) : s.read p = .zero := by unfold DS.read; rw [if_neg h]
theorem DS.read_ok {s : DS} {p : Int} (h : s.err p = 0) : s.read p = s.now.getD p.toNat .zero := by unfold DS.read; rw [if_pos h]
end Go.Proofs.Ytkolpdllogpklaa
namespace Go.Proofs.Ytkolpdllogpklaa
open Go.RowKit

/-! A block's load, behind a name that the walk does not open. -/
def doLoad (u : Value) : Sem Value := Instr.loadAt 41 u
theorem exec_load (ρ : Operand → Value) (dst : Option Tmp) (x : Operand) (ty : TypeId) (pos : String) (after : Array Edge) (guard : Option (Nat × Bool)) :
    execOp ρ { dst, op := .load 41 x, type := ty, pos, after, guard } = (do pure (.value (← doLoad (ρ x)))) := by unfold execOp doLoad; simp
attribute [local go_sem ↓] exec_load
theorem doLoad_run {w : World} {b off : Nat} {X : Blk} (hc : At w b off X) : (doLoad (.pointer (some ⟨b, off, none⟩))).run Try.prog w = .ok (.agg (arr X)) w := by
  have hl := run_loadAt_mid (P := Try.prog) w b off 41 (arr X).toList _ hc Try.underlying41 rfl (by rw [arr_length]; exact blk_size)
  simpa [doLoad] using hl
end Go.Proofs.Ytkolpdllogpklaa
namespace Go.Proofs.Ytkolpdllogpklaa
open Go.RowKit

/-! Lists of blocks as rows of their cells. -/
def bcells (l : List Blk) : List Value := l.flatMap fun x => (arr x).toList
theorem bcells_length (l : List Blk) : (bcells l).length = l.length * 256 := by
  induction l with
  | nil => rfl
  | cons x l ih => unfold bcells at *; rw [List.flatMap_cons, List.length_append, ih, arr_length, List.length_cons]; omega
theorem bcells_get {l : List Blk} {i j : Nat} {x : Blk} (h : l[i]? = some x) (hj : j < 256) : (bcells l)[i * 256 + j]? = some (.int .u8 ((x.f j : Nat) : Int)) := by
  unfold bcells
  rw [flat_get (fun x : Blk => (arr x).toList) 256 (fun x => arr_length x) l i j x h hj, arr_list]
  exact bytesOf_get hj
theorem bcells_one (l : List Blk) : ∀ u ∈ bcells l, u.oneCell' = true := by
  intro u hu
  unfold bcells at hu
  obtain ⟨x, _, hx⟩ := List.mem_flatMap.1 hu
  have := arr_one x
  rw [Array.all_eq_true_iff_forall_mem] at this
  exact this u (by simpa using hx)
/-- The news of an append: what an image's blocks are. -/
theorem bcells_news {w : World} {g o : Nat} {l : List Blk} (h : ∀ i x, l[i]? = some x → At w g (o + i * 256) x) : ∀ j u, (bcells l)[j]? = some u → w.cell? ((⟨g, o, none⟩ : Addr).add j) = some u := by
  intro j u hu
  have hadd : (⟨g, o, none⟩ : Addr).add j = ⟨g, o + j, none⟩ := by unfold Addr.add; split <;> simp_all
  have hj : j < l.length * 256 := by
    rcases Nat.lt_or_ge j (l.length * 256) with q | q
    · exact q
    · rw [List.getElem?_eq_none (by rw [bcells_length]; exact q)] at hu; cases hu
  have e1 : j = j / 256 * 256 + j % 256 := by omega
  have hx := List.getElem?_eq_getElem (l := l) (i := j / 256) (by omega)
  have h2 := bcells_get hx (show j % 256 < 256 by omega)
  rw [← e1, hu] at h2
  have h3 := (h _ _ hx).cell (show j % 256 < 256 by omega)
  rw [hadd, h2, ← h3]
  congr 2
  omega
/-- A row of the call's own is an image that may be written. -/
theorem oimg_of_row {w : World} {base gg n cap : Nat} {l : List Blk} (h : w.ownsRow base 41 256 (.slice (some ⟨gg, 0, none⟩) n cap) n (bcells l)) : OImg w gg 0 l ∧ base ≤ gg ∧ gg < w.heap.size := by
  obtain ⟨h1, h2 | ⟨g, c, cur, e, hb, hg, _, _, hc, ht⟩⟩ := h
  · cases h2.1
  · injection e with e e2 e3
    injection e with e
    injection e with e
    subst e
    refine ⟨⟨_, cur, hg, fun i x hx j hj => ?_⟩, hb, ?_⟩
    · have := bcells_get hx hj
      rw [← ht] at this
      rw [Nat.zero_add, ← Array.getElem?_toList]
      have hlt : i * 256 + j < n * 256 := by
        rcases Nat.lt_or_ge (i * 256 + j) (n * 256) with q | q
        · exact q
        · rw [List.getElem?_eq_none (by rw [List.length_take]; omega)] at this; cases this
      rw [List.getElem?_take_of_lt hlt] at this
      exact this
    · rcases Nat.lt_or_ge gg w.heap.size with q | q
      · exact q
      · rw [Array.getElem?_eq_none q] at hg; cases hg
end Go.Proofs.Ytkolpdllogpklaa
namespace Go.Proofs.Ytkolpdllogpklaa
open Go.RowKit

theorem DS.flush_live {s : DS} (h : s.dead = false) : s.flush = { s.act with safe := s.now, wait := [] } := by unfold DS.flush; rw [if_neg (by simp [h])]
theorem DS.now_length (s : DS) : s.now.length = s.safe.length := by unfold DS.now; exact over_length _ _
end Go.Proofs.Ytkolpdllogpklaa
namespace Go.Proofs.Ytkolpdllogpklaa
open Go.RowKit

def crashTo (s : DS) (kl : List Bool) (k : Nat) : DS := { s with safe := over s.safe (kept (s.wait.take k) kl) }
theorem crashTo_length (s : DS) (kl : List Bool) (k : Nat) : (crashTo s kl k).safe.length = s.safe.length := by unfold crashTo; exact over_length _ _
theorem crashTo_no {s : DS} {kl : List Bool} {k : Nat} (h : k < s.wait.length) (hk : ¬ kl[k]? = some true) : crashTo s kl (k + 1) = crashTo s kl k := by
  unfold crashTo
  rw [kept_take s.wait kl k h, if_neg hk, List.append_nil]
theorem crashTo_yes {s : DS} {kl : List Bool} {k : Nat} {p : Nat × Blk} (h : s.wait[k]? = some p) (hk : kl[k]? = some true) : crashTo s kl (k + 1) = { crashTo s kl k with safe := (crashTo s kl k).safe.set p.1 p.2 } := by
  obtain ⟨hlt, rfl⟩ := List.getElem?_eq_some_iff.1 h
  unfold crashTo
  rw [kept_take s.wait kl k hlt, if_pos hk, over_append]
  rfl
end Go.Proofs.Ytkolpdllogpklaa
namespace Go.Proofs.Ytkolpdllogpklaa
open Go.RowKit

end Go.Proofs.Ytkolpdllogpklaa
namespace Go.Proofs.Ytkolpdllogpklaa
open Go.RowKit

/-! copy of blocks into a row of the call's own. -/
theorem run_copy_wide {P : Program} (w : World) (dT sT ty elem : TypeId) (S : Nat) (g o dLen dCap : Nat) (a : Addr) (sLen sCap : Nat) (cur : Array Value) (t : TypeId) (cs : List Value)
    (hu : P.underlying dT = some (.slice elem)) (hs : (P.info? elem).map (·.size) = some S)
    (hg : w.heap[g]? = some (.cells cur t (0, 0))) (hn : cs.length = Nat.min sLen dLen * S)
    (hsrc : ∀ j v, cs[j]? = some v → w.cell? (a.add j) = some v) (hfit : o + cs.length ≤ cur.size) (h1 : ∀ v ∈ cs, v.oneCell' = true) :
    (Builtin.copy_ #[dT, sT] ty #[.slice (some ⟨g, o, none⟩) dLen dCap, .slice (some a) sLen sCap]).run P w =
      .ok (goInt (Nat.min sLen dLen)) (w.setRow g (cur.toList.take o ++ cs ++ cur.toList.drop (o + cs.length)).toArray) := by
  have hl := run_loadCells_list (P := P) w a cs hsrc
  have hst := run_storeCells_at P g o t cs 0 cur w hg (by simpa using hfit) h1
  cases hq : P.info? elem with
  | none => simp [hq] at hs
  | some i =>
    have hi : i.size = S := by simpa [hq] using hs
    have hn' : min sLen dLen * S = cs.length := hn.symm
    simp [Builtin.copy_, run_underlying hu, Builtin.lenOf, Builtin.firstCells, sizeOf, typeInfo, hq, hi, hn', hl, hst]
/-- The copy of a whole image into new memory of the same length. -/
theorem run_copy_blks (w : World) (dT sT ty elem : TypeId) (g : Nat) (n dCap : Nat) (sg so sCap : Nat) (cur : Array Value) (t : TypeId) (l : List Blk)
    (hu : Try.prog.underlying dT = some (.slice elem)) (hs : (Try.prog.info? elem).map (·.size) = some 256)
    (hg : w.heap[g]? = some (.cells cur t (0, 0))) (hc : cur.size = n * 256) (hn : l.length = n) (hsrc : ∀ i x, l[i]? = some x → At w sg (so + i * 256) x) :
    ∃ cur', (Builtin.copy_ #[dT, sT] ty #[.slice (some ⟨g, 0, none⟩) n dCap, .slice (some ⟨sg, so, none⟩) n sCap]).run Try.prog w = .ok (goInt n) (w.setRow g cur') ∧ OImg (w.setRow g cur') g 0 l := by
  have h := run_copy_wide (P := Try.prog) w dT sT ty elem 256 g 0 n dCap ⟨sg, so, none⟩ n sCap cur t (bcells l) hu hs hg (by rw [bcells_length, hn]; simp) (bcells_news hsrc) (by rw [bcells_length, hn, hc]; omega) (bcells_one l)
  rw [show Nat.min n n = n from Nat.min_self n] at h
  refine ⟨_, h, ?_⟩
  have e : (List.take 0 cur.toList ++ bcells l ++ List.drop (0 + (bcells l).length) cur.toList).toArray = (bcells l).toArray := by
    have : List.drop (0 + (bcells l).length) cur.toList = [] := List.drop_eq_nil_of_le (by rw [bcells_length, hn, Array.length_toList, hc]; omega)
    rw [this]; simp
  rw [e]
  refine ⟨t, _, setRow_heap w g cur (bcells l).toArray t _ hg, fun i x hx j hj => ?_⟩
  have := bcells_get hx hj
  simpa using this
end Go.Proofs.Ytkolpdllogpklaa
