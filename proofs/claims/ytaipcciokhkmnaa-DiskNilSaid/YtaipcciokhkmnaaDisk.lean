import Derived.Test.YtaipcciokhkmnaaSame
namespace Go.Proofs.Ytaipcciokhkmnaa
open Go.RowKit

/-! What a disk is, as the chapter tells it: what is safe, what waits, how many acts were done, how many more may be done. -/
abbrev Waits := List (Nat × Blk)
structure DS where
  safe : List Blk
  wait : Waits
  acts : Nat
  left : Option Nat
def over (l : List Blk) : Waits → List Blk
  | [] => l
  | p :: ps => over (l.set p.1 p.2) ps
def kept : Waits → List Bool → Waits
  | [], _ => []
  | _ :: _, [] => []
  | p :: ps, k :: ks => if k then p :: kept ps ks else kept ps ks
theorem over_length : ∀ (ps : Waits) (l : List Blk), (over l ps).length = l.length
  | [], _ => rfl
  | p :: ps, l => by rw [over, over_length ps]; simp
theorem over_append : ∀ (ps qs : Waits) (l : List Blk), over l (ps ++ qs) = over (over l ps) qs
  | [], _, _ => rfl
  | p :: ps, qs, l => by rw [List.cons_append, over, over, over_append ps]
theorem kept_all : ∀ (ps : Waits) (ks : List Bool), ps.length ≤ ks.length → (∀ i, i < ps.length → ks[i]? = some true) → kept ps ks = ps
  | [], _, _, _ => rfl
  | p :: ps, [], h, _ => absurd h (by simp)
  | p :: ps, k :: ks, h, ht => by
    have h0 := ht 0 (by simp)
    simp at h0
    subst h0
    rw [kept, if_pos rfl, kept_all ps ks (by simpa using h) (fun i hi => by have := ht (i + 1) (by simp; omega); simpa using this)]
def DS.now (s : DS) : List Blk := over s.safe s.wait
def DS.dead (s : DS) : Bool := s.left == some 0
def DS.act (s : DS) : DS := { s with acts := s.acts + 1, left := s.left.map (· - 1) }
def DS.new (n : Nat) : DS := ⟨List.replicate n .zero, [], 0, none⟩
def DS.err (s : DS) (b : Int) : Int := if s.dead then 30 else if b < 0 ∨ (s.safe.length : Int) ≤ b then 2 else 0
noncomputable def DS.read (s : DS) (b : Int) : Blk := if s.err b = 0 then s.now.getD b.toNat .zero else .zero
def DS.write (s : DS) (b : Int) (x : Blk) : DS := if s.err b = 0 then { s.act with wait := s.wait ++ [(b.toNat, x)] } else s
def DS.flush (s : DS) : DS := if s.dead then s else { s.act with safe := s.now, wait := [] }
def DS.power (s : DS) (after : Int) : DS := { s with left := if after < 0 then none else some after.toNat }
def DS.crash (s : DS) (keep : List Bool) : DS := { s with safe := over s.safe (kept s.wait keep), wait := [], left := none }
def DS.ok (s : DS) : Prop := 1 ≤ s.safe.length ∧ s.safe.length ≤ 2048 ∧ (∀ p ∈ s.wait, p.1 < s.safe.length) ∧ s.wait.length ≤ s.acts ∧ s.acts ≤ 1000000

/-- The blocks of memory in av are as they were; nothing is lost. -/
structure Keep (av : Nat → Prop) (w w' : World) : Prop where
  os : w'.os = w.os
  tape : w'.tape = w.tape
  output : w'.output = w.output
  size : w.heap.size ≤ w'.heap.size
  block : ∀ i, av i → w'.heap[i]? = w.heap[i]?
theorem Keep.refl (av : Nat → Prop) (w : World) : Keep av w w := ⟨rfl, rfl, rfl, Nat.le_refl _, fun _ _ => rfl⟩
theorem Keep.trans {av : Nat → Prop} {a b c : World} (h : Keep av a b) (k : Keep av b c) : Keep av a c :=
  ⟨k.os.trans h.os, k.tape.trans h.tape, k.output.trans h.output, Nat.le_trans h.size k.size, fun i hi => (k.block i hi).trans (h.block i hi)⟩
theorem Keep.mono {av av' : Nat → Prop} {a b : World} (h : Keep av a b) (hv : ∀ i, av' i → av i) : Keep av' a b := ⟨h.os, h.tape, h.output, h.size, fun i hi => h.block i (hv i hi)⟩
theorem Keep.below {av : Nat → Prop} {a b : World} {B : Nat} (h : Keep av a b) (hv : ∀ i, i < B → av i) : Below B a b := ⟨h.os, h.tape, h.output, h.size, fun i hi => h.block i (hv i hi)⟩
theorem Keep.of_below {B : Nat} {a b : World} (h : Below B a b) : Keep (· < B) a b := ⟨h.os, h.tape, h.output, h.size, h.block⟩
theorem Keep.cell {av : Nat → Prop} {a b : World} (h : Keep av a b) {p : Addr} (hp : av p.block) : b.cell? p = a.cell? p := by simp [World.cell?, h.block _ hp]
theorem Keep.img {av : Nat → Prop} {a b : World} (h : Keep av a b) {A : Option Addr} {l : List Blk} (hA : ∀ g o, A = some ⟨g, o, none⟩ → av g) (hi : Img a A l) : Img b A l := hi.keep h.size fun g o e => h.block g (hA g o e)
theorem Keep.oimg {av : Nat → Prop} {a b : World} (h : Keep av a b) {g o : Nat} {l : List Blk} (hA : av g) (hi : OImg a g o l) : OImg b g o l := hi.keep (h.block g hA)

/-- A list of bools. -/
def Bools (w : World) (A : Option Addr) (l : List Bool) : Prop := 0 < l.length → ∃ b o, A = some ⟨b, o, none⟩ ∧ b < w.heap.size ∧ ∀ i x, l[i]? = some x → w.cell? ⟨b, o + i, none⟩ = some (.bool x)

abbrev Av := Nat → Prop
/-- What the program's calls say of a disk. D: what stands in memory at the address a, when it is a disk of the state s whose memory shares nothing with the blocks av, all of which are there already. -/
structure DiskSays (D : World → Addr → DS → Av → Prop) : Prop where
  frame : ∀ {w w' : World} {a : Addr} {s : DS} {av av' : Av}, D w a s av → w.heap.size ≤ w'.heap.size → (∀ i, i < w.heap.size → ¬ av i → w'.heap[i]? = w.heap[i]?) → (∀ i, av' i → av i ∨ (w.heap.size ≤ i ∧ i < w'.heap.size)) → D w' a s av'
  bound : ∀ {w : World} {a : Addr} {s : DS} {av : Av}, D w a s av → ∀ i, av i → i < w.heap.size
  ok : ∀ {w : World} {a : Addr} {s : DS} {av : Av}, D w a s av → s.ok
  new_no : ∀ (n : Int) (w : World), n < 1 ∨ 2048 < n → Calls Try.prog 27 #[.int .i64 n] w fun e w' => e = .returned (.tuple #[.pointer none, .int .i64 2]) ∧ Below w.heap.size w w'
  new_yes : ∀ (n : Int) (w : World), 1 ≤ n → n ≤ 2048 → Calls Try.prog 27 #[.int .i64 n] w fun e w' => (∃ a, e = .returned (.tuple #[.pointer (some a), .int .i64 0]) ∧ D w' a (.new n.toNat) (· < w.heap.size)) ∧ Below w.heap.size w w'
  load_no : ∀ (A : Option Addr) (n c : Nat) (l : List Blk) (w : World), n = l.length → Img w A l → n < 1 ∨ 2048 < n → n ≤ 140737488355328 → Calls Try.prog 11 #[.slice A n c] w fun e w' => e = .returned (.tuple #[.pointer none, .int .i64 2]) ∧ Below w.heap.size w w'
  load_yes : ∀ (A : Option Addr) (n c : Nat) (l : List Blk) (w : World), n = l.length → Img w A l → 1 ≤ n → n ≤ 2048 → Calls Try.prog 11 #[.slice A n c] w fun e w' => (∃ a, e = .returned (.tuple #[.pointer (some a), .int .i64 0]) ∧ D w' a ⟨l, [], 0, none⟩ (· < w.heap.size)) ∧ Below w.heap.size w w'
  blocks : ∀ (a : Addr) (s : DS) (av : Av) (w : World), D w a s av → Calls Try.prog 23 #[.pointer (some a)] w fun e w' => e = .returned (.int .i64 (s.safe.length : Nat)) ∧ D w' a s av ∧ Keep av w w'
  waiting : ∀ (a : Addr) (s : DS) (av : Av) (w : World), D w a s av → Calls Try.prog 24 #[.pointer (some a)] w fun e w' => e = .returned (.int .i64 (s.wait.length : Nat)) ∧ D w' a s av ∧ Keep av w w'
  acts : ∀ (a : Addr) (s : DS) (av : Av) (w : World), D w a s av → Calls Try.prog 25 #[.pointer (some a)] w fun e w' => e = .returned (.int .i64 (s.acts : Nat)) ∧ D w' a s av ∧ Keep av w w'
  dead : ∀ (a : Addr) (s : DS) (av : Av) (w : World), D w a s av → Calls Try.prog 22 #[.pointer (some a)] w fun e w' => e = .returned (.bool s.dead) ∧ D w' a s av ∧ Keep av w w'
  read : ∀ (a : Addr) (s : DS) (av : Av) (b : Int) (w : World), D w a s av → Calls Try.prog 17 #[.pointer (some a), .int .i64 b] w fun e w' => e = .returned (.tuple #[.agg (arr (s.read b)), .int .i64 (s.err b)]) ∧ D w' a s av ∧ Keep av w w'
  write : ∀ (a : Addr) (s : DS) (av : Av) (b : Int) (x : Blk) (w : World), D w a s av → s.acts < 1000000 → Calls Try.prog 18 #[.pointer (some a), .int .i64 b, .agg (arr x)] w fun e w' => e = .returned (.int .i64 (s.err b)) ∧ D w' a (s.write b x) av ∧ Keep av w w'
  flush : ∀ (a : Addr) (s : DS) (av : Av) (w : World), D w a s av → s.acts < 1000000 → Calls Try.prog 19 #[.pointer (some a)] w fun e w' => e = .returned (.int .i64 (s.err 0)) ∧ D w' a s.flush av ∧ Keep av w w'
  power : ∀ (a : Addr) (s : DS) (av : Av) (n : Int) (w : World), D w a s av → n ≤ 9223372036854775807 → Calls Try.prog 20 #[.pointer (some a), .int .i64 n] w fun e w' => e = .returned noResult ∧ D w' a (s.power n) av ∧ Keep av w w'
  crash : ∀ (a : Addr) (s : DS) (av : Av) (K : Option Addr) (m c : Nat) (l : List Bool) (w : World), D w a s av → m = l.length → Bools w K l → (0 < l.length → ∀ g o, K = some ⟨g, o, none⟩ → av g) → m ≤ 140737488355328 → Calls Try.prog 21 #[.pointer (some a), .slice K m c] w fun e w' => e = .returned noResult ∧ D w' a (s.crash l) av ∧ Keep av w w'
  image : ∀ (a : Addr) (s : DS) (av : Av) (w : World), D w a s av → Calls Try.prog 13 #[.pointer (some a)] w fun e w' => (∃ g o c, e = .returned (.slice (some ⟨g, o, none⟩) s.safe.length c) ∧ OImg w' g o s.now ∧ w.heap.size ≤ g ∧ D w' a s (fun i => av i ∨ i = g)) ∧ Keep av w w'
  safe : ∀ (a : Addr) (s : DS) (av : Av) (w : World), D w a s av → Calls Try.prog 14 #[.pointer (some a)] w fun e w' => (∃ g o c, e = .returned (.slice (some ⟨g, o, none⟩) s.safe.length c) ∧ OImg w' g o s.safe ∧ w.heap.size ≤ g ∧ D w' a s (fun i => av i ∨ i = g)) ∧ Keep av w w'

section
variable {D : World → Addr → DS → Av → Prop}
theorem DiskSays.drew (hD : DiskSays D) {w : World} {a : Addr} {s : DS} {av : Av} (h : D w a s av) : D w.drew a s av := hD.frame h (Nat.le_refl _) (fun _ _ _ => rfl) fun _ h => .inl h
/-- Whoever only makes memory leaves the disk. -/
theorem DiskSays.below (hD : DiskSays D) {w w' : World} {a : Addr} {s : DS} {av : Av} (h : D w a s av) (hb : Below w.heap.size w w') : D w' a s av := hD.frame h hb.size (fun i hi _ => hb.block i hi) fun _ h => .inl h
/-- .. and the new memory is not the disk's. -/
theorem DiskSays.new' (hD : DiskSays D) {w w' : World} {a : Addr} {s : DS} {av : Av} (h : D w a s av) (hb : Below w.heap.size w w') : D w' a s (fun i => av i ∨ (w.heap.size ≤ i ∧ i < w'.heap.size)) := hD.frame h hb.size (fun i hi _ => hb.block i hi) fun _ h => h
theorem DiskSays.mono (hD : DiskSays D) {w : World} {a : Addr} {s : DS} {av av' : Av} (h : D w a s av) (hv : ∀ i, av' i → av i) : D w a s av' := hD.frame h (Nat.le_refl _) (fun _ _ _ => rfl) fun i hi => .inl (hv i hi)
/-- A write into memory that is not the disk's. -/
theorem DiskSays.cells (hD : DiskSays D) {w : World} {a : Addr} {s : DS} {av : Av} (h : D w a s av) {g : Nat} (hg : av g) (o : Nat) (vs : List Value) : D (w.setCells g o vs) a s av :=
  hD.frame h (by rw [setCells_size]; exact Nat.le_refl _) (fun i _ hi => setCells_heap_ne g vs o w i (fun e => hi (e ▸ hg))) fun _ h => .inl h
end
theorem Keep.cells {av : Av} {a w : World} (h : Keep av a w) {g : Nat} (hg : ¬ av g) (o : Nat) (vs : List Value) : Keep av a (w.setCells g o vs) :=
  h.trans ⟨(setCells_only g vs o w).1, (setCells_only g vs o w).2.1, (setCells_only g vs o w).2.2, by rw [setCells_size]; exact Nat.le_refl _, fun i hi => setCells_heap_ne g vs o w i (fun e => hg (e ▸ hi))⟩
theorem below_cells {B : Nat} {a w : World} (h : Below B a w) {g : Nat} (hg : B ≤ g) (o : Nat) (vs : List Value) : Below B a (w.setCells g o vs) :=
  h.trans ⟨(setCells_only g vs o w).1, (setCells_only g vs o w).2.1, (setCells_only g vs o w).2.2, by rw [setCells_size]; exact Nat.le_refl _, fun i hi => setCells_heap_ne g vs o w i (by omega)⟩

end Go.Proofs.Ytaipcciokhkmnaa
