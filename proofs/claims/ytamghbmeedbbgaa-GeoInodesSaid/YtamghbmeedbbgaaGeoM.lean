import Derived.Test.YtamghbmeedbbgaaGeoB
namespace Go.Proofs.Ytamghbmeedbbgaa
open Go.RowKit

/-! Geometries, and what the document says of them. -/
structure GeoV where
  gr : Int
  sz : Int
  ino : Int
  jr : Int
structure GeoV.Fits (g : GeoV) : Prop where
  gr : I64 g.gr
  sz : I64 g.sz
  ino : I64 g.ino
  jr : I64 g.jr
@[irreducible] def gcs (g : GeoV) : Array Value := #[.int .i64 g.gr, .int .i64 g.sz, .int .i64 g.ino, .int .i64 g.jr]
def May (g : GeoV) : Prop := 1 ≤ g.gr ∧ g.gr ≤ 4 ∧ 16 ≤ g.sz ∧ g.sz ≤ 512 ∧ 4 ≤ g.ino ∧ g.ino ≤ 64 ∧ g.ino % 4 = 0 ∧ 40 ≤ g.jr ∧ g.jr ≤ 256 ∧ 3 + g.ino / 4 ≤ g.sz ∧ 2 + g.jr + g.gr * g.sz ≤ 2048
instance (g : GeoV) : Decidable (May g) := by unfold May; infer_instance
def mayB (g : GeoV) : Bool := decide (May g)
def blocksG (g : GeoV) : Int := if May g then 2 + g.jr + g.gr * g.sz else 0
def inodesG (g : GeoV) : Int := if May g then g.gr * g.ino else 0
def dataG (g : GeoV) : Int := if May g then g.sz - 2 - g.ino / 4 else 0
def inGroup (g : GeoV) (k : Int) : Bool := decide (May g ∧ 0 ≤ k ∧ k < g.gr)
def startG (g : GeoV) (k : Int) : Int := if inGroup g k then 2 + g.jr + k * g.sz else 0
/-- What a block is: kind, group, place. -/
def whatG (g : GeoV) (b : Int) : Int × Int × Int :=
  if ¬ May g ∨ b < 0 ∨ blocksG g ≤ b then (0, 0, 0)
  else if b = 0 then (1, 0, 0)
  else if b = 1 then (2, 0, 0)
  else if b < 2 + g.jr then (3, 0, b - 2)
  else
    let k := (b - 2 - g.jr) / g.sz
    let at' := (b - 2 - g.jr) % g.sz
    (if at' = 0 then 4 else if at' = 1 then 5 else if at' < 2 + g.ino / 4 then 6 else 7, k, at')
def inInode (g : GeoV) (n : Int) : Bool := decide (1 ≤ n ∧ n ≤ inodesG g)
def homeG (g : GeoV) (n : Int) : Int × Int := if inInode g n then ((n - 1) / g.ino, (n - 1) % g.ino) else (0, 0)
def inodeG (g : GeoV) (n : Int) : Int × Int := if inInode g n then (startG g (homeG g n).1 + 2 + (homeG g n).2 / 4, (homeG g n).2 % 4 * 64) else (0, 0)
def numberG (g : GeoV) (k i : Int) : Int := if inGroup g k ∧ 0 ≤ i ∧ i < g.ino then k * g.ino + i + 1 else 0

/-! A geometry in memory. -/
def GVar (w : World) (b : Nat) (g : GeoV) : Prop := w.heap[b]? = some (.cells (gcs g) 23 (0, 0))
theorem GVar.lt {w : World} {b : Nat} {g : GeoV} (h : GVar w b g) : b < w.heap.size := (Array.getElem?_eq_some_iff.1 h).1
theorem GVar.below {w w' : World} {b : Nat} {g : GeoV} (h : GVar w b g) (hb : Below w.heap.size w w') : GVar w' b g := (hb.block b h.lt).trans h
theorem GVar.cell {w : World} {b : Nat} {g : GeoV} (h : GVar w b g) {i : Nat} {v : Value} (hv : (gcs g)[i]? = some v) : w.cell? ⟨b, i, none⟩ = some v := (cell_of_row w b i _ _ _ h).trans hv
theorem gcs_eq (g : GeoV) : gcs g = #[.int .i64 g.gr, .int .i64 g.sz, .int .i64 g.ino, .int .i64 g.jr] := by unfold gcs; rfl
theorem GVar.c0 {w : World} {b : Nat} {g : GeoV} (h : GVar w b g) : w.cell? ⟨b, 0, none⟩ = some (.int .i64 g.gr) := h.cell (by rw [gcs_eq]; rfl)
theorem GVar.c1 {w : World} {b : Nat} {g : GeoV} (h : GVar w b g) : w.cell? ⟨b, 1, none⟩ = some (.int .i64 g.sz) := h.cell (by rw [gcs_eq]; rfl)
theorem GVar.c2 {w : World} {b : Nat} {g : GeoV} (h : GVar w b g) : w.cell? ⟨b, 2, none⟩ = some (.int .i64 g.ino) := h.cell (by rw [gcs_eq]; rfl)
theorem GVar.c3 {w : World} {b : Nat} {g : GeoV} (h : GVar w b g) : w.cell? ⟨b, 3, none⟩ = some (.int .i64 g.jr) := h.cell (by rw [gcs_eq]; rfl)
def GAt (w : World) (b o : Nat) (g : GeoV) : Prop := w.rangeAt b o (gcs g).toList
theorem GVar.at {w : World} {b : Nat} {g : GeoV} (h : GVar w b g) : GAt w b 0 g := fun i v hv => by
  rw [Nat.zero_add]; exact h.cell (by simpa using hv)
theorem geo_size4 : (Try.prog.info? 23).map (·.size) = some 4 := by kernel_rfl
theorem geo_size (g : GeoV) : (Try.prog.info? 23).map (·.size) = some (gcs g).toList.length := by rw [geo_size4, gcs_eq]; rfl
section
variable {ops : Array Oper} {rest : List Oper} {op : Oper} {a : Act} {w : World} {Q : Exit → Act → World → Prop}
theorem load_geo (hgd : op.guard = none) (x : Operand) (ho : op.op = .load 23 x) (b o : Nat) (hx : a.eval x = .pointer (some ⟨b, o, none⟩)) (g : GeoV) (hc : GAt w b o g)
    (h : wpList Try.prog ops Q rest (a.put op.dst (.agg (gcs g))) w) : wpList Try.prog ops Q (op :: rest) a w :=
  wpList_load_mid hgd 23 x ho b o hx (gcs g).toList _ hc Try.underlying23 rfl (geo_size g) (by simpa using h)
end
theorem quiet_geo {o : Oper} {a : Act} {C : World → Prop} {K : Act → Prop} (x : Operand) (ho : o.op = .load 23 x) (b off : Nat) (hx : a.eval x = .pointer (some ⟨b, off, none⟩)) (g : GeoV) (hc : ∀ w, C w → GAt w b off g)
    (hk : K (a.put o.dst (.agg (gcs g)))) : o.quiet Try.prog a C K := by
  refine ⟨_, fun w hw => ?_, hk⟩
  unfold Oper.quietAt execOp
  have h := run_loadAt_mid (P := Try.prog) w b off 23 (gcs g).toList _ (hc w hw) Try.underlying23 rfl (geo_size g)
  simp only [ho, hx, h, Sem.run_bind, Sem.run_pure, Result.andThen_ok]
  exact ⟨rfl, by simp⟩
theorem load_geo_w {ops : Array Oper} {rest : List Oper} {op : Oper} {a : Act} {w : World} {Q : Exit → Act → World → Prop} (hw : Region.wanted op (yielded ops a.tmps) = true) (x : Operand) (ho : op.op = .load 23 x) (b o : Nat) (hx : a.eval x = .pointer (some ⟨b, o, none⟩)) (g : GeoV) (hc : GAt w b o g)
    (h : wpList Try.prog ops Q rest (a.put op.dst (.agg (gcs g))) w) : wpList Try.prog ops Q (op :: rest) a w :=
  BigFrame.wpList_want hw fun _ hK => wp_load_mid 23 x ho b o hx (gcs g).toList _ hc Try.underlying23 rfl (geo_size g) (hK _ _ (by simpa using h))

/-! What the program's geometry says. -/
structure GeoSays : Prop where
  may : ∀ (g : GeoV) (w : World), g.Fits → Calls Try.prog 14 #[.agg (gcs g)] w fun e w' => e = .returned (.bool (mayB g)) ∧ Below w.heap.size w w'
  blocks : ∀ (g : GeoV) (w : World), g.Fits → Calls Try.prog 16 #[.agg (gcs g)] w fun e w' => e = .returned (.int .i64 (blocksG g)) ∧ Below w.heap.size w w'
  inodes : ∀ (g : GeoV) (w : World), g.Fits → Calls Try.prog 18 #[.agg (gcs g)] w fun e w' => e = .returned (.int .i64 (inodesG g)) ∧ Below w.heap.size w w'
  data : ∀ (g : GeoV) (w : World), g.Fits → Calls Try.prog 20 #[.agg (gcs g)] w fun e w' => e = .returned (.int .i64 (dataG g)) ∧ Below w.heap.size w w'
  start : ∀ (g : GeoV) (k : Int) (w : World), g.Fits → I64 k → Calls Try.prog 10 #[.agg (gcs g), .int .i64 k] w fun e w' => e = .returned (.tuple #[.int .i64 (startG g k), .bool (inGroup g k)]) ∧ Below w.heap.size w w'
  what : ∀ (g : GeoV) (b : Int) (w : World), g.Fits → I64 b → Calls Try.prog 12 #[.agg (gcs g), .int .i64 b] w fun e w' => e = .returned (.tuple #[.int .u8 (whatG g b).1, .int .i64 (whatG g b).2.1, .int .i64 (whatG g b).2.2]) ∧ Below w.heap.size w w'
  inode : ∀ (g : GeoV) (n : Int) (w : World), g.Fits → I64 n → Calls Try.prog 22 #[.agg (gcs g), .int .i64 n] w fun e w' => e = .returned (.tuple #[.int .i64 (inodeG g n).1, .int .i64 (inodeG g n).2, .bool (inInode g n)]) ∧ Below w.heap.size w w'
  home : ∀ (g : GeoV) (n : Int) (w : World), g.Fits → I64 n → Calls Try.prog 24 #[.agg (gcs g), .int .i64 n] w fun e w' => e = .returned (.tuple #[.int .i64 (homeG g n).1, .int .i64 (homeG g n).2, .bool (inInode g n)]) ∧ Below w.heap.size w w'
  number : ∀ (g : GeoV) (k i : Int) (w : World), g.Fits → I64 k → I64 i → Calls Try.prog 27 #[.agg (gcs g), .int .i64 k, .int .i64 i] w fun e w' => e = .returned (.int .i64 (numberG g k i)) ∧ Below w.heap.size w w'
end Go.Proofs.Ytamghbmeedbbgaa
