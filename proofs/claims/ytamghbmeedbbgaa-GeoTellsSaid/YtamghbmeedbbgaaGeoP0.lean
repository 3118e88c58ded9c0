import Derived.Test.YtamghbmeedbbgaaGeoM2
import Derived.Test.YtamghbmeedbbgaaIter
namespace Go.Proofs.Ytamghbmeedbbgaa
open Go.RowKit Go.BigFrame

/-! The parts of an image, as the program goes through them. -/
structure PartV where
  kind : Int
  grp : Int
  plc : Int
  first : Int
  cnt : Int
def pcs (p : PartV) : Array Value := #[.int .u8 p.kind, .int .i64 p.grp, .int .i64 p.plc, .int .i64 p.first, .int .i64 p.cnt]
def ownG (g : GeoV) : Int := 2 + g.ino / 4
def baseG (g : GeoV) (q : Nat) : Int := 2 + g.jr + q * g.sz
def inG (g : GeoV) (q : Nat) : Nat → PartV
  | 0 => ⟨4, q, 0, baseG g q, 1⟩
  | 1 => ⟨5, q, 1, baseG g q + 1, 1⟩
  | 2 => ⟨6, q, 2, baseG g q + 2, ownG g - 2⟩
  | _ => ⟨7, q, ownG g, baseG g q + ownG g, g.sz - ownG g⟩
def partG (g : GeoV) : Nat → PartV
  | 0 => ⟨1, 0, 0, 0, 1⟩
  | 1 => ⟨2, 0, 0, 1, 1⟩
  | 2 => ⟨3, 0, 0, 2, g.jr⟩
  | k + 3 => inG g (k / 4) (k % 4)
def numG (g : GeoV) : Nat := if May g then 3 + 4 * g.gr.toNat else 0

attribute [local go_sem] Oper.semAt_some
set_option maxRecDepth 100000 in
set_option maxHeartbeats 1000000 in
theorem next_in (F : Fence) (m : Nat) (hF : ∀ f, F.fn f) (hro : F.round = none) (hm : 1 ≤ m) (l b1 b2 : Nat) (p : PartV) (W : World) (R : Ending → World → Prop) (hne : b1 ≠ b2) (h1 : Boxed W b1 3 (.int .i64 p.first)) (h2 : Boxed W b2 50 (.func (.yield l) #[] #[])) (hk : 0 ≤ p.kind ∧ p.kind ≤ 255) (hf : I64 p.first) (hc : I64 (p.first + p.cnt))
    (hy : ∀ W1, Below b1 W W1 → W.grownBy W1 (some b1) → Boxed W1 b1 3 (.int .i64 (p.first + p.cnt)) → YieldAt F (m - 1) Try.prog l #[.agg (pcs p)] W1 R) (hR : ∀ e W', R e W' → ∃ b, e = .returned (.bool b)) :
    CallsIn F m Try.prog 35 #[.int .u8 p.kind, .int .i64 p.grp, .int .i64 p.plc, .int .i64 p.cnt, .pointer (some ⟨b1, 0, none⟩), .pointer (some ⟨b2, 0, none⟩)] W R := by
  obtain ⟨kd, gp, pl, fs, ct⟩ := p
  have HY := Lib.hid hy
  have HR := Lib.hid hR
  have c1 := h1.cell
  have c2 := h2.cell
  have f1 := h1.frozen
  have l1 := h1.lt
  have l2 := h2.lt
  have HF := Lib.hid hF
  unfold I64 at hf hc
  clear hy hR
  refine callsIn_of_wp Try.func35 rfl (hF _) ?_ hro
  simp only [Try.ntmps35, List.size_toArray, List.length_cons, List.length_nil, Nat.reduceAdd, Nat.reduceSub, Array.replicate_succ, Array.replicate_zero, List.push_toArray, List.append_toArray, List.nil_append, List.cons_append]
  gi_wp2_with fail
  have hw : wrap64 (fs + ct) = fs + ct := by unfold wrap64; omega
  rw [hw]
  have hg : W.grownBy ((W.setCell ⟨b1, 0, none⟩ (.int .i64 (fs + ct))).alloc (.cells #[.int .u8 kd, .int .i64 gp, .int .i64 pl, .int .i64 fs, .int .i64 ct] 39)) (some b1) :=
    ⟨rfl, rfl, rfl, by simp [World.setCell], fun k hk hn => (Below.heap_alloc _ _ _ (by simp [World.setCell]; omega)).trans (Below.heap_setCell _ _ _ _ (fun e => hn (by rw [e])))⟩
  have hb : Below b1 W ((W.setCell ⟨b1, 0, none⟩ (.int .i64 (fs + ct))).alloc (.cells #[.int .u8 kd, .int .i64 gp, .int .i64 pl, .int .i64 fs, .int .i64 ct] 39)) :=
    ((Below.refl b1 W).setCell (p := ⟨b1, 0, none⟩) (Nat.le_refl _) _).alloc (by simp [World.setCell]; omega) _
  obtain ⟨fn, tmps, assign, body, hy, hr⟩ := HY.out _ hb hg ((h1.set _).alloc _)
  have hy2 : (Instr.yield l #[.agg #[.int .u8 kd, .int .i64 gp, .int .i64 pl, .int .i64 fs, .int .i64 ct]]).run Try.prog ((W.setCell ⟨b1, 0, none⟩ (.int .i64 (fs + ct))).alloc (.cells #[.int .u8 kd, .int .i64 gp, .int .i64 pl, .int .i64 fs, .int .i64 ct] 39)) = _ := hy
  rw [hy2]
  refine ⟨fun _ => hm, hr.mono ?_⟩
  intro e W' h
  obtain ⟨b, rfl⟩ := HR.out _ _ h
  clear hy hy2 hr hg hb
  gi_wp2
  exact h
end Go.Proofs.Ytamghbmeedbbgaa
