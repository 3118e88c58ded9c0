import Derived.Test.YtamghbmeedbbgaaGeoP6
import Derived.Test.YtamghbmeedbbgaaRuns
namespace Go.Proofs.Ytamghbmeedbbgaa
open Go.RowKit Go.Shelf Go.BigFrame
attribute [local go_sem] Oper.semAt_some

/-! What. -/
theorem what_part {g : GeoV} {k : Nat} {b : Int} (hk : k < numG g) (h1 : (partG g k).first ≤ b) (h2 : b < (partG g k).first + (partG g k).cnt) : whatG g b = ((partG g k).kind, (partG g k).grp, (partG g k).plc + b - (partG g k).first) := by
  have hm : May g := by
    by_cases h : May g
    · exact h
    · unfold numG at hk; rw [if_neg h] at hk; omega
  unfold numG at hk
  rw [if_pos hm] at hk
  have hm' := hm
  obtain ⟨m1, m2, m3, m4, m5, m6, m7, m8, m9, m10, m11⟩ := hm'
  have hp : 0 ≤ g.gr * g.sz := Int.mul_nonneg (by omega) (by omega)
  match k with
  | 0 =>
    obtain rfl : b = 0 := by simp [partG] at h1 h2; omega
    unfold whatG blocksG
    rw [if_pos hm, if_neg (by simp only [hm, not_true_eq_false, false_or]; omega)]
    rfl
  | 1 =>
    obtain rfl : b = 1 := by simp [partG] at h1 h2; omega
    unfold whatG blocksG
    rw [if_pos hm, if_neg (by simp only [hm, not_true_eq_false, false_or]; omega)]
    rfl
  | 2 =>
    simp [partG] at h1 h2 ⊢
    unfold whatG blocksG
    rw [if_pos hm, if_neg (by simp only [hm, not_true_eq_false, false_or]; omega), if_neg (by omega), if_neg (by omega), if_pos (by omega)]
  | k + 3 =>
    have hq : ((k / 4 : Nat) : Int) < g.gr := by omega
    have hif := inG_first hm (Int.le_of_lt hq)
    have key : ∀ a : Int, 0 ≤ a → a < g.sz → whatG g (baseG g (k / 4) + a) = (kindG g a, ((k / 4 : Nat) : Int), a) := fun a g1 g2 => by
      have := what_at hm (k := ((k / 4 : Nat) : Int)) (a := a) (by omega) hq g1 g2
      unfold baseG
      exact this
    change (inG g (k / 4) (k % 4)).first ≤ b at h1
    change b < (inG g (k / 4) (k % 4)).first + (inG g (k / 4) (k % 4)).cnt at h2
    show whatG g b = ((inG g (k / 4) (k % 4)).kind, (inG g (k / 4) (k % 4)).grp, (inG g (k / 4) (k % 4)).plc + b - (inG g (k / 4) (k % 4)).first)
    have h : k % 4 = 0 ∨ k % 4 = 1 ∨ k % 4 = 2 ∨ k % 4 = 3 := by omega
    have ho : ownG g = 2 + g.ino / 4 := rfl
    rcases h with h | h | h | h <;> rw [h] at h1 h2 ⊢ <;> simp only [inG] at h1 h2 ⊢ <;> generalize baseG g (k / 4) = B at h1 h2 key hif ⊢
    · obtain rfl : b = B := by omega
      have := key 0 (by omega) (by omega)
      rw [Int.add_zero] at this
      rw [this]
      simp [kindG]
    · obtain rfl : b = B + 1 := by omega
      rw [key 1 (by omega) (by omega)]
      simp [kindG] <;> omega
    · have := key (b - B) (by omega) (by omega)
      rw [show B + (b - B) = b by omega] at this
      rw [this, show kindG g (b - B) = 6 by unfold kindG; rw [if_neg (by omega), if_neg (by omega), if_pos (by omega)]]
      simp; omega
    · have := key (b - B) (by omega) (by omega)
      rw [show B + (b - B) = b by omega] at this
      rw [this, show kindG g (b - B) = 7 by unfold kindG; rw [if_neg (by omega), if_neg (by omega), if_neg (by omega)]]
      simp; omega
theorem partG_plc {g : GeoV} (hm : May g) {k : Nat} (hk : k ≤ numG g) : 0 ≤ (partG g k).plc ∧ (partG g k).plc ≤ 4096 := by
  match k with
  | 0 => simp [partG]
  | 1 => simp [partG]
  | 2 => simp [partG]
  | k + 3 =>
    have hm' := hm
    obtain ⟨m1, m2, m3, m4, m5, m6, m7, m8, m9, m10, m11⟩ := hm'
    show 0 ≤ (inG g (k / 4) (k % 4)).plc ∧ (inG g (k / 4) (k % 4)).plc ≤ 4096
    have h : k % 4 = 0 ∨ k % 4 = 1 ∨ k % 4 = 2 ∨ k % 4 = 3 := by omega
    rcases h with h | h | h | h <;> rw [h] <;> simp [inG, ownG] <;> omega
theorem part_covers {g : GeoV} {b : Int} (h0 : 0 ≤ b) : ∀ n : Nat, b < (partG g n).first → ∃ k, k < n ∧ (partG g k).first ≤ b ∧ b < (partG g k).first + (partG g k).cnt
  | 0, h => by simp [partG] at h; omega
  | n + 1, h => by
    rw [← partG_next] at h
    by_cases h1 : (partG g n).first ≤ b
    · exact ⟨n, by omega, h1, h⟩
    · obtain ⟨k, h2, h3⟩ := part_covers (g := g) h0 n (by omega)
      exact ⟨k, by omega, h3⟩
theorem what_none {g : GeoV} {b : Int} (h : ∀ k, k < numG g → ¬ ((partG g k).first ≤ b ∧ b < (partG g k).first + (partG g k).cnt)) : whatG g b = (0, 0, 0) := by
  unfold whatG
  by_cases hm : May g
  · rw [if_pos]
    by_cases h0 : b < 0
    · exact .inr (.inl h0)
    · refine .inr (.inr (Int.not_lt.1 fun hb => ?_))
      rw [← first_num] at hb
      obtain ⟨k, h1, h2⟩ := part_covers (by omega) _ hb
      exact h k h1 h2
  · rw [if_pos (.inl hm)]

def Past (g : GeoV) (b : Int) (k : Nat) : Prop := ∀ j, j < k → ¬ ((partG g j).first ≤ b ∧ b < (partG g j).first + (partG g j).cnt)
theorem cell_below' {w w' : World} {p : Addr} {v : Value} (h : w.cell? p = some v) (hb : Below w.heap.size w w') : w'.cell? p = some v := by
  have hl : p.block < w.heap.size := by
    unfold World.cell? at h
    cases ho : w.heap[p.block]? with
    | none => simp [ho] at h
    | some o => exact (Array.getElem?_eq_some_iff.1 ho).1
  exact (hb.cell hl).trans h
theorem quiet_u8 {o : Oper} {a : Act} {C : World → Prop} {K : Act → Prop} (x : Operand) (ho : o.op = .load 5 x) (p : Addr) (hx : a.eval x = .pointer (some p)) (k : Int) (hc : ∀ w, C w → w.cell? p = some (.int .u8 k))
    (hk : K (a.put o.dst (.int .u8 k))) : o.quiet Try.prog a C K := by
  refine ⟨_, fun w hw => ?_, hk⟩
  have h := hc w hw
  unfold Oper.quietAt execOp
  simp only [ho, hx]
  go_simp
  first | done | exact ⟨rfl, hw⟩ | exact hw
/-- The cells of What's own: the block, and its answers. -/
structure WC (W : World) (bb bk bg ba : Nat) (b k g a : Int) : Prop where
  b : Boxed W bb 3 (.int .i64 b)
  k : Boxed W bk 5 (.int .u8 k)
  g : Boxed W bg 3 (.int .i64 g)
  a : Boxed W ba 3 (.int .i64 a)
theorem WC.below {W W' : World} {s bb bk bg ba : Nat} {b k g a : Int} (h : WC W bb bk bg ba b k g a) (hb : Below s W W') (h1 : bb < s) (h2 : bk < s) (h3 : bg < s) (h4 : ba < s) : WC W' bb bk bg ba b k g a :=
  ⟨(hb.block _ h1).trans h.b, (hb.block _ h2).trans h.k, (hb.block _ h3).trans h.g, (hb.block _ h4).trans h.a⟩
theorem WC.put {W : World} {r bb bk bg ba : Nat} {b k g a : Int} (h : WC W bb bk bg ba b k g a) (o : Obj) (h1 : bb ≠ r) (h2 : bk ≠ r) (h3 : bg ≠ r) (h4 : ba ≠ r) : WC (W.putObj r o) bb bk bg ba b k g a :=
  ⟨(World.putObj_heap_other h1).trans h.b, (World.putObj_heap_other h2).trans h.k, (World.putObj_heap_other h3).trans h.g, (World.putObj_heap_other h4).trans h.a⟩
theorem boxPast {W : World} {B : Nat} {t : TypeId} {v : Value} (h : Boxed W B t v) (p : Addr) (hp : B ≠ p.block) (u : Value) : Boxed (W.setCell p u) B t v := (Below.heap_setCell _ _ _ _ hp).trans h
theorem WC.done {W : World} {bb bk bg ba : Nat} {b k g a : Int} (h : WC W bb bk bg ba b k g a) (k' g' a' : Int) (h1 : bb < bk) (h2 : bk < bg) (h3 : bg < ba) : WC (((W.setCell ⟨bk, 0, none⟩ (.int .u8 k')).setCell ⟨bg, 0, none⟩ (.int .i64 g')).setCell ⟨ba, 0, none⟩ (.int .i64 a')) bb bk bg ba b k' g' a' :=
  ⟨boxPast (boxPast (boxPast h.b ⟨bk, 0, none⟩ (by show bb ≠ bk; omega) _) ⟨bg, 0, none⟩ (by show bb ≠ bg; omega) _) ⟨ba, 0, none⟩ (by show bb ≠ ba; omega) _,
   boxPast (boxPast (h.k.set _) ⟨bg, 0, none⟩ (by show bk ≠ bg; omega) _) ⟨ba, 0, none⟩ (by show bk ≠ ba; omega) _,
   boxPast (Boxed.set _ (boxPast h.g ⟨bk, 0, none⟩ (by show bg ≠ bk; omega) _)) ⟨ba, 0, none⟩ (by show bg ≠ ba; omega) _,
   Boxed.set _ (boxPast (boxPast h.a ⟨bk, 0, none⟩ (by show ba ≠ bk; omega) _) ⟨bg, 0, none⟩ (by show ba ≠ bg; omega) _)⟩
theorem results_what {W : World} {D bb bk bg ba : Nat} {b k g a : Int} {tmps : Array Value} (h : WC W bb bk bg ba b k g a) (h2 : bk ≠ D) (h3 : bg ≠ D) (h4 : ba ≠ D) (ht1 : tmps[4]?.getD undef = .pointer (some ⟨bk, 0, none⟩) := by rfl) (ht2 : tmps[5]?.getD undef = .pointer (some ⟨bg, 0, none⟩) := by rfl) (ht3 : tmps[6]?.getD undef = .pointer (some ⟨ba, 0, none⟩) := by rfl) :
    (results Try.f12 tmps).run Try.prog (W.putObj D (.deferred none)) = .ok (.tuple #[.int .u8 k, .int .i64 g, .int .i64 a]) (W.putObj D (.deferred none)) := by
  have hk := Boxed.cell (show Boxed (W.putObj D (.deferred none)) bk _ _ from (World.putObj_heap_other h2).trans h.k)
  have hg := Boxed.cell (show Boxed (W.putObj D (.deferred none)) bg _ _ from (World.putObj_heap_other h3).trans h.g)
  have ha := Boxed.cell (show Boxed (W.putObj D (.deferred none)) ba _ _ from (World.putObj_heap_other h4).trans h.a)
  generalize W.putObj D (.deferred none) = W2 at hk hg ha ⊢
  simp [results, Try.f12, ht1, ht2, ht3, go_sem, hk, hg, ha]

/-- While the answer is written, in whatever order. -/
structure SC0 (b0 bx bb bk bg ba : Nat) (b kd gp pa : Int) (p : Array Value) (s t : Nat) (W0 w0 : World) (k g a : Int) (seen : Array Bool) (w : World) : Prop where
  wc : WC w bb bk bg ba b k g a
  hk : seen.getD 11 false = true → k = kd
  hg : seen.getD 12 false = true → g = gp
  ha : seen.getD 13 false = true → a = pa
  hx : w.heap[bx]? = some (.cells p 39 (0, 0))
  kp : Kept b0 s W0 w
  bl : Below t w0 w
def SC (b0 bx bb bk bg ba : Nat) (b kd gp pa : Int) (p : Array Value) (s t : Nat) (W0 w0 : World) (seen : Array Bool) (w : World) : Prop := seen.size = 14 ∧ ∃ k g a, SC0 b0 bx bb bk bg ba b kd gp pa p s t W0 w0 k g a seen w
section
variable {b0 bx bb bk bg ba : Nat} {b kd gp pa : Int} {p : Array Value} {s t : Nat} {W0 w0 w : World} {seen : Array Bool}
theorem SC.start (h1 : WC w bb bk bg ba b 0 0 0) (h2 : w.heap[bx]? = some (.cells p 39 (0, 0))) (h3 : Kept b0 s W0 w) (h4 : Below t w0 w) : SC b0 bx bb bk bg ba b kd gp pa p s t W0 w0 (Array.replicate 14 false) w.drew :=
  ⟨rfl, 0, 0, 0, ⟨h1.b, h1.k, h1.g, h1.a⟩, fun h => by simp at h, fun h => by simp at h, fun h => by simp at h, h2, ⟨h3.size, h3.same⟩, h4.drew⟩
theorem SC.pass {k : Nat} (hk : k < 11) : sPass (SC b0 bx bb bk bg ba b kd gp pa p s t W0 w0) k := fun seen w _ h => by
  obtain ⟨h1, x, y, z, h2⟩ := h
  exact ⟨by simp [h1], x, y, z, h2.wc, fun q => h2.hk (by rwa [getD_set_ne false (by omega)] at q), fun q => h2.hg (by rwa [getD_set_ne false (by omega)] at q), fun q => h2.ha (by rwa [getD_set_ne false (by omega)] at q), h2.hx, h2.kp, h2.bl⟩
theorem SC.cx (h : SC b0 bx bb bk bg ba b kd gp pa p s t W0 w0 seen w) (i : Nat) {v : Value} (hv : p[i]? = some v) : w.cell? ⟨bx, i, none⟩ = some v := by
  obtain ⟨_, _, _, _, h⟩ := h
  exact (cell_of_row w bx i _ _ _ h.hx).trans hv
theorem SC.cb (h : SC b0 bx bb bk bg ba b kd gp pa p s t W0 w0 seen w) : w.cell? ⟨bb, 0, none⟩ = some (.int .i64 b) := by
  obtain ⟨_, _, _, _, h⟩ := h
  exact h.wc.b.cell
theorem SC.ck (h : SC b0 bx bb bk bg ba b kd gp pa p s t W0 w0 seen w) : (∃ k, w.cell? ⟨bk, 0, none⟩ = some (.int .u8 k)) ∧ w.frozen? ⟨bk, 0, none⟩ = false := by
  obtain ⟨_, _, _, _, h⟩ := h
  exact ⟨⟨_, h.wc.k.cell⟩, h.wc.k.frozen⟩
theorem SC.cg (h : SC b0 bx bb bk bg ba b kd gp pa p s t W0 w0 seen w) : (∃ k, w.cell? ⟨bg, 0, none⟩ = some (.int .i64 k)) ∧ w.frozen? ⟨bg, 0, none⟩ = false := by
  obtain ⟨_, _, _, _, h⟩ := h
  exact ⟨⟨_, h.wc.g.cell⟩, h.wc.g.frozen⟩
theorem SC.ca (h : SC b0 bx bb bk bg ba b kd gp pa p s t W0 w0 seen w) : (∃ k, w.cell? ⟨ba, 0, none⟩ = some (.int .i64 k)) ∧ w.frozen? ⟨ba, 0, none⟩ = false := by
  obtain ⟨_, _, _, _, h⟩ := h
  exact ⟨⟨_, h.wc.a.cell⟩, h.wc.a.frozen⟩
theorem SC.putk (h : SC b0 bx bb bk bg ba b kd gp pa p s t W0 w0 seen w) (hz : bb < bk ∧ bk < bg ∧ bg < ba ∧ ba < b0 ∧ b0 < s ∧ s ≤ bx ∧ t < bb) : SC b0 bx bb bk bg ba b kd gp pa p s t W0 w0 (seen.setIfInBounds 11 true) (w.setCell ⟨bk, 0, none⟩ (.int .u8 kd)) := by
  obtain ⟨h1, x, y, z, h2⟩ := h
  exact ⟨by simp [h1], kd, y, z, ⟨boxPast h2.wc.b _ (by show bb ≠ bk; omega) _, h2.wc.k.set _, boxPast h2.wc.g _ (by show bg ≠ bk; omega) _, boxPast h2.wc.a _ (by show ba ≠ bk; omega) _⟩, fun _ => rfl, fun q => h2.hg (by rwa [getD_set_ne false (by omega)] at q), fun q => h2.ha (by rwa [getD_set_ne false (by omega)] at q), (Below.heap_setCell _ _ _ _ (by show bx ≠ bk; omega)).trans h2.hx, h2.kp.trans (Kept.setCell _ (by show bk ≠ b0; omega) (by show bk < s; omega) _), h2.bl.setCell (by show t ≤ bk; omega) _⟩
theorem SC.putg (h : SC b0 bx bb bk bg ba b kd gp pa p s t W0 w0 seen w) (hz : bb < bk ∧ bk < bg ∧ bg < ba ∧ ba < b0 ∧ b0 < s ∧ s ≤ bx ∧ t < bb) : SC b0 bx bb bk bg ba b kd gp pa p s t W0 w0 (seen.setIfInBounds 12 true) (w.setCell ⟨bg, 0, none⟩ (.int .i64 gp)) := by
  obtain ⟨h1, x, y, z, h2⟩ := h
  exact ⟨by simp [h1], x, gp, z, ⟨boxPast h2.wc.b _ (by show bb ≠ bg; omega) _, boxPast h2.wc.k _ (by show bk ≠ bg; omega) _, h2.wc.g.set _, boxPast h2.wc.a _ (by show ba ≠ bg; omega) _⟩, fun q => h2.hk (by rwa [getD_set_ne false (by omega)] at q), fun _ => rfl, fun q => h2.ha (by rwa [getD_set_ne false (by omega)] at q), (Below.heap_setCell _ _ _ _ (by show bx ≠ bg; omega)).trans h2.hx, h2.kp.trans (Kept.setCell _ (by show bg ≠ b0; omega) (by show bg < s; omega) _), h2.bl.setCell (by show t ≤ bg; omega) _⟩
theorem SC.puta (h : SC b0 bx bb bk bg ba b kd gp pa p s t W0 w0 seen w) (hz : bb < bk ∧ bk < bg ∧ bg < ba ∧ ba < b0 ∧ b0 < s ∧ s ≤ bx ∧ t < bb) : SC b0 bx bb bk bg ba b kd gp pa p s t W0 w0 (seen.setIfInBounds 13 true) (w.setCell ⟨ba, 0, none⟩ (.int .i64 pa)) := by
  obtain ⟨h1, x, y, z, h2⟩ := h
  exact ⟨by simp [h1], x, y, pa, ⟨boxPast h2.wc.b _ (by show bb ≠ ba; omega) _, boxPast h2.wc.k _ (by show bk ≠ ba; omega) _, boxPast h2.wc.g _ (by show bg ≠ ba; omega) _, h2.wc.a.set _⟩, fun q => h2.hk (by rwa [getD_set_ne false (by omega)] at q), fun q => h2.hg (by rwa [getD_set_ne false (by omega)] at q), fun _ => rfl, (Below.heap_setCell _ _ _ _ (by show bx ≠ ba; omega)).trans h2.hx, h2.kp.trans (Kept.setCell _ (by show ba ≠ b0; omega) (by show ba < s; omega) _), h2.bl.setCell (by show t ≤ ba; omega) _⟩
theorem SC.fin (h : SC b0 bx bb bk bg ba b kd gp pa p s t W0 w0 seen w) (h1 : seen.getD 11 false = true) (h2 : seen.getD 12 false = true) (h3 : seen.getD 13 false = true) : WC w bb bk bg ba b kd gp pa ∧ Kept b0 s W0 w ∧ Below t w0 w := by
  obtain ⟨_, x, y, z, h⟩ := h
  obtain rfl := h.hk h1
  obtain rfl := h.hg h2
  obtain rfl := h.ha h3
  exact ⟨h.wc, h.kp, h.bl⟩
end

set_option maxRecDepth 100000 in
set_option maxHeartbeats 2000000 in
theorem what_in (F : Fence) (m : Nat) (hW : F = Fence.wide) (hF : ∀ f, F.fn f) (hro : F.round = none) (hm : 6 ≤ m) (g : GeoV) (b : Int) (hg : g.Fits) (hb64 : I64 b) (w : World) :
    CallsIn F m Try.prog 12 #[.agg (gcs g), .int .i64 b] w fun e w' => e = .returned (.tuple #[.int .u8 (whatG g b).1, .int .i64 (whatG g b).2.1, .int .i64 (whatG g b).2.2]) ∧ Below w.heap.size w w' := by
  have hm1 : 1 ≤ m := by omega
  have lift : Hid (∀ n f args W R, Calls Try.prog f args W R → CallsIn F n Try.prog f args W R) := Lib.hid fun _ _ _ _ _ h => by subst hW; exact callsIn_wide.2 h
  have IT : Hid (∀ W b0 m, GVar W b0 g → IterSays F m Try.prog 34 #[.pointer (some ⟨b0, 0, none⟩)] (numG g) (fun k => #[.agg (pcs (partG g k))]) b0 W) := Lib.hid fun W b0 m V => by subst hW; exact parts_iter g hg W b0 m V
  have HF := Lib.hid hF
  have HWD := Lib.hid hW
  clear hW
  obtain ⟨l0, l1, l2, l3, l4, lb, ls⟩ := lay5 w (.cells (gcs g) 23) (.cells #[.int .i64 b] 3) (.cells #[.int .u8 0] 5) (.cells #[.int .i64 0] 3) (.cells #[.int .i64 0] 3)
  obtain ⟨w1, hw1⟩ : ∃ w1, ((((w.alloc (.cells (gcs g) 23)).alloc (.cells #[.int .i64 b] 3)).alloc (.cells #[.int .u8 0] 5)).alloc (.cells #[.int .i64 0] 3)).alloc (.cells #[.int .i64 0] 3) = w1 := ⟨_, rfl⟩
  rw [hw1] at l0 l1 l2 l3 l4 lb ls
  have V1 : Hid (GVar w1 w.heap.size g) := Lib.hid l0
  have C1 : Hid (WC w1 (w.heap.size + 1) (w.heap.size + 2) (w.heap.size + 3) (w.heap.size + 4) b 0 0 0) := Lib.hid ⟨l1, l2, l3, l4⟩
  have B1 := Lib.hid lb
  have S1 := Lib.hid ls
  clear l0 l1 l2 l3 l4 lb ls
  refine callsIn_of_wp_marks Try.func12 rfl (hF _) ?_ hro
  simp only [Try.ntmps12, List.size_toArray, List.length_cons, List.length_nil, Nat.reduceAdd, Nat.reduceSub, Array.replicate_succ, Array.replicate_zero, List.push_toArray, List.append_toArray, List.nil_append, List.cons_append]
  gi_wp2_with (first | (refine load_geo_in rfl (.tmp 2) rfl w.heap.size 0 rfl g (by first | exact hw1 ▸ V1.out.at | fail) ?_) | (gi_at_call 31; refine (lift.out _ _ _ _ _ (parts_box g _)).mono ?_; rintro e w2 ⟨b0, rfl, hb2, hv2, hz2⟩))
  have hb3 : Below w1.heap.size w1 w2 := by first | exact hb2 | (rw [← hw1]; exact hb2)
  have hz3 : w1.heap.size ≤ b0 := by first | exact hz2 | (rw [← hw1]; exact hz2)
  clear hb2 hz2 hw1
  rw [S1.out] at hz3
  have V2 := Lib.hid hv2
  have B2 := Lib.hid (B1.out.trans (hb3.mono B1.out.size))
  obtain ⟨bb, hbb⟩ : ∃ bn, w.heap.size + 1 = bn := ⟨_, rfl⟩
  obtain ⟨bk, hbk⟩ : ∃ bn, bb + 1 = bn := ⟨_, rfl⟩
  obtain ⟨bg, hbg⟩ : ∃ bn, bk + 1 = bn := ⟨_, rfl⟩
  obtain ⟨ba, hba⟩ : ∃ bn, bg + 1 = bn := ⟨_, rfl⟩
  have C2 : Hid (WC w2 bb bk bg ba b 0 0 0) := Lib.hid (by
    have := C1.out.below hb3 (by rw [S1.out]; omega) (by rw [S1.out]; omega) (by rw [S1.out]; omega) (by rw [S1.out]; omega)
    rwa [show w.heap.size + 4 = ba by omega, show w.heap.size + 3 = bg by omega, show w.heap.size + 2 = bk by omega, show w.heap.size + 1 = bb by omega] at this)
  have Z : Hid (w.heap.size < bb ∧ bb < bk ∧ bk < bg ∧ bg < ba ∧ ba < b0 ∧ b0 < w2.heap.size) := Lib.hid ⟨by omega, by omega, by omega, by omega, by omega, V2.out.lt⟩
  have H64 := Lib.hid hb64
  rw [hbb, hbk, hbg, hba]
  clear hv2 hz3 hb3 hbb hbk hbg hba V1 B1 C1 S1 hb64
  refine wpIn_range_iter hro hm1 (gf := 34) (lb := #[.pointer (some ⟨b0, 0, none⟩)]) rfl (hF _) (enters_of Try.func34 (by kernel_rfl) rfl)
    (IT.out w2 b0 _ V2.out) V2.out.lt (Below.refl _ _) (fun _ => rfl)
    (fun k W => WC W bb bk bg ba b 0 0 0 ∧ Below w.heap.size w W ∧ Past g b k)
    (fun k W => WC W bb bk bg ba b (whatG g b).1 (whatG g b).2.1 (whatG g b).2.2 ∧ Below w.heap.size w W)
    (fun k A B h hb => ⟨h.1.below hb (by have := Z.out; omega) (by have := Z.out; omega) (by have := Z.out; omega) (by have := Z.out; omega), h.2.1.trans (hb.mono (by have := Z.out; omega)), h.2.2⟩)
    (fun k A B h hb => ⟨h.1.below hb (by have := Z.out; omega) (by have := Z.out; omega) (by have := Z.out; omega) (by have := Z.out; omega), h.2.trans (hb.mono (by have := Z.out; omega))⟩)
    ⟨C2.out, B2.out, fun j hj => by omega⟩
    (fun k a W => ∃ bx, w2.heap.size + 2 ≤ bx ∧ W.heap[bx]? = some (.cells (pcs (partG g k)) 39 (0, 0)) ∧ a = { tmps := #[Value.agg (gcs g), .int .i64 b, Value.pointer (some ⟨w.heap.size, 0, none⟩), Value.pointer (some ⟨bb, 0, none⟩), Value.pointer (some ⟨bk, 0, none⟩), Value.pointer (some ⟨bg, 0, none⟩), Value.pointer (some ⟨ba, 0, none⟩), .pointer (some ⟨bx, 0, none⟩), Value.agg (gcs g), Value.func (.func 34) #[] #[.pointer (some ⟨b0, 0, none⟩)], .agg (pcs (partG g k)), undef, undef, undef, undef, undef, undef, undef, undef, undef, undef, undef, undef, undef, undef, undef, undef, undef, undef, undef, undef, undef], defers := [] } ∧ WC W bb bk bg ba b 0 0 0 ∧ Below w.heap.size w W ∧ Past g b k)
    (fun k a W o ⟨bx, h1, h2, h3, h4, h5, h6⟩ => ⟨bx, h1, (World.putObj_heap_other (by omega)).trans h2, h3, h4.put o (by have := Z.out; omega) (by have := Z.out; omega) (by have := Z.out; omega) (by have := Z.out; omega), h5.trans (below_putObj W (by have := Z.out; omega) o), h6⟩) ?assign ?body ?done ?stop
  case assign =>
    rintro l k W K hk hsz ⟨hn, hB, hno⟩ hK
    have hb := below_alloc2 W (.cells (pcs (partG g k)) 39)
    have HK := Lib.hid (hK _ _ ⟨W.heap.size, hsz, heap_alloc_new W _, rfl, hn.below hb hn.b.lt hn.k.lt hn.g.lt hn.a.lt, hB.trans (hb.mono hB.size), hno⟩ hb)
    clear hK hn hB hno hb
    generalize partG g k = p at HK ⊢
    obtain ⟨kd', gp', pl, fs, ct⟩ := p
    unfold pcs at HK ⊢
    gi_wp2
    exact HK.out
  case body =>
    rintro l k a W hk ⟨bx, hbx, hp, rfl, hn, hB, hno⟩
    have hm2 : 1 ≤ m - 1 - 1 := by omega
    have hmay : May g := by
      by_cases h : May g
      · exact h
      · unfold numG at hk; rw [if_neg h] at hk; omega
    obtain ⟨r1, r2, r3, r4, r5, r6⟩ := partG_fits hmay (Nat.le_of_lt hk)
    have r7 := partG_plc hmay (Nat.le_of_lt hk)
    have HN := Lib.hid hn
    have HB := Lib.hid hB
    have HS := Lib.hid hbx
    have HP := Lib.hid hp
    have HNO := Lib.hid hno
    have HK := Lib.hid hk
    have c1 := hn.b.cell
    have x0 : W.cell? ⟨bx, 0, none⟩ = some (.int .u8 (partG g k).kind) := (cell_of_row W bx 0 _ _ _ hp).trans rfl
    have x1 : W.cell? ⟨bx, 1, none⟩ = some (.int .i64 (partG g k).grp) := (cell_of_row W bx 1 _ _ _ hp).trans rfl
    have x2 : W.cell? ⟨bx, 2, none⟩ = some (.int .i64 (partG g k).plc) := (cell_of_row W bx 2 _ _ _ hp).trans rfl
    have x3 : W.cell? ⟨bx, 3, none⟩ = some (.int .i64 (partG g k).first) := (cell_of_row W bx 3 _ _ _ hp).trans rfl
    have x4 : W.cell? ⟨bx, 4, none⟩ = some (.int .i64 (partG g k).cnt) := (cell_of_row W bx 4 _ _ _ hp).trans rfl
    clear hmay hk hn hB hbx hp hno
    by_cases h1 : (partG g k).first ≤ b ∧ b < (partG g k).first + (partG g k).cnt
    · have HW := Lib.hid (what_part HK.out h1.1 h1.2)
      have CW : Hid (∀ W', Calls Try.prog 32 #[.int .i64 b, .int .i64 (partG g k).first, .int .i64 ((partG g k).first + (partG g k).cnt - 1)] W' fun e w' => e = .returned (.bool true) ∧ Below W'.heap.size W' w') := Lib.hid fun W' => within_any _ _ _ W' true (by simp; omega)
      generalize partG g k = p at *
      obtain ⟨kd, gp, pl, fs, ct⟩ := p
      simp only at r1 r2 r3 r4 r5 r6 r7 x0 x1 x2 x3 x4 h1
      unfold pcs
      gi_wp2_with (gi_at_call 32; refine (CallsIn.inRound l (lift.out _ _ _ _ _ (CW.out _))).mono ?_; rintro e w3 ⟨rfl, hb3⟩)
      have N3 := Lib.hid (HN.out.below hb3 HN.out.b.lt HN.out.k.lt HN.out.g.lt HN.out.a.lt)
      have hlx := (Array.getElem?_eq_some_iff.1 HP.out).1
      have y0 := (hb3.cell (p := ⟨bx, 0, none⟩) hlx).trans x0
      have y1 := (hb3.cell (p := ⟨bx, 1, none⟩) hlx).trans x1
      have y2 := (hb3.cell (p := ⟨bx, 2, none⟩) hlx).trans x2
      have y3 := (hb3.cell (p := ⟨bx, 3, none⟩) hlx).trans x3
      have K3 : Hid (Kept b0 w2.heap.size W w3) := Lib.hid (Kept.of_below hb3)
      have B3 := Lib.hid (HB.out.trans (hb3.mono HB.out.size))
      have P3 : Hid (w3.heap[bx]? = some (.cells (pcs ⟨kd, gp, pl, fs, ct⟩) 39 (0, 0))) := Lib.hid ((hb3.block bx hlx).trans HP.out)
      have ZZ : Hid (bb < bk ∧ bk < bg ∧ bg < ba ∧ ba < b0 ∧ b0 < w2.heap.size ∧ w2.heap.size ≤ bx ∧ w.heap.size < bb) := Lib.hid ⟨by have := Z.out; omega, by have := Z.out; omega, by have := Z.out; omega, by have := Z.out; omega, by have := Z.out; omega, by have := HS.out; omega, by have := Z.out; omega⟩
      have d1 := N3.out.b.cell
      have e1 := N3.out.k.cell
      have e2 := N3.out.g.cell
      have e3 := N3.out.a.cell
      have f1 := N3.out.k.frozen
      have f2 := N3.out.g.frozen
      have f3 := N3.out.a.frozen
      have ne1 : bk ≠ bg := by have := Z.out; omega
      have ne2 : bk ≠ ba := by have := Z.out; omega
      have ne3 : bg ≠ ba := by have := Z.out; omega
      have ne4 : bx ≠ bk := by have := Z.out; have := HS.out; omega
      have ne5 : bx ≠ bg := by have := Z.out; have := HS.out; omega
      have ne6 : bx ≠ ba := by have := Z.out; have := HS.out; omega
      have ne7 : bb ≠ bk := by have := Z.out; omega
      have ne8 : bb ≠ bg := by have := Z.out; omega
      have ne9 : bb ≠ ba := by have := Z.out; omega
      clear hb3 c1 x0 x1 x2 x3 x4 hlx
      have hWd := HWD.out
      subst hWd
      have RA : Hid ((-9223372036854775808 ≤ pl + b ∧ pl + b ≤ 9223372036854775807) ∧ (-9223372036854775808 ≤ pl + b - fs ∧ pl + b - fs ≤ 9223372036854775807)) := Lib.hid (by omega)
      refine round_stores (SC b0 bx bb bk bg ba b kd gp (pl + b - fs) (pcs ⟨kd, gp, pl, fs, ct⟩) w2.heap.size w.heap.size W w) (by kernel_rfl) (by kernel_rfl) (by rintro ⟨_, _, h⟩; exact h) (by kernel_rfl) (fun _ _ h => h.1) (SC.start N3.out P3.out K3.out B3.out) ?_
      refine wpS_step (.pointer (some ⟨bx, 0, none⟩)) rfl rfl (sAt_value (SC.pass (by decide)) fun seen w' hD => ex_fpart (b := bx) rfl (by decide) rfl) ?_
      change wpS Try.prog _ _ _ 13 1 { tmps := #[Value.agg (gcs g), .int .i64 b, .pointer (some ⟨w.heap.size, 0, none⟩), .pointer (some ⟨bb, 0, none⟩), .pointer (some ⟨bk, 0, none⟩), .pointer (some ⟨bg, 0, none⟩), .pointer (some ⟨ba, 0, none⟩), .pointer (some ⟨bx, 0, none⟩), .agg (gcs g), .func (.func 34) #[] #[.pointer (some ⟨b0, 0, none⟩)], .agg #[.int .u8 kd, .int .i64 gp, .int .i64 pl, .int .i64 fs, .int .i64 ct], .int .i64 b, .pointer (some ⟨bx, 3, none⟩), .int .i64 fs, .pointer (some ⟨bx, 3, none⟩), .int .i64 fs, .pointer (some ⟨bx, 4, none⟩), .int .i64 ct, .int .i64 (fs + ct), .int .i64 (fs + ct - 1), .bool true, .pointer (some ⟨bx, 0, none⟩), undef, undef, undef, undef, undef, undef, undef, undef, undef, undef], defers := [] }
      refine wpS_step (.int .u8 kd) rfl rfl (sAt_value (SC.pass (by decide)) fun seen w' hD => ex_load_u8 rfl rfl (hD.cx 0 rfl)) ?_
      change wpS Try.prog _ _ _ 12 2 { tmps := #[Value.agg (gcs g), .int .i64 b, .pointer (some ⟨w.heap.size, 0, none⟩), .pointer (some ⟨bb, 0, none⟩), .pointer (some ⟨bk, 0, none⟩), .pointer (some ⟨bg, 0, none⟩), .pointer (some ⟨ba, 0, none⟩), .pointer (some ⟨bx, 0, none⟩), .agg (gcs g), .func (.func 34) #[] #[.pointer (some ⟨b0, 0, none⟩)], .agg #[.int .u8 kd, .int .i64 gp, .int .i64 pl, .int .i64 fs, .int .i64 ct], .int .i64 b, .pointer (some ⟨bx, 3, none⟩), .int .i64 fs, .pointer (some ⟨bx, 3, none⟩), .int .i64 fs, .pointer (some ⟨bx, 4, none⟩), .int .i64 ct, .int .i64 (fs + ct), .int .i64 (fs + ct - 1), .bool true, .pointer (some ⟨bx, 0, none⟩), .int .u8 kd, undef, undef, undef, undef, undef, undef, undef, undef, undef], defers := [] }
      refine wpS_step (.pointer (some ⟨bx, 1, none⟩)) rfl rfl (sAt_value (SC.pass (by decide)) fun seen w' hD => ex_fpart (b := bx) rfl (by decide) rfl) ?_
      change wpS Try.prog _ _ _ 11 3 { tmps := #[Value.agg (gcs g), .int .i64 b, .pointer (some ⟨w.heap.size, 0, none⟩), .pointer (some ⟨bb, 0, none⟩), .pointer (some ⟨bk, 0, none⟩), .pointer (some ⟨bg, 0, none⟩), .pointer (some ⟨ba, 0, none⟩), .pointer (some ⟨bx, 0, none⟩), .agg (gcs g), .func (.func 34) #[] #[.pointer (some ⟨b0, 0, none⟩)], .agg #[.int .u8 kd, .int .i64 gp, .int .i64 pl, .int .i64 fs, .int .i64 ct], .int .i64 b, .pointer (some ⟨bx, 3, none⟩), .int .i64 fs, .pointer (some ⟨bx, 3, none⟩), .int .i64 fs, .pointer (some ⟨bx, 4, none⟩), .int .i64 ct, .int .i64 (fs + ct), .int .i64 (fs + ct - 1), .bool true, .pointer (some ⟨bx, 0, none⟩), .int .u8 kd, .pointer (some ⟨bx, 1, none⟩), undef, undef, undef, undef, undef, undef, undef, undef], defers := [] }
      refine wpS_step (.int .i64 gp) rfl rfl (sAt_value (SC.pass (by decide)) fun seen w' hD => ex_load_int rfl rfl (hD.cx 1 rfl)) ?_
      change wpS Try.prog _ _ _ 10 4 { tmps := #[Value.agg (gcs g), .int .i64 b, .pointer (some ⟨w.heap.size, 0, none⟩), .pointer (some ⟨bb, 0, none⟩), .pointer (some ⟨bk, 0, none⟩), .pointer (some ⟨bg, 0, none⟩), .pointer (some ⟨ba, 0, none⟩), .pointer (some ⟨bx, 0, none⟩), .agg (gcs g), .func (.func 34) #[] #[.pointer (some ⟨b0, 0, none⟩)], .agg #[.int .u8 kd, .int .i64 gp, .int .i64 pl, .int .i64 fs, .int .i64 ct], .int .i64 b, .pointer (some ⟨bx, 3, none⟩), .int .i64 fs, .pointer (some ⟨bx, 3, none⟩), .int .i64 fs, .pointer (some ⟨bx, 4, none⟩), .int .i64 ct, .int .i64 (fs + ct), .int .i64 (fs + ct - 1), .bool true, .pointer (some ⟨bx, 0, none⟩), .int .u8 kd, .pointer (some ⟨bx, 1, none⟩), .int .i64 gp, undef, undef, undef, undef, undef, undef, undef], defers := [] }
      refine wpS_step (.pointer (some ⟨bx, 2, none⟩)) rfl rfl (sAt_value (SC.pass (by decide)) fun seen w' hD => ex_fpart (b := bx) rfl (by decide) rfl) ?_
      change wpS Try.prog _ _ _ 9 5 { tmps := #[Value.agg (gcs g), .int .i64 b, .pointer (some ⟨w.heap.size, 0, none⟩), .pointer (some ⟨bb, 0, none⟩), .pointer (some ⟨bk, 0, none⟩), .pointer (some ⟨bg, 0, none⟩), .pointer (some ⟨ba, 0, none⟩), .pointer (some ⟨bx, 0, none⟩), .agg (gcs g), .func (.func 34) #[] #[.pointer (some ⟨b0, 0, none⟩)], .agg #[.int .u8 kd, .int .i64 gp, .int .i64 pl, .int .i64 fs, .int .i64 ct], .int .i64 b, .pointer (some ⟨bx, 3, none⟩), .int .i64 fs, .pointer (some ⟨bx, 3, none⟩), .int .i64 fs, .pointer (some ⟨bx, 4, none⟩), .int .i64 ct, .int .i64 (fs + ct), .int .i64 (fs + ct - 1), .bool true, .pointer (some ⟨bx, 0, none⟩), .int .u8 kd, .pointer (some ⟨bx, 1, none⟩), .int .i64 gp, .pointer (some ⟨bx, 2, none⟩), undef, undef, undef, undef, undef, undef], defers := [] }
      refine wpS_step (.int .i64 pl) rfl rfl (sAt_value (SC.pass (by decide)) fun seen w' hD => ex_load_int rfl rfl (hD.cx 2 rfl)) ?_
      change wpS Try.prog _ _ _ 8 6 { tmps := #[Value.agg (gcs g), .int .i64 b, .pointer (some ⟨w.heap.size, 0, none⟩), .pointer (some ⟨bb, 0, none⟩), .pointer (some ⟨bk, 0, none⟩), .pointer (some ⟨bg, 0, none⟩), .pointer (some ⟨ba, 0, none⟩), .pointer (some ⟨bx, 0, none⟩), .agg (gcs g), .func (.func 34) #[] #[.pointer (some ⟨b0, 0, none⟩)], .agg #[.int .u8 kd, .int .i64 gp, .int .i64 pl, .int .i64 fs, .int .i64 ct], .int .i64 b, .pointer (some ⟨bx, 3, none⟩), .int .i64 fs, .pointer (some ⟨bx, 3, none⟩), .int .i64 fs, .pointer (some ⟨bx, 4, none⟩), .int .i64 ct, .int .i64 (fs + ct), .int .i64 (fs + ct - 1), .bool true, .pointer (some ⟨bx, 0, none⟩), .int .u8 kd, .pointer (some ⟨bx, 1, none⟩), .int .i64 gp, .pointer (some ⟨bx, 2, none⟩), .int .i64 pl, undef, undef, undef, undef, undef], defers := [] }
      refine wpS_step (.int .i64 b) rfl rfl (sAt_value (SC.pass (by decide)) fun seen w' hD => ex_load_int rfl rfl hD.cb) ?_
      change wpS Try.prog _ _ _ 7 7 { tmps := #[Value.agg (gcs g), .int .i64 b, .pointer (some ⟨w.heap.size, 0, none⟩), .pointer (some ⟨bb, 0, none⟩), .pointer (some ⟨bk, 0, none⟩), .pointer (some ⟨bg, 0, none⟩), .pointer (some ⟨ba, 0, none⟩), .pointer (some ⟨bx, 0, none⟩), .agg (gcs g), .func (.func 34) #[] #[.pointer (some ⟨b0, 0, none⟩)], .agg #[.int .u8 kd, .int .i64 gp, .int .i64 pl, .int .i64 fs, .int .i64 ct], .int .i64 b, .pointer (some ⟨bx, 3, none⟩), .int .i64 fs, .pointer (some ⟨bx, 3, none⟩), .int .i64 fs, .pointer (some ⟨bx, 4, none⟩), .int .i64 ct, .int .i64 (fs + ct), .int .i64 (fs + ct - 1), .bool true, .pointer (some ⟨bx, 0, none⟩), .int .u8 kd, .pointer (some ⟨bx, 1, none⟩), .int .i64 gp, .pointer (some ⟨bx, 2, none⟩), .int .i64 pl, .int .i64 b, undef, undef, undef, undef], defers := [] }
      refine wpS_step (.int .i64 (pl + b)) rfl rfl (sAt_value (SC.pass (by decide)) fun seen w' hD => ex_add rfl rfl rfl RA.out.1) ?_
      change wpS Try.prog _ _ _ 6 8 { tmps := #[Value.agg (gcs g), .int .i64 b, .pointer (some ⟨w.heap.size, 0, none⟩), .pointer (some ⟨bb, 0, none⟩), .pointer (some ⟨bk, 0, none⟩), .pointer (some ⟨bg, 0, none⟩), .pointer (some ⟨ba, 0, none⟩), .pointer (some ⟨bx, 0, none⟩), .agg (gcs g), .func (.func 34) #[] #[.pointer (some ⟨b0, 0, none⟩)], .agg #[.int .u8 kd, .int .i64 gp, .int .i64 pl, .int .i64 fs, .int .i64 ct], .int .i64 b, .pointer (some ⟨bx, 3, none⟩), .int .i64 fs, .pointer (some ⟨bx, 3, none⟩), .int .i64 fs, .pointer (some ⟨bx, 4, none⟩), .int .i64 ct, .int .i64 (fs + ct), .int .i64 (fs + ct - 1), .bool true, .pointer (some ⟨bx, 0, none⟩), .int .u8 kd, .pointer (some ⟨bx, 1, none⟩), .int .i64 gp, .pointer (some ⟨bx, 2, none⟩), .int .i64 pl, .int .i64 b, .int .i64 (pl + b), undef, undef, undef], defers := [] }
      refine wpS_step (.pointer (some ⟨bx, 3, none⟩)) rfl rfl (sAt_value (SC.pass (by decide)) fun seen w' hD => ex_fpart (b := bx) rfl (by decide) rfl) ?_
      change wpS Try.prog _ _ _ 5 9 { tmps := #[Value.agg (gcs g), .int .i64 b, .pointer (some ⟨w.heap.size, 0, none⟩), .pointer (some ⟨bb, 0, none⟩), .pointer (some ⟨bk, 0, none⟩), .pointer (some ⟨bg, 0, none⟩), .pointer (some ⟨ba, 0, none⟩), .pointer (some ⟨bx, 0, none⟩), .agg (gcs g), .func (.func 34) #[] #[.pointer (some ⟨b0, 0, none⟩)], .agg #[.int .u8 kd, .int .i64 gp, .int .i64 pl, .int .i64 fs, .int .i64 ct], .int .i64 b, .pointer (some ⟨bx, 3, none⟩), .int .i64 fs, .pointer (some ⟨bx, 3, none⟩), .int .i64 fs, .pointer (some ⟨bx, 4, none⟩), .int .i64 ct, .int .i64 (fs + ct), .int .i64 (fs + ct - 1), .bool true, .pointer (some ⟨bx, 0, none⟩), .int .u8 kd, .pointer (some ⟨bx, 1, none⟩), .int .i64 gp, .pointer (some ⟨bx, 2, none⟩), .int .i64 pl, .int .i64 b, .int .i64 (pl + b), .pointer (some ⟨bx, 3, none⟩), undef, undef], defers := [] }
      refine wpS_step (.int .i64 fs) rfl rfl (sAt_value (SC.pass (by decide)) fun seen w' hD => ex_load_int rfl rfl (hD.cx 3 rfl)) ?_
      change wpS Try.prog _ _ _ 4 10 { tmps := #[Value.agg (gcs g), .int .i64 b, .pointer (some ⟨w.heap.size, 0, none⟩), .pointer (some ⟨bb, 0, none⟩), .pointer (some ⟨bk, 0, none⟩), .pointer (some ⟨bg, 0, none⟩), .pointer (some ⟨ba, 0, none⟩), .pointer (some ⟨bx, 0, none⟩), .agg (gcs g), .func (.func 34) #[] #[.pointer (some ⟨b0, 0, none⟩)], .agg #[.int .u8 kd, .int .i64 gp, .int .i64 pl, .int .i64 fs, .int .i64 ct], .int .i64 b, .pointer (some ⟨bx, 3, none⟩), .int .i64 fs, .pointer (some ⟨bx, 3, none⟩), .int .i64 fs, .pointer (some ⟨bx, 4, none⟩), .int .i64 ct, .int .i64 (fs + ct), .int .i64 (fs + ct - 1), .bool true, .pointer (some ⟨bx, 0, none⟩), .int .u8 kd, .pointer (some ⟨bx, 1, none⟩), .int .i64 gp, .pointer (some ⟨bx, 2, none⟩), .int .i64 pl, .int .i64 b, .int .i64 (pl + b), .pointer (some ⟨bx, 3, none⟩), .int .i64 fs, undef], defers := [] }
      refine wpS_step (.int .i64 (pl + b - fs)) rfl rfl (sAt_value (SC.pass (by decide)) fun seen w' hD => ex_sub rfl rfl rfl RA.out.2) ?_
      change wpS Try.prog _ _ _ 3 11 { tmps := #[Value.agg (gcs g), .int .i64 b, .pointer (some ⟨w.heap.size, 0, none⟩), .pointer (some ⟨bb, 0, none⟩), .pointer (some ⟨bk, 0, none⟩), .pointer (some ⟨bg, 0, none⟩), .pointer (some ⟨ba, 0, none⟩), .pointer (some ⟨bx, 0, none⟩), .agg (gcs g), .func (.func 34) #[] #[.pointer (some ⟨b0, 0, none⟩)], .agg #[.int .u8 kd, .int .i64 gp, .int .i64 pl, .int .i64 fs, .int .i64 ct], .int .i64 b, .pointer (some ⟨bx, 3, none⟩), .int .i64 fs, .pointer (some ⟨bx, 3, none⟩), .int .i64 fs, .pointer (some ⟨bx, 4, none⟩), .int .i64 ct, .int .i64 (fs + ct), .int .i64 (fs + ct - 1), .bool true, .pointer (some ⟨bx, 0, none⟩), .int .u8 kd, .pointer (some ⟨bx, 1, none⟩), .int .i64 gp, .pointer (some ⟨bx, 2, none⟩), .int .i64 pl, .int .i64 b, .int .i64 (pl + b), .pointer (some ⟨bx, 3, none⟩), .int .i64 fs, .int .i64 (pl + b - fs)], defers := [] }
      refine wpS_step undef rfl rfl (sAt_skip (fun w' => w'.setCell ⟨bk, 0, none⟩ (.int .u8 kd)) (fun seen w' hs hD => hD.putk ZZ.out) fun seen w' hD => ex_store_u8 rfl rfl rfl hD.ck.1.choose_spec hD.ck.2) ?_
      change wpS Try.prog _ _ _ 2 12 { tmps := #[Value.agg (gcs g), .int .i64 b, .pointer (some ⟨w.heap.size, 0, none⟩), .pointer (some ⟨bb, 0, none⟩), .pointer (some ⟨bk, 0, none⟩), .pointer (some ⟨bg, 0, none⟩), .pointer (some ⟨ba, 0, none⟩), .pointer (some ⟨bx, 0, none⟩), .agg (gcs g), .func (.func 34) #[] #[.pointer (some ⟨b0, 0, none⟩)], .agg #[.int .u8 kd, .int .i64 gp, .int .i64 pl, .int .i64 fs, .int .i64 ct], .int .i64 b, .pointer (some ⟨bx, 3, none⟩), .int .i64 fs, .pointer (some ⟨bx, 3, none⟩), .int .i64 fs, .pointer (some ⟨bx, 4, none⟩), .int .i64 ct, .int .i64 (fs + ct), .int .i64 (fs + ct - 1), .bool true, .pointer (some ⟨bx, 0, none⟩), .int .u8 kd, .pointer (some ⟨bx, 1, none⟩), .int .i64 gp, .pointer (some ⟨bx, 2, none⟩), .int .i64 pl, .int .i64 b, .int .i64 (pl + b), .pointer (some ⟨bx, 3, none⟩), .int .i64 fs, .int .i64 (pl + b - fs)], defers := [] }
      refine wpS_step undef rfl rfl (sAt_skip (fun w' => w'.setCell ⟨bg, 0, none⟩ (.int .i64 gp)) (fun seen w' hs hD => hD.putg ZZ.out) fun seen w' hD => ex_store_int rfl rfl rfl hD.cg.1.choose_spec hD.cg.2) ?_
      change wpS Try.prog _ _ _ 1 13 { tmps := #[Value.agg (gcs g), .int .i64 b, .pointer (some ⟨w.heap.size, 0, none⟩), .pointer (some ⟨bb, 0, none⟩), .pointer (some ⟨bk, 0, none⟩), .pointer (some ⟨bg, 0, none⟩), .pointer (some ⟨ba, 0, none⟩), .pointer (some ⟨bx, 0, none⟩), .agg (gcs g), .func (.func 34) #[] #[.pointer (some ⟨b0, 0, none⟩)], .agg #[.int .u8 kd, .int .i64 gp, .int .i64 pl, .int .i64 fs, .int .i64 ct], .int .i64 b, .pointer (some ⟨bx, 3, none⟩), .int .i64 fs, .pointer (some ⟨bx, 3, none⟩), .int .i64 fs, .pointer (some ⟨bx, 4, none⟩), .int .i64 ct, .int .i64 (fs + ct), .int .i64 (fs + ct - 1), .bool true, .pointer (some ⟨bx, 0, none⟩), .int .u8 kd, .pointer (some ⟨bx, 1, none⟩), .int .i64 gp, .pointer (some ⟨bx, 2, none⟩), .int .i64 pl, .int .i64 b, .int .i64 (pl + b), .pointer (some ⟨bx, 3, none⟩), .int .i64 fs, .int .i64 (pl + b - fs)], defers := [] }
      refine wpS_step undef rfl rfl (sAt_skip (fun w' => w'.setCell ⟨ba, 0, none⟩ (.int .i64 (pl + b - fs))) (fun seen w' hs hD => hD.puta ZZ.out) fun seen w' hD => ex_store_int rfl rfl rfl hD.ca.1.choose_spec hD.ca.2) ?_
      change wpS Try.prog _ _ _ 0 14 { tmps := #[Value.agg (gcs g), .int .i64 b, .pointer (some ⟨w.heap.size, 0, none⟩), .pointer (some ⟨bb, 0, none⟩), .pointer (some ⟨bk, 0, none⟩), .pointer (some ⟨bg, 0, none⟩), .pointer (some ⟨ba, 0, none⟩), .pointer (some ⟨bx, 0, none⟩), .agg (gcs g), .func (.func 34) #[] #[.pointer (some ⟨b0, 0, none⟩)], .agg #[.int .u8 kd, .int .i64 gp, .int .i64 pl, .int .i64 fs, .int .i64 ct], .int .i64 b, .pointer (some ⟨bx, 3, none⟩), .int .i64 fs, .pointer (some ⟨bx, 3, none⟩), .int .i64 fs, .pointer (some ⟨bx, 4, none⟩), .int .i64 ct, .int .i64 (fs + ct), .int .i64 (fs + ct - 1), .bool true, .pointer (some ⟨bx, 0, none⟩), .int .u8 kd, .pointer (some ⟨bx, 1, none⟩), .int .i64 gp, .pointer (some ⟨bx, 2, none⟩), .int .i64 pl, .int .i64 b, .int .i64 (pl + b), .pointer (some ⟨bx, 3, none⟩), .int .i64 fs, .int .i64 (pl + b - fs)], defers := [] }
      intro seen w' hall hD
      obtain ⟨hwc, hkp, hbl⟩ := hD.fin (hall 11 (by decide)) (hall 12 (by decide)) (hall 13 (by decide))
      have HF2 := Lib.hid (And.intro hwc (And.intro hkp hbl))
      clear hwc hkp hbl hD hall
      gi_wp2
      exact ⟨HF2.out.2.1, by rw [HW.out]; exact HF2.out.1, HF2.out.2.2⟩
    · have CW : Hid (∀ W', Calls Try.prog 32 #[.int .i64 b, .int .i64 (partG g k).first, .int .i64 ((partG g k).first + (partG g k).cnt - 1)] W' fun e w' => e = .returned (.bool false) ∧ Below W'.heap.size W' w') := Lib.hid fun W' => within_any _ _ _ W' false (by simp; omega)
      have HH := Lib.hid h1
      clear h1
      gi_wp2_with (gi_at_call 32; refine (CallsIn.inRound l (lift.out _ _ _ _ _ (CW.out _))).mono ?_; rintro e w3 ⟨rfl, hb3⟩)
      exact ⟨Kept.of_below hb3, HN.out.below hb3 HN.out.b.lt HN.out.k.lt HN.out.g.lt HN.out.a.lt, HB.out.trans (hb3.mono HB.out.size), fun j hj => by
        rcases Nat.lt_or_ge j k with u | u
        · exact HNO.out j u
        · obtain rfl : j = k := by omega
          exact HH.out⟩
  case done =>
    rintro D W hD ⟨hn, hB, hno⟩ hK
    have HN := Lib.hid hn
    have HB := Lib.hid hB
    have HK := Lib.hid hK
    have HD := Lib.hid hD
    have HW := Lib.hid (what_none hno)
    have e1 := hn.k.cell
    have e2 := hn.g.cell
    have e3 := hn.a.cell
    have f1 := hn.k.frozen
    have f2 := hn.g.frozen
    have f3 := hn.a.frozen
    have ne1 : bk ≠ bg := by have := Z.out; omega
    have ne2 : bk ≠ ba := by have := Z.out; omega
    have ne3 : bg ≠ ba := by have := Z.out; omega
    clear hn hB hK hD hno
    gi_wp2
    have hd := HN.out.done 0 0 0 (by have := Z.out; omega) (by have := Z.out; omega) (by have := Z.out; omega)
    have hb := ((HB.out.setCell (p := ⟨bk, 0, none⟩) (by have := Z.out; show w.heap.size ≤ bk; omega) (.int .u8 0)).setCell (p := ⟨bg, 0, none⟩) (by have := Z.out; show w.heap.size ≤ bg; omega) (.int .i64 0)).setCell (p := ⟨ba, 0, none⟩) (by have := Z.out; show w.heap.size ≤ ba; omega) (.int .i64 0)
    have hk : (((W.setCell ⟨bk, 0, none⟩ (.int .u8 0)).setCell ⟨bg, 0, none⟩ (.int .i64 0)).setCell ⟨ba, 0, none⟩ (.int .i64 0)).heap[D]? = some (.deferred (some [])) := (Below.heap_setCell _ _ _ _ (by have := Z.out; have := HD.out; show D ≠ ba; omega)).trans ((Below.heap_setCell _ _ _ _ (by have := Z.out; have := HD.out; show D ≠ bg; omega)).trans ((Below.heap_setCell _ _ _ _ (by have := Z.out; have := HD.out; show D ≠ bk; omega)).trans HK.out))
    generalize ((W.setCell ⟨bk, 0, none⟩ (.int .u8 0)).setCell ⟨bg, 0, none⟩ (.int .i64 0)).setCell ⟨ba, 0, none⟩ (.int .i64 0) = W3 at hd hb hk ⊢
    refine leave_mark hk (v := .tuple #[.int .u8 0, .int .i64 0, .int .i64 0]) ?_ ⟨by rw [HW.out], hb.trans (below_putObj W3 (by have := HD.out; have := Z.out; omega) _)⟩
    exact results_what hd (by have := Z.out; have := HD.out; omega) (by have := Z.out; have := HD.out; omega) (by have := Z.out; have := HD.out; omega)
  case stop =>
    rintro D k W hD hk ⟨hn, hB⟩ hK
    have HN := Lib.hid hn
    have HB := Lib.hid hB
    have HK := Lib.hid hK
    have HD := Lib.hid hD
    clear hn hB hK hD
    gi_wp2
    refine leave_mark HK.out ?_ ⟨rfl, HB.out.trans (below_putObj W (by have := HD.out; have := Z.out; omega) _)⟩
    exact results_what HN.out (by have := Z.out; have := HD.out; omega) (by have := Z.out; have := HD.out; omega) (by have := Z.out; have := HD.out; omega)
theorem pWhat (g : GeoV) (b : Int) (w : World) (hg : g.Fits) (hb : I64 b) : Calls Try.prog 12 #[.agg (gcs g), .int .i64 b] w fun e w' => e = .returned (.tuple #[.int .u8 (whatG g b).1, .int .i64 (whatG g b).2.1, .int .i64 (whatG g b).2.2]) ∧ Below w.heap.size w w' :=
  callsIn_wide.1 (what_in Fence.wide 6 rfl (fun _ => trivial) rfl (Nat.le_refl _) g b hg hb w)
end Go.Proofs.Ytamghbmeedbbgaa
