import Derived.Test.YtmlmpflfejbbcaaDoorBaseG
import Derived.Test.YtmlmpflfejbbcaaDoorBaseK
import Derived.Deep.DeepCutAuto
import Derived.Deep.CutRange
import Derived.Deep.CutBlock
import Derived.Shelf.Abstract
namespace Go.Proofs.YtmlmpflfejbbcaaDoor
open Go.RowKit Go.BigFrame

/-! The parts of an image, as the program goes through them. -/
structure PartV where
  kind : Int
  grp : Int
  plc : Int
  first : Int
  cnt : Int
def pcs (p : PartV) : Array Value := #[.int .u8 p.kind, .int .i64 p.grp, .int .i64 p.plc, .int .i64 p.first, .int .i64 p.cnt]
def ownG (g : GeoV) : Int := 2 + g.ino / 4
def baseG (g : GeoV) (q : Nat) : Int := 2 + g.jr + q * g.sz
def inG (g : GeoV) (q : Nat) : Nat → PartV
  | 0 => ⟨4, q, 0, baseG g q, 1⟩
  | 1 => ⟨5, q, 1, baseG g q + 1, 1⟩
  | 2 => ⟨6, q, 2, baseG g q + 2, ownG g - 2⟩
  | _ => ⟨7, q, ownG g, baseG g q + ownG g, g.sz - ownG g⟩
def partG (g : GeoV) : Nat → PartV
  | 0 => ⟨1, 0, 0, 0, 1⟩
  | 1 => ⟨2, 0, 0, 1, 1⟩
  | 2 => ⟨3, 0, 0, 2, g.jr⟩
  | k + 3 => inG g (k / 4) (k % 4)
def numG (g : GeoV) : Nat := if May g then 3 + 4 * g.gr.toNat else 0

attribute [local go_sem] Oper.semAt_some
set_option maxRecDepth 100000 in
set_option maxHeartbeats 1000000 in
theorem next_in (F : Fence) (m : Nat) (hF : ∀ f, F.fn f) (hro : F.round = none) (hm : 1 ≤ m) (l b1 b2 : Nat) (p : PartV) (W : World) (R : Ending → World → Prop) (hne : b1 ≠ b2) (h1 : Boxed W b1 3 (.int .i64 p.first)) (h2 : Boxed W b2 108 (.func (.yield l) #[] #[])) (hk : 0 ≤ p.kind ∧ p.kind ≤ 255) (hf : I64 p.first) (hc : I64 (p.first + p.cnt))
    (hy : ∀ W1, Below b1 W W1 → W.grownBy W1 (some b1) → Boxed W1 b1 3 (.int .i64 (p.first + p.cnt)) → YieldAt F (m - 1) Tryd.prog l #[.agg (pcs p)] W1 R) (hR : ∀ e W', R e W' → ∃ b, e = .returned (.bool b)) :
    CallsIn F m Tryd.prog 65 #[.int .u8 p.kind, .int .i64 p.grp, .int .i64 p.plc, .int .i64 p.cnt, .pointer (some ⟨b1, 0, none⟩), .pointer (some ⟨b2, 0, none⟩)] W R := by
  obtain ⟨kd, gp, pl, fs, ct⟩ := p
  have HY := Lib.hid hy
  have HR := Lib.hid hR
  have c1 := h1.cell
  have c2 := h2.cell
  have f1 := h1.frozen
  have l1 := h1.lt
  have l2 := h2.lt
  have HF := Lib.hid hF
  unfold I64 at hf hc
  clear hy hR
  refine callsIn_of_wp Tryd.func65 rfl (hF _) ?_ hro
  simp only [Tryd.ntmps65, List.size_toArray, List.length_cons, List.length_nil, Nat.reduceAdd, Nat.reduceSub, Array.replicate_succ, Array.replicate_zero, List.push_toArray, List.append_toArray, List.nil_append, List.cons_append]
  gi_wp2_with fail
  have hw : wrap64 (fs + ct) = fs + ct := by unfold wrap64; omega
  rw [hw]
  have hg : W.grownBy ((W.setCell ⟨b1, 0, none⟩ (.int .i64 (fs + ct))).alloc (.cells #[.int .u8 kd, .int .i64 gp, .int .i64 pl, .int .i64 fs, .int .i64 ct] 95)) (some b1) :=
    ⟨rfl, rfl, rfl, by simp [World.setCell], fun k hk hn => (Below.heap_alloc _ _ _ (by simp [World.setCell]; omega)).trans (Below.heap_setCell _ _ _ _ (fun e => hn (by rw [e])))⟩
  have hb : Below b1 W ((W.setCell ⟨b1, 0, none⟩ (.int .i64 (fs + ct))).alloc (.cells #[.int .u8 kd, .int .i64 gp, .int .i64 pl, .int .i64 fs, .int .i64 ct] 95)) :=
    ((Below.refl b1 W).setCell (p := ⟨b1, 0, none⟩) (Nat.le_refl _) _).alloc (by simp [World.setCell]; omega) _
  obtain ⟨fn, tmps, assign, body, hy, hr⟩ := HY.out _ hb hg ((h1.set _).alloc _)
  have hy2 : (Instr.yield l #[.agg #[.int .u8 kd, .int .i64 gp, .int .i64 pl, .int .i64 fs, .int .i64 ct]]).run Tryd.prog ((W.setCell ⟨b1, 0, none⟩ (.int .i64 (fs + ct))).alloc (.cells #[.int .u8 kd, .int .i64 gp, .int .i64 pl, .int .i64 fs, .int .i64 ct] 95)) = _ := hy
  rw [hy2]
  refine ⟨fun _ => hm, hr.mono ?_⟩
  intro e W' h
  obtain ⟨b, rfl⟩ := HR.out _ _ h
  clear hy hy2 hr hg hb
  gi_wp2
  exact h
end Go.Proofs.YtmlmpflfejbbcaaDoor
namespace Go.Proofs.YtmlmpflfejbbcaaDoor
open Go.RowKit Go.BigFrame

/-! The program's own small functions: within, own, May. -/
theorem within_any (n a b : Int) (w : World) (t : Bool) (h : (decide (a ≤ n) && decide (n ≤ b)) = t) : Calls Tryd.prog 41 #[.int .i64 n, .int .i64 a, .int .i64 b] w fun e w' => e = .returned (.bool t) ∧ Below w.heap.size w w' := by
  have B0 := Lib.hid (Below.refl w.heap.size w)
  subst h
  cases t : decide (a ≤ n)
  · go_enter Tryd.func41, Tryd.ntmps41
    go_wp2_with fail
    go_ret
    exact ⟨by simp, B0.out⟩
  · go_enter Tryd.func41, Tryd.ntmps41
    go_wp2_with fail
    go_ret
    exact ⟨by simp, B0.out⟩
set_option maxRecDepth 100000 in
theorem own_any (g : GeoV) (w : World) (h0 : 4 ≤ g.ino) (h1 : g.ino ≤ 64) : Calls Tryd.prog 42 #[.agg (gcs g)] w fun e w' => e = .returned (.int .i64 (ownG g)) ∧ Below w.heap.size w w' := by
  have B0 := Lib.hid ((Below.refl w.heap.size w).alloc (Nat.le_refl _) (.cells (gcs g) 23))
  have V0 : GVar (w.alloc (.cells (gcs g) 23)) w.heap.size g := heap_alloc_new w _
  have c2 := V0.c2
  have E : Hid (ownG g = 2 + g.ino / 4) := Lib.hid rfl
  have t1 : wrap64 (g.ino.tdiv 4) = g.ino / 4 := by rw [Int.tdiv_eq_ediv_of_nonneg (by omega)]; unfold wrap64; omega
  clear V0
  go_enter Tryd.func42, Tryd.ntmps42
  go_wp2_with fail
  go_ret
  refine ⟨?_, B0.out⟩
  rw [E.out]
  try simp
  try omega

set_option maxHeartbeats 4000000

set_option maxRecDepth 100000 in
theorem may_0 (g : GeoV) (w : World) (hg : g.Fits)  (ha : ¬ (1 ≤ g.gr ∧ g.gr ≤ 4)) : Calls Tryd.prog 21 #[.agg (gcs g)] w fun e w' => e = .returned (.bool false) ∧ Below w.heap.size w w' := by
  have B0 := Lib.hid ((Below.refl w.heap.size w).alloc (Nat.le_refl _) (.cells (gcs g) 23))
  have V0 : Hid (GVar (w.alloc (.cells (gcs g) 23)) w.heap.size g) := Lib.hid (heap_alloc_new w _)
  have Ca : Hid (∀ W, Calls Tryd.prog 41 #[.int .i64 g.gr, .int .i64 1, .int .i64 4] W fun e w' => e = .returned (.bool false) ∧ Below W.heap.size W w') := Lib.hid fun W => within_any _ _ _ W false (by simp; omega)
  have HH := Lib.hid hg
  clear hg
  go_enter Tryd.func21, Tryd.ntmps21
  go_wp2_with fail
  generalize w.alloc (.cells (gcs g) 23) = w1 at V0 B0 ⊢
  have c0 := V0.out.c0; have c1 := V0.out.c1; have c2 := V0.out.c2; have c3 := V0.out.c3; have hlt := V0.out.lt
  refine wp_region_class (More w1) (by kernel_rfl) (by kernel_rfl) (More.drew _) ?_
  repeat (first | go_big_quiet_skip | (go_big_quiet_want; first | (refine quiet_geo _ rfl _ _ rfl g (by intro w' hw'; exact (V0.out.below hw').at) ?_; simp only [Act.put, List.setIfInBounds_toArray, List.set_cons_zero, List.set_cons_succ]; go_big_quiet_on) | (refine quiet_int _ rfl _ rfl _ (by intro w' hw'; first | exact (hw'.cell (p := ⟨_, _, none⟩) hlt).trans c0 | exact (hw'.cell (p := ⟨_, _, none⟩) hlt).trans c1 | exact (hw'.cell (p := ⟨_, _, none⟩) hlt).trans c2 | exact (hw'.cell (p := ⟨_, _, none⟩) hlt).trans c3) ?_; simp only [Act.put, List.setIfInBounds_toArray, List.set_cons_zero, List.set_cons_succ]; go_big_quiet_on) | (go_big_quiet_op; first | go_big_quiet_on | (apply Exists.intro; refine ⟨fun _ _ => ?_, ?_⟩; (with_reducible exact rfl); go_big_quiet_on) | go_big_quiet_call ((intro hC; (first | (with_reducible refine (Ca.out _).mono ?_)); exact fun e w' h => ⟨h.1, hC.on h.2⟩)))))
  refine wpQuiet_nil ?_
  intro w4 hw4
  have B4 := Lib.hid (B0.out.trans (Below.mono hw4 B0.out.size))
  clear hw4
  go_wp2
  go_ret
  exact ⟨rfl, B4.out⟩
set_option maxRecDepth 100000 in
theorem may_1 (g : GeoV) (w : World) (hg : g.Fits) (ha : 1 ≤ g.gr ∧ g.gr ≤ 4) (hb : ¬ (16 ≤ g.sz ∧ g.sz ≤ 512)) : Calls Tryd.prog 21 #[.agg (gcs g)] w fun e w' => e = .returned (.bool false) ∧ Below w.heap.size w w' := by
  have B0 := Lib.hid ((Below.refl w.heap.size w).alloc (Nat.le_refl _) (.cells (gcs g) 23))
  have V0 : Hid (GVar (w.alloc (.cells (gcs g) 23)) w.heap.size g) := Lib.hid (heap_alloc_new w _)
  have Ca : Hid (∀ W, Calls Tryd.prog 41 #[.int .i64 g.gr, .int .i64 1, .int .i64 4] W fun e w' => e = .returned (.bool true) ∧ Below W.heap.size W w') := Lib.hid fun W => within_any _ _ _ W true (by simp; omega)
  have Cb : Hid (∀ W, Calls Tryd.prog 41 #[.int .i64 g.sz, .int .i64 16, .int .i64 512] W fun e w' => e = .returned (.bool false) ∧ Below W.heap.size W w') := Lib.hid fun W => within_any _ _ _ W false (by simp; omega)
  have HH := Lib.hid hg
  clear hg
  go_enter Tryd.func21, Tryd.ntmps21
  go_wp2_with fail
  generalize w.alloc (.cells (gcs g) 23) = w1 at V0 B0 ⊢
  have c0 := V0.out.c0; have c1 := V0.out.c1; have c2 := V0.out.c2; have c3 := V0.out.c3; have hlt := V0.out.lt
  refine wp_region_class (More w1) (by kernel_rfl) (by kernel_rfl) (More.drew _) ?_
  repeat (first | go_big_quiet_skip | (go_big_quiet_want; first | (refine quiet_geo _ rfl _ _ rfl g (by intro w' hw'; exact (V0.out.below hw').at) ?_; simp only [Act.put, List.setIfInBounds_toArray, List.set_cons_zero, List.set_cons_succ]; go_big_quiet_on) | (refine quiet_int _ rfl _ rfl _ (by intro w' hw'; first | exact (hw'.cell (p := ⟨_, _, none⟩) hlt).trans c0 | exact (hw'.cell (p := ⟨_, _, none⟩) hlt).trans c1 | exact (hw'.cell (p := ⟨_, _, none⟩) hlt).trans c2 | exact (hw'.cell (p := ⟨_, _, none⟩) hlt).trans c3) ?_; simp only [Act.put, List.setIfInBounds_toArray, List.set_cons_zero, List.set_cons_succ]; go_big_quiet_on) | (go_big_quiet_op; first | go_big_quiet_on | (apply Exists.intro; refine ⟨fun _ _ => ?_, ?_⟩; (with_reducible exact rfl); go_big_quiet_on) | go_big_quiet_call ((intro hC; (first | (with_reducible refine (Ca.out _).mono ?_) | (with_reducible refine (Cb.out _).mono ?_)); exact fun e w' h => ⟨h.1, hC.on h.2⟩)))))
  refine wpQuiet_nil ?_
  intro w4 hw4
  have B4 := Lib.hid (B0.out.trans (Below.mono hw4 B0.out.size))
  clear hw4
  go_wp2
  go_ret
  exact ⟨rfl, B4.out⟩
set_option maxRecDepth 100000 in
theorem may_2 (g : GeoV) (w : World) (hg : g.Fits) (ha : 1 ≤ g.gr ∧ g.gr ≤ 4) (hb : 16 ≤ g.sz ∧ g.sz ≤ 512) (hc : ¬ (4 ≤ g.ino ∧ g.ino ≤ 64)) : Calls Tryd.prog 21 #[.agg (gcs g)] w fun e w' => e = .returned (.bool false) ∧ Below w.heap.size w w' := by
  have B0 := Lib.hid ((Below.refl w.heap.size w).alloc (Nat.le_refl _) (.cells (gcs g) 23))
  have V0 : Hid (GVar (w.alloc (.cells (gcs g) 23)) w.heap.size g) := Lib.hid (heap_alloc_new w _)
  have Ca : Hid (∀ W, Calls Tryd.prog 41 #[.int .i64 g.gr, .int .i64 1, .int .i64 4] W fun e w' => e = .returned (.bool true) ∧ Below W.heap.size W w') := Lib.hid fun W => within_any _ _ _ W true (by simp; omega)
  have Cb : Hid (∀ W, Calls Tryd.prog 41 #[.int .i64 g.sz, .int .i64 16, .int .i64 512] W fun e w' => e = .returned (.bool true) ∧ Below W.heap.size W w') := Lib.hid fun W => within_any _ _ _ W true (by simp; omega)
  have Cc : Hid (∀ W, Calls Tryd.prog 41 #[.int .i64 g.ino, .int .i64 4, .int .i64 64] W fun e w' => e = .returned (.bool false) ∧ Below W.heap.size W w') := Lib.hid fun W => within_any _ _ _ W false (by simp; omega)
  have HH := Lib.hid hg
  clear hg
  go_enter Tryd.func21, Tryd.ntmps21
  go_wp2_with fail
  generalize w.alloc (.cells (gcs g) 23) = w1 at V0 B0 ⊢
  have c0 := V0.out.c0; have c1 := V0.out.c1; have c2 := V0.out.c2; have c3 := V0.out.c3; have hlt := V0.out.lt
  refine wp_region_class (More w1) (by kernel_rfl) (by kernel_rfl) (More.drew _) ?_
  repeat (first | go_big_quiet_skip | (go_big_quiet_want; first | (refine quiet_geo _ rfl _ _ rfl g (by intro w' hw'; exact (V0.out.below hw').at) ?_; simp only [Act.put, List.setIfInBounds_toArray, List.set_cons_zero, List.set_cons_succ]; go_big_quiet_on) | (refine quiet_int _ rfl _ rfl _ (by intro w' hw'; first | exact (hw'.cell (p := ⟨_, _, none⟩) hlt).trans c0 | exact (hw'.cell (p := ⟨_, _, none⟩) hlt).trans c1 | exact (hw'.cell (p := ⟨_, _, none⟩) hlt).trans c2 | exact (hw'.cell (p := ⟨_, _, none⟩) hlt).trans c3) ?_; simp only [Act.put, List.setIfInBounds_toArray, List.set_cons_zero, List.set_cons_succ]; go_big_quiet_on) | (go_big_quiet_op; first | go_big_quiet_on | (apply Exists.intro; refine ⟨fun _ _ => ?_, ?_⟩; (with_reducible exact rfl); go_big_quiet_on) | go_big_quiet_call ((intro hC; (first | (with_reducible refine (Ca.out _).mono ?_) | (with_reducible refine (Cb.out _).mono ?_) | (with_reducible refine (Cc.out _).mono ?_)); exact fun e w' h => ⟨h.1, hC.on h.2⟩)))))
  refine wpQuiet_nil ?_
  intro w4 hw4
  have B4 := Lib.hid (B0.out.trans (Below.mono hw4 B0.out.size))
  clear hw4
  go_wp2
  go_ret
  exact ⟨rfl, B4.out⟩
set_option maxRecDepth 100000 in
theorem may_3 (g : GeoV) (w : World) (hg : g.Fits) (ha : 1 ≤ g.gr ∧ g.gr ≤ 4) (hb : 16 ≤ g.sz ∧ g.sz ≤ 512) (hc : 4 ≤ g.ino ∧ g.ino ≤ 64) (hd : ¬ (g.ino % 4 = 0)) : Calls Tryd.prog 21 #[.agg (gcs g)] w fun e w' => e = .returned (.bool false) ∧ Below w.heap.size w w' := by
  have B0 := Lib.hid ((Below.refl w.heap.size w).alloc (Nat.le_refl _) (.cells (gcs g) 23))
  have V0 : Hid (GVar (w.alloc (.cells (gcs g) 23)) w.heap.size g) := Lib.hid (heap_alloc_new w _)
  have Ca : Hid (∀ W, Calls Tryd.prog 41 #[.int .i64 g.gr, .int .i64 1, .int .i64 4] W fun e w' => e = .returned (.bool true) ∧ Below W.heap.size W w') := Lib.hid fun W => within_any _ _ _ W true (by simp; omega)
  have Cb : Hid (∀ W, Calls Tryd.prog 41 #[.int .i64 g.sz, .int .i64 16, .int .i64 512] W fun e w' => e = .returned (.bool true) ∧ Below W.heap.size W w') := Lib.hid fun W => within_any _ _ _ W true (by simp; omega)
  have Cc : Hid (∀ W, Calls Tryd.prog 41 #[.int .i64 g.ino, .int .i64 4, .int .i64 64] W fun e w' => e = .returned (.bool true) ∧ Below W.heap.size W w') := Lib.hid fun W => within_any _ _ _ W true (by simp; omega)
  have td : (g.ino % 4 == 0) = false := by simp; omega
  have HH := Lib.hid hg
  clear hg
  go_enter Tryd.func21, Tryd.ntmps21
  go_wp2_with fail
  generalize w.alloc (.cells (gcs g) 23) = w1 at V0 B0 ⊢
  have c0 := V0.out.c0; have c1 := V0.out.c1; have c2 := V0.out.c2; have c3 := V0.out.c3; have hlt := V0.out.lt
  refine wp_region_class (More w1) (by kernel_rfl) (by kernel_rfl) (More.drew _) ?_
  repeat (first | go_big_quiet_skip | (go_big_quiet_want; first | (refine quiet_geo _ rfl _ _ rfl g (by intro w' hw'; exact (V0.out.below hw').at) ?_; simp only [Act.put, List.setIfInBounds_toArray, List.set_cons_zero, List.set_cons_succ]; go_big_quiet_on) | (refine quiet_int _ rfl _ rfl _ (by intro w' hw'; first | exact (hw'.cell (p := ⟨_, _, none⟩) hlt).trans c0 | exact (hw'.cell (p := ⟨_, _, none⟩) hlt).trans c1 | exact (hw'.cell (p := ⟨_, _, none⟩) hlt).trans c2 | exact (hw'.cell (p := ⟨_, _, none⟩) hlt).trans c3) ?_; simp only [Act.put, List.setIfInBounds_toArray, List.set_cons_zero, List.set_cons_succ]; go_big_quiet_on) | (go_big_quiet_op; first | go_big_quiet_on | (apply Exists.intro; refine ⟨fun _ _ => ?_, ?_⟩; (with_reducible exact rfl); go_big_quiet_on) | go_big_quiet_call ((intro hC; (first | (with_reducible refine (Ca.out _).mono ?_) | (with_reducible refine (Cb.out _).mono ?_) | (with_reducible refine (Cc.out _).mono ?_)); exact fun e w' h => ⟨h.1, hC.on h.2⟩)))))
  refine wpQuiet_nil ?_
  intro w4 hw4
  have B4 := Lib.hid (B0.out.trans (Below.mono hw4 B0.out.size))
  clear hw4
  go_wp2
  go_ret
  exact ⟨rfl, B4.out⟩
set_option maxRecDepth 100000 in
theorem may_4 (g : GeoV) (w : World) (hg : g.Fits) (ha : 1 ≤ g.gr ∧ g.gr ≤ 4) (hb : 16 ≤ g.sz ∧ g.sz ≤ 512) (hc : 4 ≤ g.ino ∧ g.ino ≤ 64) (hd : g.ino % 4 = 0) (he : ¬ (40 ≤ g.jr ∧ g.jr ≤ 256)) : Calls Tryd.prog 21 #[.agg (gcs g)] w fun e w' => e = .returned (.bool false) ∧ Below w.heap.size w w' := by
  have B0 := Lib.hid ((Below.refl w.heap.size w).alloc (Nat.le_refl _) (.cells (gcs g) 23))
  have V0 : Hid (GVar (w.alloc (.cells (gcs g) 23)) w.heap.size g) := Lib.hid (heap_alloc_new w _)
  have Ca : Hid (∀ W, Calls Tryd.prog 41 #[.int .i64 g.gr, .int .i64 1, .int .i64 4] W fun e w' => e = .returned (.bool true) ∧ Below W.heap.size W w') := Lib.hid fun W => within_any _ _ _ W true (by simp; omega)
  have Cb : Hid (∀ W, Calls Tryd.prog 41 #[.int .i64 g.sz, .int .i64 16, .int .i64 512] W fun e w' => e = .returned (.bool true) ∧ Below W.heap.size W w') := Lib.hid fun W => within_any _ _ _ W true (by simp; omega)
  have Cc : Hid (∀ W, Calls Tryd.prog 41 #[.int .i64 g.ino, .int .i64 4, .int .i64 64] W fun e w' => e = .returned (.bool true) ∧ Below W.heap.size W w') := Lib.hid fun W => within_any _ _ _ W true (by simp; omega)
  have td : (g.ino % 4 == 0) = true := by simp; omega
  have Ce : Hid (∀ W, Calls Tryd.prog 41 #[.int .i64 g.jr, .int .i64 40, .int .i64 256] W fun e w' => e = .returned (.bool false) ∧ Below W.heap.size W w') := Lib.hid fun W => within_any _ _ _ W false (by simp; omega)
  have HH := Lib.hid hg
  clear hg
  go_enter Tryd.func21, Tryd.ntmps21
  go_wp2_with fail
  generalize w.alloc (.cells (gcs g) 23) = w1 at V0 B0 ⊢
  have c0 := V0.out.c0; have c1 := V0.out.c1; have c2 := V0.out.c2; have c3 := V0.out.c3; have hlt := V0.out.lt
  refine wp_region_class (More w1) (by kernel_rfl) (by kernel_rfl) (More.drew _) ?_
  repeat (first | go_big_quiet_skip | (go_big_quiet_want; first | (refine quiet_geo _ rfl _ _ rfl g (by intro w' hw'; exact (V0.out.below hw').at) ?_; simp only [Act.put, List.setIfInBounds_toArray, List.set_cons_zero, List.set_cons_succ]; go_big_quiet_on) | (refine quiet_int _ rfl _ rfl _ (by intro w' hw'; first | exact (hw'.cell (p := ⟨_, _, none⟩) hlt).trans c0 | exact (hw'.cell (p := ⟨_, _, none⟩) hlt).trans c1 | exact (hw'.cell (p := ⟨_, _, none⟩) hlt).trans c2 | exact (hw'.cell (p := ⟨_, _, none⟩) hlt).trans c3) ?_; simp only [Act.put, List.setIfInBounds_toArray, List.set_cons_zero, List.set_cons_succ]; go_big_quiet_on) | (go_big_quiet_op; first | go_big_quiet_on | (apply Exists.intro; refine ⟨fun _ _ => ?_, ?_⟩; (with_reducible exact rfl); go_big_quiet_on) | go_big_quiet_call ((intro hC; (first | (with_reducible refine (Ca.out _).mono ?_) | (with_reducible refine (Cb.out _).mono ?_) | (with_reducible refine (Cc.out _).mono ?_) | (with_reducible refine (Ce.out _).mono ?_)); exact fun e w' h => ⟨h.1, hC.on h.2⟩)))))
  refine wpQuiet_nil ?_
  intro w4 hw4
  have B4 := Lib.hid (B0.out.trans (Below.mono hw4 B0.out.size))
  clear hw4
  go_wp2
  go_ret
  exact ⟨rfl, B4.out⟩
set_option maxRecDepth 100000 in
theorem may_5 (g : GeoV) (w : World) (hg : g.Fits) (ha : 1 ≤ g.gr ∧ g.gr ≤ 4) (hb : 16 ≤ g.sz ∧ g.sz ≤ 512) (hc : 4 ≤ g.ino ∧ g.ino ≤ 64) (hd : g.ino % 4 = 0) (he : 40 ≤ g.jr ∧ g.jr ≤ 256) (hf : ¬ (ownG g < g.sz)) : Calls Tryd.prog 21 #[.agg (gcs g)] w fun e w' => e = .returned (.bool false) ∧ Below w.heap.size w w' := by
  have B0 := Lib.hid ((Below.refl w.heap.size w).alloc (Nat.le_refl _) (.cells (gcs g) 23))
  have V0 : Hid (GVar (w.alloc (.cells (gcs g) 23)) w.heap.size g) := Lib.hid (heap_alloc_new w _)
  have Ca : Hid (∀ W, Calls Tryd.prog 41 #[.int .i64 g.gr, .int .i64 1, .int .i64 4] W fun e w' => e = .returned (.bool true) ∧ Below W.heap.size W w') := Lib.hid fun W => within_any _ _ _ W true (by simp; omega)
  have Cb : Hid (∀ W, Calls Tryd.prog 41 #[.int .i64 g.sz, .int .i64 16, .int .i64 512] W fun e w' => e = .returned (.bool true) ∧ Below W.heap.size W w') := Lib.hid fun W => within_any _ _ _ W true (by simp; omega)
  have Cc : Hid (∀ W, Calls Tryd.prog 41 #[.int .i64 g.ino, .int .i64 4, .int .i64 64] W fun e w' => e = .returned (.bool true) ∧ Below W.heap.size W w') := Lib.hid fun W => within_any _ _ _ W true (by simp; omega)
  have td : (g.ino % 4 == 0) = true := by simp; omega
  have Ce : Hid (∀ W, Calls Tryd.prog 41 #[.int .i64 g.jr, .int .i64 40, .int .i64 256] W fun e w' => e = .returned (.bool true) ∧ Below W.heap.size W w') := Lib.hid fun W => within_any _ _ _ W true (by simp; omega)
  have Cf : Hid (∀ W, Calls Tryd.prog 42 #[.agg (gcs g)] W fun e w' => e = .returned (.int .i64 (ownG g)) ∧ Below W.heap.size W w') := Lib.hid fun W => own_any g W (by omega) (by omega)
  have tf : decide (ownG g < g.sz) = false := by simp; omega
  have HH := Lib.hid hg
  clear hg
  go_enter Tryd.func21, Tryd.ntmps21
  go_wp2_with fail
  generalize w.alloc (.cells (gcs g) 23) = w1 at V0 B0 ⊢
  have c0 := V0.out.c0; have c1 := V0.out.c1; have c2 := V0.out.c2; have c3 := V0.out.c3; have hlt := V0.out.lt
  refine wp_region_class (More w1) (by kernel_rfl) (by kernel_rfl) (More.drew _) ?_
  repeat (first | go_big_quiet_skip | (go_big_quiet_want; first | (refine quiet_geo _ rfl _ _ rfl g (by intro w' hw'; exact (V0.out.below hw').at) ?_; simp only [Act.put, List.setIfInBounds_toArray, List.set_cons_zero, List.set_cons_succ]; go_big_quiet_on) | (refine quiet_int _ rfl _ rfl _ (by intro w' hw'; first | exact (hw'.cell (p := ⟨_, _, none⟩) hlt).trans c0 | exact (hw'.cell (p := ⟨_, _, none⟩) hlt).trans c1 | exact (hw'.cell (p := ⟨_, _, none⟩) hlt).trans c2 | exact (hw'.cell (p := ⟨_, _, none⟩) hlt).trans c3) ?_; simp only [Act.put, List.setIfInBounds_toArray, List.set_cons_zero, List.set_cons_succ]; go_big_quiet_on) | (go_big_quiet_op; first | go_big_quiet_on | (apply Exists.intro; refine ⟨fun _ _ => ?_, ?_⟩; (with_reducible exact rfl); go_big_quiet_on) | go_big_quiet_call ((intro hC; (first | (with_reducible refine (Ca.out _).mono ?_) | (with_reducible refine (Cb.out _).mono ?_) | (with_reducible refine (Cc.out _).mono ?_) | (with_reducible refine (Ce.out _).mono ?_) | (with_reducible refine (Cf.out _).mono ?_)); exact fun e w' h => ⟨h.1, hC.on h.2⟩)))))
  refine wpQuiet_nil ?_
  intro w4 hw4
  have B4 := Lib.hid (B0.out.trans (Below.mono hw4 B0.out.size))
  clear hw4
  go_wp2
  go_ret
  exact ⟨rfl, B4.out⟩
set_option maxRecDepth 100000 in
theorem may_6 (g : GeoV) (w : World) (hg : g.Fits) (ha : 1 ≤ g.gr ∧ g.gr ≤ 4) (hb : 16 ≤ g.sz ∧ g.sz ≤ 512) (hc : 4 ≤ g.ino ∧ g.ino ≤ 64) (hd : g.ino % 4 = 0) (he : 40 ≤ g.jr ∧ g.jr ≤ 256) (hf : ownG g < g.sz) (hk : ¬ (2 + g.jr + g.gr * g.sz ≤ 2048)) : Calls Tryd.prog 21 #[.agg (gcs g)] w fun e w' => e = .returned (.bool false) ∧ Below w.heap.size w w' := by
  have B0 := Lib.hid ((Below.refl w.heap.size w).alloc (Nat.le_refl _) (.cells (gcs g) 23))
  have V0 : Hid (GVar (w.alloc (.cells (gcs g) 23)) w.heap.size g) := Lib.hid (heap_alloc_new w _)
  have Ca : Hid (∀ W, Calls Tryd.prog 41 #[.int .i64 g.gr, .int .i64 1, .int .i64 4] W fun e w' => e = .returned (.bool true) ∧ Below W.heap.size W w') := Lib.hid fun W => within_any _ _ _ W true (by simp; omega)
  have Cb : Hid (∀ W, Calls Tryd.prog 41 #[.int .i64 g.sz, .int .i64 16, .int .i64 512] W fun e w' => e = .returned (.bool true) ∧ Below W.heap.size W w') := Lib.hid fun W => within_any _ _ _ W true (by simp; omega)
  have Cc : Hid (∀ W, Calls Tryd.prog 41 #[.int .i64 g.ino, .int .i64 4, .int .i64 64] W fun e w' => e = .returned (.bool true) ∧ Below W.heap.size W w') := Lib.hid fun W => within_any _ _ _ W true (by simp; omega)
  have td : (g.ino % 4 == 0) = true := by simp; omega
  have Ce : Hid (∀ W, Calls Tryd.prog 41 #[.int .i64 g.jr, .int .i64 40, .int .i64 256] W fun e w' => e = .returned (.bool true) ∧ Below W.heap.size W w') := Lib.hid fun W => within_any _ _ _ W true (by simp; omega)
  have Cf : Hid (∀ W, Calls Tryd.prog 42 #[.agg (gcs g)] W fun e w' => e = .returned (.int .i64 (ownG g)) ∧ Below W.heap.size W w') := Lib.hid fun W => own_any g W (by omega) (by omega)
  have tf : decide (ownG g < g.sz) = true := by simp; omega
  have p1 : 0 ≤ g.gr * g.sz := Int.mul_nonneg (by omega) (by omega)
  have p2 : g.gr * g.sz ≤ 4 * 512 := Int.mul_le_mul (by omega) (by omega) (by omega) (by omega)
  have tk : decide (2 + g.jr + g.gr * g.sz ≤ 2048) = false := by simp; omega
  have HH := Lib.hid hg
  clear hg
  go_enter Tryd.func21, Tryd.ntmps21
  go_wp2_with fail
  generalize w.alloc (.cells (gcs g) 23) = w1 at V0 B0 ⊢
  have c0 := V0.out.c0; have c1 := V0.out.c1; have c2 := V0.out.c2; have c3 := V0.out.c3; have hlt := V0.out.lt
  refine wp_region_class (More w1) (by kernel_rfl) (by kernel_rfl) (More.drew _) ?_
  repeat (first | go_big_quiet_skip | (go_big_quiet_want; first | (refine quiet_geo _ rfl _ _ rfl g (by intro w' hw'; exact (V0.out.below hw').at) ?_; simp only [Act.put, List.setIfInBounds_toArray, List.set_cons_zero, List.set_cons_succ]; go_big_quiet_on) | (refine quiet_int _ rfl _ rfl _ (by intro w' hw'; first | exact (hw'.cell (p := ⟨_, _, none⟩) hlt).trans c0 | exact (hw'.cell (p := ⟨_, _, none⟩) hlt).trans c1 | exact (hw'.cell (p := ⟨_, _, none⟩) hlt).trans c2 | exact (hw'.cell (p := ⟨_, _, none⟩) hlt).trans c3) ?_; simp only [Act.put, List.setIfInBounds_toArray, List.set_cons_zero, List.set_cons_succ]; go_big_quiet_on) | (go_big_quiet_op; first | go_big_quiet_on | (apply Exists.intro; refine ⟨fun _ _ => ?_, ?_⟩; (with_reducible exact rfl); go_big_quiet_on) | go_big_quiet_call ((intro hC; (first | (with_reducible refine (Ca.out _).mono ?_) | (with_reducible refine (Cb.out _).mono ?_) | (with_reducible refine (Cc.out _).mono ?_) | (with_reducible refine (Ce.out _).mono ?_) | (with_reducible refine (Cf.out _).mono ?_)); exact fun e w' h => ⟨h.1, hC.on h.2⟩)))))
  refine wpQuiet_nil ?_
  intro w4 hw4
  have B4 := Lib.hid (B0.out.trans (Below.mono hw4 B0.out.size))
  clear hw4
  go_wp2
  go_ret
  exact ⟨rfl, B4.out⟩
set_option maxRecDepth 100000 in
theorem may_7 (g : GeoV) (w : World) (hg : g.Fits) (ha : 1 ≤ g.gr ∧ g.gr ≤ 4) (hb : 16 ≤ g.sz ∧ g.sz ≤ 512) (hc : 4 ≤ g.ino ∧ g.ino ≤ 64) (hd : g.ino % 4 = 0) (he : 40 ≤ g.jr ∧ g.jr ≤ 256) (hf : ownG g < g.sz) (hk : 2 + g.jr + g.gr * g.sz ≤ 2048) : Calls Tryd.prog 21 #[.agg (gcs g)] w fun e w' => e = .returned (.bool true) ∧ Below w.heap.size w w' := by
  have B0 := Lib.hid ((Below.refl w.heap.size w).alloc (Nat.le_refl _) (.cells (gcs g) 23))
  have V0 : Hid (GVar (w.alloc (.cells (gcs g) 23)) w.heap.size g) := Lib.hid (heap_alloc_new w _)
  have Ca : Hid (∀ W, Calls Tryd.prog 41 #[.int .i64 g.gr, .int .i64 1, .int .i64 4] W fun e w' => e = .returned (.bool true) ∧ Below W.heap.size W w') := Lib.hid fun W => within_any _ _ _ W true (by simp; omega)
  have Cb : Hid (∀ W, Calls Tryd.prog 41 #[.int .i64 g.sz, .int .i64 16, .int .i64 512] W fun e w' => e = .returned (.bool true) ∧ Below W.heap.size W w') := Lib.hid fun W => within_any _ _ _ W true (by simp; omega)
  have Cc : Hid (∀ W, Calls Tryd.prog 41 #[.int .i64 g.ino, .int .i64 4, .int .i64 64] W fun e w' => e = .returned (.bool true) ∧ Below W.heap.size W w') := Lib.hid fun W => within_any _ _ _ W true (by simp; omega)
  have td : (g.ino % 4 == 0) = true := by simp; omega
  have Ce : Hid (∀ W, Calls Tryd.prog 41 #[.int .i64 g.jr, .int .i64 40, .int .i64 256] W fun e w' => e = .returned (.bool true) ∧ Below W.heap.size W w') := Lib.hid fun W => within_any _ _ _ W true (by simp; omega)
  have Cf : Hid (∀ W, Calls Tryd.prog 42 #[.agg (gcs g)] W fun e w' => e = .returned (.int .i64 (ownG g)) ∧ Below W.heap.size W w') := Lib.hid fun W => own_any g W (by omega) (by omega)
  have tf : decide (ownG g < g.sz) = true := by simp; omega
  have p1 : 0 ≤ g.gr * g.sz := Int.mul_nonneg (by omega) (by omega)
  have p2 : g.gr * g.sz ≤ 4 * 512 := Int.mul_le_mul (by omega) (by omega) (by omega) (by omega)
  have tk : decide (2 + g.jr + g.gr * g.sz ≤ 2048) = true := by simp; omega
  have HH := Lib.hid hg
  clear hg
  go_enter Tryd.func21, Tryd.ntmps21
  go_wp2_with fail
  generalize w.alloc (.cells (gcs g) 23) = w1 at V0 B0 ⊢
  have c0 := V0.out.c0; have c1 := V0.out.c1; have c2 := V0.out.c2; have c3 := V0.out.c3; have hlt := V0.out.lt
  refine wp_region_class (More w1) (by kernel_rfl) (by kernel_rfl) (More.drew _) ?_
  repeat (first | go_big_quiet_skip | (go_big_quiet_want; first | (refine quiet_geo _ rfl _ _ rfl g (by intro w' hw'; exact (V0.out.below hw').at) ?_; simp only [Act.put, List.setIfInBounds_toArray, List.set_cons_zero, List.set_cons_succ]; go_big_quiet_on) | (refine quiet_int _ rfl _ rfl _ (by intro w' hw'; first | exact (hw'.cell (p := ⟨_, _, none⟩) hlt).trans c0 | exact (hw'.cell (p := ⟨_, _, none⟩) hlt).trans c1 | exact (hw'.cell (p := ⟨_, _, none⟩) hlt).trans c2 | exact (hw'.cell (p := ⟨_, _, none⟩) hlt).trans c3) ?_; simp only [Act.put, List.setIfInBounds_toArray, List.set_cons_zero, List.set_cons_succ]; go_big_quiet_on) | (go_big_quiet_op; first | go_big_quiet_on | (apply Exists.intro; refine ⟨fun _ _ => ?_, ?_⟩; (with_reducible exact rfl); go_big_quiet_on) | go_big_quiet_call ((intro hC; (first | (with_reducible refine (Ca.out _).mono ?_) | (with_reducible refine (Cb.out _).mono ?_) | (with_reducible refine (Cc.out _).mono ?_) | (with_reducible refine (Ce.out _).mono ?_) | (with_reducible refine (Cf.out _).mono ?_)); exact fun e w' h => ⟨h.1, hC.on h.2⟩)))))
  refine wpQuiet_nil ?_
  intro w4 hw4
  have B4 := Lib.hid (B0.out.trans (Below.mono hw4 B0.out.size))
  clear hw4
  go_wp2
  go_ret
  exact ⟨rfl, B4.out⟩
theorem pMay (g : GeoV) (w : World) (hg : g.Fits) : Calls Tryd.prog 21 #[.agg (gcs g)] w fun e w' => e = .returned (.bool (mayB g)) ∧ Below w.heap.size w w' := by
  have no : ∀ {b}, mayB g = b → (Calls Tryd.prog 21 #[.agg (gcs g)] w fun e w' => e = .returned (.bool b) ∧ Below w.heap.size w w') → (Calls Tryd.prog 21 #[.agg (gcs g)] w fun e w' => e = .returned (.bool (mayB g)) ∧ Below w.heap.size w w') := fun h k => by rw [h]; exact k
  have nm : ¬ May g → mayB g = false := fun h => decide_eq_false h
  by_cases ha : 1 ≤ g.gr ∧ g.gr ≤ 4
  · by_cases hb : 16 ≤ g.sz ∧ g.sz ≤ 512
    · by_cases hc : 4 ≤ g.ino ∧ g.ino ≤ 64
      · by_cases hd : g.ino % 4 = 0
        · by_cases he : 40 ≤ g.jr ∧ g.jr ≤ 256
          · by_cases hf : ownG g < g.sz
            · by_cases hk : 2 + g.jr + g.gr * g.sz ≤ 2048
              · exact no (decide_eq_true (by unfold ownG at hf; exact ⟨ha.1, ha.2, hb.1, hb.2, hc.1, hc.2, hd, he.1, he.2, by omega, hk⟩)) (may_7 g w hg ha hb hc hd he hf hk)
              · exact no (nm fun m => hk m.2.2.2.2.2.2.2.2.2.2) (may_6 g w hg ha hb hc hd he hf hk)
            · exact no (nm fun m => hf (by unfold ownG; have := m.2.2.2.2.2.2.2.2.2.1; omega)) (may_5 g w hg ha hb hc hd he hf)
          · exact no (nm fun m => he ⟨m.2.2.2.2.2.2.2.1, m.2.2.2.2.2.2.2.2.1⟩) (may_4 g w hg ha hb hc hd he)
        · exact no (nm fun m => hd m.2.2.2.2.2.2.1) (may_3 g w hg ha hb hc hd)
      · exact no (nm fun m => hc ⟨m.2.2.2.2.1, m.2.2.2.2.2.1⟩) (may_2 g w hg ha hb hc)
    · exact no (nm fun m => hb ⟨m.2.2.1, m.2.2.2.1⟩) (may_1 g w hg ha hb)
  · exact no (nm fun m => ha ⟨m.1, m.2.1⟩) (may_0 g w hg ha)
end Go.Proofs.YtmlmpflfejbbcaaDoor
namespace Go.Proofs.YtmlmpflfejbbcaaDoor
open Go.RowKit Go.BigFrame

/-! The image's parts, one behind the other. -/
theorem partG_next (g : GeoV) (k : Nat) : (partG g k).first + (partG g k).cnt = (partG g (k + 1)).first := by
  match k with
  | 0 => rfl
  | 1 => rfl
  | 2 => show (2 : Int) + g.jr = 2 + g.jr + ((0 : Nat) : Int) * g.sz; simp
  | k + 3 =>
    show (inG g (k / 4) (k % 4)).first + (inG g (k / 4) (k % 4)).cnt = (inG g ((k + 1) / 4) ((k + 1) % 4)).first
    have h : k % 4 = 0 ∨ k % 4 = 1 ∨ k % 4 = 2 ∨ k % 4 = 3 := by omega
    rcases h with h | h | h | h
    · rw [h, show (k + 1) % 4 = 1 by omega, show (k + 1) / 4 = k / 4 by omega]; simp [inG]
    · rw [h, show (k + 1) % 4 = 2 by omega, show (k + 1) / 4 = k / 4 by omega]; simp [inG]; omega
    · rw [h, show (k + 1) % 4 = 3 by omega, show (k + 1) / 4 = k / 4 by omega]; simp [inG]; omega
    · rw [h, show (k + 1) % 4 = 0 by omega, show (k + 1) / 4 = k / 4 + 1 by omega]
      simp only [inG, baseG]
      rw [Int.natCast_add, Int.add_mul]
      omega
theorem partG_in (g : GeoV) (q : Nat) {i : Nat} (hi : i < 4) : partG g (3 + 4 * q + i) = inG g q i := by
  rw [show 3 + 4 * q + i = 4 * q + i + 3 by omega]
  show inG g ((4 * q + i) / 4) ((4 * q + i) % 4) = _
  rw [show (4 * q + i) / 4 = q by omega, show (4 * q + i) % 4 = i by omega]
theorem inG_first {g : GeoV} (hm : May g) {q : Nat} (hq : (q : Int) ≤ g.gr) : 0 ≤ baseG g q ∧ baseG g q ≤ 2048 ∧ 2 ≤ ownG g ∧ ownG g < g.sz ∧ g.sz ≤ 512 := by
  obtain ⟨m1, m2, m3, m4, m5, m6, m7, m8, m9, m10, m11⟩ := hm
  have h1 : 0 ≤ (q : Int) * g.sz := Int.mul_nonneg (by omega) (by omega)
  have h2 : (q : Int) * g.sz ≤ g.gr * g.sz := Int.mul_le_mul_of_nonneg_right hq (by omega)
  unfold baseG ownG
  omega
theorem partG_fits {g : GeoV} (hm : May g) {k : Nat} (hk : k ≤ numG g) : 0 ≤ (partG g k).kind ∧ (partG g k).kind ≤ 255 ∧ 0 ≤ (partG g k).first ∧ (partG g k).first ≤ 4096 ∧ 0 ≤ (partG g k).cnt ∧ (partG g k).cnt ≤ 4096 := by
  unfold numG at hk
  rw [if_pos hm] at hk
  have hm' := hm
  obtain ⟨m1, m2, m3, m4, m5, m6, m7, m8, m9, m10, m11⟩ := hm
  match k with
  | 0 => simp [partG]
  | 1 => simp [partG]
  | 2 => simp [partG]; omega
  | k + 3 =>
    have hq : ((k / 4 : Nat) : Int) ≤ g.gr := by omega
    have hf := inG_first hm' hq
    show 0 ≤ (inG g (k / 4) (k % 4)).kind ∧ (inG g (k / 4) (k % 4)).kind ≤ 255 ∧ 0 ≤ (inG g (k / 4) (k % 4)).first ∧ (inG g (k / 4) (k % 4)).first ≤ 4096 ∧ 0 ≤ (inG g (k / 4) (k % 4)).cnt ∧ (inG g (k / 4) (k % 4)).cnt ≤ 4096
    have h : k % 4 = 0 ∨ k % 4 = 1 ∨ k % 4 = 2 ∨ k % 4 = 3 := by omega
    rcases h with h | h | h | h <;> rw [h] <;> simp only [inG] <;> omega

/-- What holds ahead of part k. -/
structure ST (g : GeoV) (b0 b1 b2 l : Nat) (J : Nat → World → Prop) (k : Nat) (W : World) : Prop where
  j : J k W
  geo : GVar W b0 g
  box : Boxed W b1 3 (.int .i64 (partG g k).first)
  yld : Boxed W b2 108 (.func (.yield l) #[] #[])
theorem ST.below {g : GeoV} {b0 b1 b2 l s k : Nat} {J : Nat → World → Prop} {W W' : World} (h : ST g b0 b1 b2 l J k W) (hJ : Stays s J) (hs : s ≤ W.heap.size) (hb : Below W.heap.size W W') : ST g b0 b1 b2 l J k W' :=
  ⟨hJ _ _ _ h.j (hb.mono hs), h.geo.below hb, (hb.block _ h.box.lt).trans h.box, (hb.block _ h.yld.lt).trans h.yld⟩

theorem step_any {g : GeoV} {b0 b1 b2 l s m : Nat} {J Jx : Nat → World → Prop} (hm : May g) (hne : b1 ≠ b2) (h0 : b0 < s) (hb1 : s ≤ b1) (hb2 : s ≤ b2) (hJ : Stays s J)
    (hy : ∀ k W1, k < numG g → J k W1 → YieldAt Fence.wide m Tryd.prog l #[.agg (pcs (partG g k))] W1 fun e W' => (e = .returned (.bool true) ∧ J (k + 1) W' ∧ Kept b0 s W1 W') ∨ (e = .returned (.bool false) ∧ Jx k W'))
    (k : Nat) (hk : k < numG g) (p : PartV) (hp : partG g k = p) (W : World) (h : ST g b0 b1 b2 l J k W) :
    Calls Tryd.prog 65 #[.int .u8 p.kind, .int .i64 p.grp, .int .i64 p.plc, .int .i64 p.cnt, .pointer (some ⟨b1, 0, none⟩), .pointer (some ⟨b2, 0, none⟩)] W fun e W' =>
      (e = .returned (.bool true) ∧ ST g b0 b1 b2 l J (k + 1) W') ∨ (e = .returned (.bool false) ∧ Jx k W') := by
  subst hp
  obtain ⟨q1, q2, q3, q4, q5, q6⟩ := partG_fits hm (Nat.le_of_lt hk)
  refine callsIn_wide.1 (next_in Fence.wide 2 (fun _ => trivial) rfl (by omega) l b1 b2 (partG g k) W _ hne h.box h.yld ⟨q1, q2⟩ (by unfold I64; omega) (by unfold I64; omega) ?_ ?_)
  · intro W1 hb hg hx
    rw [partG_next] at hx
    have hJ1 : J k W1 := hJ _ _ _ h.j (hb.mono hb1)
    have hg1 : GVar W1 b0 g := (hb.block b0 (by omega)).trans h.geo
    have hy1 : Boxed W1 b2 108 (.func (.yield l) #[] #[]) := h.yld.kept hg (by simp; exact fun e => hne e.symm)
    refine (yieldAt_wide (m' := 2 - 1) (hy k W1 hk hJ1)).mono ?_
    rintro e W' (⟨rfl, hj, hkp⟩ | ⟨rfl, hj⟩)
    · exact .inl ⟨rfl, hj, hkp.same _ _ (.inl rfl) hg1, hkp.same _ _ (.inr hb1) hx, hkp.same _ _ (.inr hb2) hy1⟩
    · exact .inr ⟨rfl, hj⟩
  · rintro e W' (⟨rfl, _⟩ | ⟨rfl, _⟩)
    · exact ⟨true, rfl⟩
    · exact ⟨false, rfl⟩
end Go.Proofs.YtmlmpflfejbbcaaDoor
namespace Go.Proofs.YtmlmpflfejbbcaaDoor
open Go.RowKit Go.BigFrame

set_option maxRecDepth 100000 in
set_option maxHeartbeats 1000000 in
theorem iter_none (g : GeoV) (hg : g.Fits) (hm : ¬ May g) (l b0 : Nat) (W : World) (V : GVar W b0 g) : Calls Tryd.prog 64 #[.func (.yield l) #[] #[], .pointer (some ⟨b0, 0, none⟩)] W fun e W' => (∃ v, e = .returned v) ∧ Below W.heap.size W W' := by
  have hb : Below W.heap.size W (W.alloc (.cells #[.func (.yield l) #[] #[]] 108)) := (Below.refl _ W).alloc (Nat.le_refl _) _
  have V1 := Lib.hid (V.below hb)
  have B1 := Lib.hid hb
  have M : Hid (mayB g = false) := Lib.hid (by unfold mayB; exact decide_eq_false hm)
  have CM : Hid (∀ W, Calls Tryd.prog 21 #[.agg (gcs g)] W fun e w' => e = .returned (.bool false) ∧ Below W.heap.size W w') := Lib.hid fun W => (pMay g W hg).mono fun e w' q => ⟨by rw [q.1, M.out], q.2⟩
  clear V hb hg hm M
  go_enter Tryd.func64, Tryd.ntmps64
  go_wp2_with (first | (refine load_geo rfl (.tmp 1) rfl b0 0 rfl g V1.out.at ?_) | (go_at_call 21; refine (CM.out _).mono ?_; rintro e w2 ⟨rfl, hb⟩))
  refine bodyPost_ret (results_none rfl _ _ _) rfl ?_
  exact ⟨⟨_, rfl⟩, B1.out.trans (hb.mono B1.out.size)⟩

def Gone (N : Nat) (Jx : Nat → World → Prop) (W : World) : Prop := ∃ k, k < N ∧ Jx k W
def leftG (g : GeoV) : Value → Value → Nat
  | .bool true, gv => (g.gr - intOf gv).toNat + 1
  | _, _ => 0
set_option maxRecDepth 100000 in
set_option maxHeartbeats 2000000 in
theorem iter_may (g : GeoV) (hg : g.Fits) (hm : May g) (l b0 m : Nat) (J Jx : Nat → World → Prop) (W : World) (V : GVar W b0 g) (hJ : Stays W.heap.size J) (hJx : Stays W.heap.size Jx)
    (hy : ∀ k W1, k < numG g → J k W1 → YieldAt Fence.wide m Tryd.prog l #[.agg (pcs (partG g k))] W1 fun e W' => (e = .returned (.bool true) ∧ J (k + 1) W' ∧ Kept b0 W.heap.size W1 W') ∨ (e = .returned (.bool false) ∧ Jx k W'))
    (h0 : J 0 W) : Calls Tryd.prog 64 #[.func (.yield l) #[] #[], .pointer (some ⟨b0, 0, none⟩)] W fun e W' => (∃ v, e = .returned v) ∧ (J (numG g) W' ∨ ∃ k, k < numG g ∧ Jx k W') := by
  have hN : numG g = 3 + 4 * g.gr.toNat := if_pos hm
  have hgr := hm.1
  have hgr4 := hm.2.1
  have hb : Below W.heap.size W (W.alloc (.cells #[.func (.yield l) #[] #[]] 108)) := (Below.refl _ W).alloc (Nat.le_refl _) _
  have V1 := Lib.hid (V.below hb)
  have Y1 : Hid (Boxed (W.alloc (.cells #[.func (.yield l) #[] #[]] 108)) W.heap.size 108 (.func (.yield l) #[] #[])) := Lib.hid (Boxed.new _ _ _)
  have B1 := Lib.hid hb
  have M : Hid (mayB g = true) := Lib.hid (by unfold mayB; exact decide_eq_true hm)
  have CM : Hid (∀ W, Calls Tryd.prog 21 #[.agg (gcs g)] W fun e w' => e = .returned (.bool true) ∧ Below W.heap.size W w') := Lib.hid fun W => (pMay g W hg).mono fun e w' q => ⟨by rw [q.1, M.out], q.2⟩
  have CO : Hid (∀ W, Calls Tryd.prog 42 #[.agg (gcs g)] W fun e w' => e = .returned (.int .i64 (ownG g)) ∧ Below W.heap.size W w') := Lib.hid fun W => own_any g W hm.2.2.2.2.1 hm.2.2.2.2.2.1
  have hblt := V.lt
  have STEP := Lib.hid (fun (b1 : Nat) (hb1 : W.heap.size ≤ b1) (hne : b1 ≠ W.heap.size) => step_any (Jx := Jx) hm hne hblt hb1 (Nat.le_refl _) hJ hy)
  have HJ := Lib.hid hJ
  have HJX := Lib.hid hJx
  have HN := Lib.hid hN
  have HM := Lib.hid hm
  have H0 := Lib.hid h0
  have HL := Lib.hid hblt
  clear V hb hg hm M hJ hJx hy h0 hN hblt
  go_enter Tryd.func64, Tryd.ntmps64
  go_upto_region 4 with (first | (refine load_geo rfl (.tmp 1) rfl b0 0 rfl g V1.out.at ?_) | (go_at_call 21; refine (CM.out _).mono ?_; rintro e w2 ⟨rfl, hb⟩))
  have B2 := Lib.hid (B1.out.trans (hb.mono B1.out.size))
  have V2 := Lib.hid (V1.out.below hb)
  have Y2 : Hid (Boxed w2 W.heap.size 108 (.func (.yield l) #[] #[])) := Lib.hid ((hb.block _ Y1.out.lt).trans Y1.out)
  have S2 : Hid (W.heap.size < w2.heap.size) := Lib.hid Y2.out.lt
  have hb3 : Below w2.heap.size w2 (w2.alloc (.cells #[.int .i64 0] 3)) := (Below.refl _ w2).alloc (Nat.le_refl _) _
  have S0 : Hid (ST g b0 w2.heap.size W.heap.size l J 0 (w2.alloc (.cells #[.int .i64 0] 3))) := Lib.hid ⟨HJ.out _ _ _ H0.out (B2.out.trans (hb3.mono B2.out.size)), V2.out.below hb3, Boxed.new _ _ _, (hb3.block _ Y2.out.lt).trans Y2.out⟩
  have STEP2 := Lib.hid (STEP.out w2.heap.size (Nat.le_of_lt S2.out) (Nat.ne_of_gt S2.out))
  clear STEP hb hb3 V1 V2 Y1 Y2 B1 H0
  generalize w2.alloc (.cells #[.int .i64 0] 3) = w3 at S0 ⊢
  generalize w2.heap.size = b1 at S0 STEP2 S2 ⊢
  clear B2
  have NB : Hid (∀ k, k < 3 → k < numG g) := Lib.hid fun k h => by rw [HN.out]; omega
  have C0 : Hid (∀ W', Hid (ST g b0 b1 W.heap.size l J 0 W') → Calls Tryd.prog 65 #[.int .u8 1, .int .i64 0, .int .i64 0, .int .i64 1, .pointer (some ⟨b1, 0, none⟩), .pointer (some ⟨W.heap.size, 0, none⟩)] W' fun e W'' => (e = .returned (.bool true) ∧ ST g b0 b1 W.heap.size l J 1 W'') ∨ (e = .returned (.bool false) ∧ Jx 0 W'')) := Lib.hid fun W' h => STEP2.out 0 (NB.out 0 (by omega)) ⟨1, 0, 0, 0, 1⟩ rfl W' h.out
  have C1 : Hid (∀ W', Hid (ST g b0 b1 W.heap.size l J 1 W') → Calls Tryd.prog 65 #[.int .u8 2, .int .i64 0, .int .i64 0, .int .i64 1, .pointer (some ⟨b1, 0, none⟩), .pointer (some ⟨W.heap.size, 0, none⟩)] W' fun e W'' => (e = .returned (.bool true) ∧ ST g b0 b1 W.heap.size l J 2 W'') ∨ (e = .returned (.bool false) ∧ Jx 1 W'')) := Lib.hid fun W' h => STEP2.out 1 (NB.out 1 (by omega)) ⟨2, 0, 0, 1, 1⟩ rfl W' h.out
  have C2 : Hid (∀ W', Hid (ST g b0 b1 W.heap.size l J 2 W') → Calls Tryd.prog 65 #[.int .u8 3, .int .i64 0, .int .i64 0, .int .i64 g.jr, .pointer (some ⟨b1, 0, none⟩), .pointer (some ⟨W.heap.size, 0, none⟩)] W' fun e W'' => (e = .returned (.bool true) ∧ ST g b0 b1 W.heap.size l J 3 W'') ∨ (e = .returned (.bool false) ∧ Jx 2 W'')) := Lib.hid fun W' h => STEP2.out 2 (NB.out 2 (by omega)) ⟨3, 0, 0, 2, g.jr⟩ rfl W' h.out
  go_cut [5] from 11 to 22 (fun s5 wx => (s5 = .bool true ∧ ST g b0 b1 W.heap.size l J 3 wx) ∨ (s5 = .bool false ∧ ∃ k, k < numG g ∧ Jx k wx))
  case first =>
    go_wp2_with (first
      | (go_at_call 65; with_reducible refine (C0.out _ S0).mono ?_; rintro e w4 (⟨rfl, q1⟩ | ⟨rfl, qx⟩); have Q1 := Lib.hid q1; clear q1)
      | (go_at_call 65; with_reducible refine (C1.out _ Q1).mono ?_; rintro e w5 (⟨rfl, q2⟩ | ⟨rfl, qx⟩); have c3 := q2.geo.c3; have Q2 := Lib.hid q2; clear q2)
      | (go_at_call 65; with_reducible refine (C2.out _ Q2).mono ?_; rintro e w6 (⟨rfl, q3⟩ | ⟨rfl, qx⟩)))
    all_goals go_meet
    · exact .inl ⟨rfl, q3⟩
    · exact .inr ⟨rfl, _, NB.out 2 (by omega), qx⟩
    · exact .inr ⟨rfl, _, NB.out 1 (by omega), qx⟩
    · exact .inr ⟨rfl, _, NB.out 0 (by omega), qx⟩
  case rest =>
    clear C0 C1 C2 S0 NB
    go_wp2_with fail
    go_loopw [5, 6] (fun mv gv wr => (∃ q : Nat, (q : Int) ≤ g.gr ∧ mv = .bool true ∧ gv = .int .i64 q ∧ ST g b0 b1 W.heap.size l J (3 + 4 * q) wr) ∨ (mv = .bool false ∧ (∃ i, gv = .int .i64 i) ∧ ∃ k, k < numG g ∧ Jx k wr)) (fun mv gv _ => leftG g mv gv)
    case atStart =>
      rcases hcut with ⟨rfl, h⟩ | ⟨rfl, h⟩
      · exact .inl ⟨0, by omega, rfl, rfl, h⟩
      · exact .inr ⟨rfl, ⟨0, rfl⟩, h⟩
    case round =>
      rcases hrel with ⟨q, hq, rfl, rfl, hS⟩ | ⟨rfl, ⟨i, rfl⟩, hX⟩
      · by_cases hlt : (q : Int) < g.gr
        · have t1 : decide ((q : Int) < g.gr) = true := decide_eq_true hlt
          have hif := inG_first HM.out hq
          have o1 := hif.2.2.1
          have o2 := hif.2.2.2.1
          have o3 := hif.2.2.2.2
          clear hif
          have NQ : Hid (∀ i, i < 4 → 3 + 4 * q + i < numG g) := Lib.hid fun i hi => by rw [HN.out]; omega
          have D0 : Hid (∀ W', Hid (ST g b0 b1 W.heap.size l J (3 + 4 * q + 0) W') → Calls Tryd.prog 65 #[.int .u8 4, .int .i64 q, .int .i64 0, .int .i64 1, .pointer (some ⟨b1, 0, none⟩), .pointer (some ⟨W.heap.size, 0, none⟩)] W' fun e W'' => (e = .returned (.bool true) ∧ ST g b0 b1 W.heap.size l J (3 + 4 * q + 1) W'') ∨ (e = .returned (.bool false) ∧ Jx (3 + 4 * q + 0) W'')) := Lib.hid fun W' h => STEP2.out (3 + 4 * q + 0) (NQ.out 0 (by omega)) _ (partG_in g q (by omega)) W' h.out
          have D1 : Hid (∀ W', Hid (ST g b0 b1 W.heap.size l J (3 + 4 * q + 1) W') → Calls Tryd.prog 65 #[.int .u8 5, .int .i64 q, .int .i64 1, .int .i64 1, .pointer (some ⟨b1, 0, none⟩), .pointer (some ⟨W.heap.size, 0, none⟩)] W' fun e W'' => (e = .returned (.bool true) ∧ ST g b0 b1 W.heap.size l J (3 + 4 * q + 2) W'') ∨ (e = .returned (.bool false) ∧ Jx (3 + 4 * q + 1) W'')) := Lib.hid fun W' h => STEP2.out (3 + 4 * q + 1) (NQ.out 1 (by omega)) _ (partG_in g q (by omega)) W' h.out
          have D2 : Hid (∀ W', Hid (ST g b0 b1 W.heap.size l J (3 + 4 * q + 2) W') → Calls Tryd.prog 65 #[.int .u8 6, .int .i64 q, .int .i64 2, .int .i64 (ownG g - 2), .pointer (some ⟨b1, 0, none⟩), .pointer (some ⟨W.heap.size, 0, none⟩)] W' fun e W'' => (e = .returned (.bool true) ∧ ST g b0 b1 W.heap.size l J (3 + 4 * q + 3) W'') ∨ (e = .returned (.bool false) ∧ Jx (3 + 4 * q + 2) W'')) := Lib.hid fun W' h => STEP2.out (3 + 4 * q + 2) (NQ.out 2 (by omega)) _ (partG_in g q (by omega)) W' h.out
          have D3 : Hid (∀ W', Hid (ST g b0 b1 W.heap.size l J (3 + 4 * q + 3) W') → Calls Tryd.prog 65 #[.int .u8 7, .int .i64 q, .int .i64 (ownG g), .int .i64 (g.sz - ownG g), .pointer (some ⟨b1, 0, none⟩), .pointer (some ⟨W.heap.size, 0, none⟩)] W' fun e W'' => (e = .returned (.bool true) ∧ ST g b0 b1 W.heap.size l J (3 + 4 * q + 4) W'') ∨ (e = .returned (.bool false) ∧ Jx (3 + 4 * q + 3) W'')) := Lib.hid fun W' h => STEP2.out (3 + 4 * q + 3) (NQ.out 3 (by omega)) _ (partG_in g q (by omega)) W' h.out
          have c0 := hS.geo.c0
          have HS := Lib.hid hS
          clear hS
          go_upto_block 1 with fail
          go_cut [5] from 23 to 59 (fun s5 wx => (s5 = .bool true ∧ ST g b0 b1 W.heap.size l J (3 + 4 * q + 4) wx) ∨ (s5 = .bool false ∧ ∃ k, k < numG g ∧ Jx k wx))
          case first =>
            go_upto_region 8 with fail
            refine wp_region_ph (fun wx => ST g b0 b1 W.heap.size l J (3 + 4 * q + 0) wx) [(2, 0), (3, 0), (7, 0), (11, 0)] (by kernel_rfl) (by kernel_rfl) (HS.out.below HJ.out (Nat.le_of_lt HS.out.yld.lt) (Below.refl _ _).drew) ?_
            clear HS c0
            refine ph_seg rfl rfl rfl ?_
            simp only [Nat.reduceAdd, List.take_succ_cons, List.take_zero, List.drop_succ_cons, List.drop_zero]
            repeat (first | go_big_quiet_skip | (go_big_quiet_want; first | (refine quiet_geo _ rfl _ _ rfl g (by intro w' hw'; exact hw'.geo.at) ?_; simp only [Act.put, List.setIfInBounds_toArray, List.set_cons_zero, List.set_cons_succ]; go_big_quiet_on) | (refine quiet_int _ rfl _ rfl _ (by intro w' hw'; exact hw'.geo.c1) ?_; simp only [Act.put, List.setIfInBounds_toArray, List.set_cons_zero, List.set_cons_succ]; go_big_quiet_on) | (go_big_quiet_op; first | go_big_quiet_on | (apply Exists.intro; refine ⟨fun _ _ => ?_, ?_⟩; (with_reducible exact rfl); go_big_quiet_on) | go_big_quiet_call ((intro hC; (with_reducible refine (CO.out _).mono ?_); exact fun e w' h => ⟨h.1, hC.below HJ.out (Nat.le_of_lt hC.yld.lt) h.2⟩)))))
            refine wpQuiet_nil ?_
            intro wx hS K hK
            have HS := Lib.hid hS
            clear hS
            go_wp2_with (go_at_call 65; with_reducible refine (D0.out _ HS).mono ?_; rintro e w4 (⟨rfl, q1⟩ | ⟨rfl, qx⟩))
            rotate_left
            · refine hK _ _ (Gone (numG g) Jx) ⟨_, NQ.out 0 (by omega), qx⟩ ?_
              refine ph_seg rfl rfl rfl ?_
              simp only [Nat.reduceAdd, List.take_succ_cons, List.take_zero, List.drop_succ_cons, List.drop_zero]
              repeat (first | go_big_quiet_skip | (go_big_quiet_want; go_big_quiet_op; first | go_big_quiet_on | (apply Exists.intro; refine ⟨fun _ _ => ?_, ?_⟩; (with_reducible exact rfl); go_big_quiet_on)))
              refine wpQuiet_nil ?_
              intro wy hy K hK
              go_wp2_with fail
              refine hK _ _ (Gone (numG g) Jx) hy ?_
              skip
              refine ph_seg rfl rfl rfl ?_
              simp only [Nat.reduceAdd, List.take_succ_cons, List.take_zero, List.drop_succ_cons, List.drop_zero]
              repeat (first | go_big_quiet_skip | (go_big_quiet_want; go_big_quiet_op; first | go_big_quiet_on | (apply Exists.intro; refine ⟨fun _ _ => ?_, ?_⟩; (with_reducible exact rfl); go_big_quiet_on)))
              refine wpQuiet_nil ?_
              intro wy hy K hK
              go_wp2_with fail
              refine hK _ _ (Gone (numG g) Jx) hy ?_
              skip
              refine ph_seg rfl rfl rfl ?_
              simp only [Nat.reduceAdd, List.take_succ_cons, List.take_zero, List.drop_succ_cons, List.drop_zero]
              repeat (first | go_big_quiet_skip | (go_big_quiet_want; go_big_quiet_op; first | go_big_quiet_on | (apply Exists.intro; refine ⟨fun _ _ => ?_, ?_⟩; (with_reducible exact rfl); go_big_quiet_on)))
              refine wpQuiet_nil ?_
              intro wy hy K hK
              go_wp2_with fail
              refine hK _ _ (Gone (numG g) Jx) hy ?_
              skip
              unfold wpPh
              repeat (first | go_big_quiet_skip | (go_big_quiet_want; go_big_quiet_op; first | go_big_quiet_on | (apply Exists.intro; refine ⟨fun _ _ => ?_, ?_⟩; (with_reducible exact rfl); go_big_quiet_on)))
              refine wpQuiet_nil ?_
              intro wy hy
              go_wp2_with fail
              go_meet
              exact .inr ⟨rfl, hy⟩
            refine hK _ _ (fun wx => ST g b0 b1 W.heap.size l J (3 + 4 * q + 1) wx) q1 ?_
            clear hK q1 HS
            refine ph_seg rfl rfl rfl ?_
            simp only [Nat.reduceAdd, List.take_succ_cons, List.take_zero, List.drop_succ_cons, List.drop_zero]
            repeat (first | go_big_quiet_skip | (go_big_quiet_want; first | (refine quiet_geo _ rfl _ _ rfl g (by intro w' hw'; exact hw'.geo.at) ?_; simp only [Act.put, List.setIfInBounds_toArray, List.set_cons_zero, List.set_cons_succ]; go_big_quiet_on) | (refine quiet_int _ rfl _ rfl _ (by intro w' hw'; exact hw'.geo.c1) ?_; simp only [Act.put, List.setIfInBounds_toArray, List.set_cons_zero, List.set_cons_succ]; go_big_quiet_on) | (go_big_quiet_op; first | go_big_quiet_on | (apply Exists.intro; refine ⟨fun _ _ => ?_, ?_⟩; (with_reducible exact rfl); go_big_quiet_on) | go_big_quiet_call ((intro hC; (with_reducible refine (CO.out _).mono ?_); exact fun e w' h => ⟨h.1, hC.below HJ.out (Nat.le_of_lt hC.yld.lt) h.2⟩)))))
            refine wpQuiet_nil ?_
            intro wx hS K hK
            have HS := Lib.hid hS
            clear hS
            go_wp2_with (go_at_call 65; with_reducible refine (D1.out _ HS).mono ?_; rintro e w4 (⟨rfl, q1⟩ | ⟨rfl, qx⟩))
            rotate_left
            · refine hK _ _ (Gone (numG g) Jx) ⟨_, NQ.out 1 (by omega), qx⟩ ?_
              refine ph_seg rfl rfl rfl ?_
              simp only [Nat.reduceAdd, List.take_succ_cons, List.take_zero, List.drop_succ_cons, List.drop_zero]
              repeat (first | go_big_quiet_skip | (go_big_quiet_want; go_big_quiet_op; first | go_big_quiet_on | (apply Exists.intro; refine ⟨fun _ _ => ?_, ?_⟩; (with_reducible exact rfl); go_big_quiet_on)))
              refine wpQuiet_nil ?_
              intro wy hy K hK
              go_wp2_with fail
              refine hK _ _ (Gone (numG g) Jx) hy ?_
              skip
              refine ph_seg rfl rfl rfl ?_
              simp only [Nat.reduceAdd, List.take_succ_cons, List.take_zero, List.drop_succ_cons, List.drop_zero]
              repeat (first | go_big_quiet_skip | (go_big_quiet_want; go_big_quiet_op; first | go_big_quiet_on | (apply Exists.intro; refine ⟨fun _ _ => ?_, ?_⟩; (with_reducible exact rfl); go_big_quiet_on)))
              refine wpQuiet_nil ?_
              intro wy hy K hK
              go_wp2_with fail
              refine hK _ _ (Gone (numG g) Jx) hy ?_
              skip
              unfold wpPh
              repeat (first | go_big_quiet_skip | (go_big_quiet_want; go_big_quiet_op; first | go_big_quiet_on | (apply Exists.intro; refine ⟨fun _ _ => ?_, ?_⟩; (with_reducible exact rfl); go_big_quiet_on)))
              refine wpQuiet_nil ?_
              intro wy hy
              go_wp2_with fail
              go_meet
              exact .inr ⟨rfl, hy⟩
            refine hK _ _ (fun wx => ST g b0 b1 W.heap.size l J (3 + 4 * q + 2) wx) q1 ?_
            clear hK q1 HS
            refine ph_seg rfl rfl rfl ?_
            simp only [Nat.reduceAdd, List.take_succ_cons, List.take_zero, List.drop_succ_cons, List.drop_zero]
            repeat (first | go_big_quiet_skip | (go_big_quiet_want; first | (refine quiet_geo _ rfl _ _ rfl g (by intro w' hw'; exact hw'.geo.at) ?_; simp only [Act.put, List.setIfInBounds_toArray, List.set_cons_zero, List.set_cons_succ]; go_big_quiet_on) | (refine quiet_int _ rfl _ rfl _ (by intro w' hw'; exact hw'.geo.c1) ?_; simp only [Act.put, List.setIfInBounds_toArray, List.set_cons_zero, List.set_cons_succ]; go_big_quiet_on) | (go_big_quiet_op; first | go_big_quiet_on | (apply Exists.intro; refine ⟨fun _ _ => ?_, ?_⟩; (with_reducible exact rfl); go_big_quiet_on) | go_big_quiet_call ((intro hC; (with_reducible refine (CO.out _).mono ?_); exact fun e w' h => ⟨h.1, hC.below HJ.out (Nat.le_of_lt hC.yld.lt) h.2⟩)))))
            refine wpQuiet_nil ?_
            intro wx hS K hK
            have HS := Lib.hid hS
            clear hS
            go_wp2_with (go_at_call 65; with_reducible refine (D2.out _ HS).mono ?_; rintro e w4 (⟨rfl, q1⟩ | ⟨rfl, qx⟩))
            rotate_left
            · refine hK _ _ (Gone (numG g) Jx) ⟨_, NQ.out 2 (by omega), qx⟩ ?_
              refine ph_seg rfl rfl rfl ?_
              simp only [Nat.reduceAdd, List.take_succ_cons, List.take_zero, List.drop_succ_cons, List.drop_zero]
              repeat (first | go_big_quiet_skip | (go_big_quiet_want; go_big_quiet_op; first | go_big_quiet_on | (apply Exists.intro; refine ⟨fun _ _ => ?_, ?_⟩; (with_reducible exact rfl); go_big_quiet_on)))
              refine wpQuiet_nil ?_
              intro wy hy K hK
              go_wp2_with fail
              refine hK _ _ (Gone (numG g) Jx) hy ?_
              skip
              unfold wpPh
              repeat (first | go_big_quiet_skip | (go_big_quiet_want; go_big_quiet_op; first | go_big_quiet_on | (apply Exists.intro; refine ⟨fun _ _ => ?_, ?_⟩; (with_reducible exact rfl); go_big_quiet_on)))
              refine wpQuiet_nil ?_
              intro wy hy
              go_wp2_with fail
              go_meet
              exact .inr ⟨rfl, hy⟩
            refine hK _ _ (fun wx => ST g b0 b1 W.heap.size l J (3 + 4 * q + 3) wx) q1 ?_
            clear hK q1 HS
            refine ph_seg rfl rfl rfl ?_
            simp only [Nat.reduceAdd, List.take_succ_cons, List.take_zero, List.drop_succ_cons, List.drop_zero]
            repeat (first | go_big_quiet_skip | (go_big_quiet_want; first | (refine quiet_geo _ rfl _ _ rfl g (by intro w' hw'; exact hw'.geo.at) ?_; simp only [Act.put, List.setIfInBounds_toArray, List.set_cons_zero, List.set_cons_succ]; go_big_quiet_on) | (refine quiet_int _ rfl _ rfl _ (by intro w' hw'; exact hw'.geo.c1) ?_; simp only [Act.put, List.setIfInBounds_toArray, List.set_cons_zero, List.set_cons_succ]; go_big_quiet_on) | (go_big_quiet_op; first | go_big_quiet_on | (apply Exists.intro; refine ⟨fun _ _ => ?_, ?_⟩; (with_reducible exact rfl); go_big_quiet_on) | go_big_quiet_call ((intro hC; (with_reducible refine (CO.out _).mono ?_); exact fun e w' h => ⟨h.1, hC.below HJ.out (Nat.le_of_lt hC.yld.lt) h.2⟩)))))
            refine wpQuiet_nil ?_
            intro wx hS K hK
            have HS := Lib.hid hS
            clear hS
            go_wp2_with (go_at_call 65; with_reducible refine (D3.out _ HS).mono ?_; rintro e w4 (⟨rfl, q1⟩ | ⟨rfl, qx⟩))
            rotate_left
            · refine hK _ _ (Gone (numG g) Jx) ⟨_, NQ.out 3 (by omega), qx⟩ ?_
              unfold wpPh
              repeat (first | go_big_quiet_skip | (go_big_quiet_want; go_big_quiet_op; first | go_big_quiet_on | (apply Exists.intro; refine ⟨fun _ _ => ?_, ?_⟩; (with_reducible exact rfl); go_big_quiet_on)))
              refine wpQuiet_nil ?_
              intro wy hy
              go_wp2_with fail
              go_meet
              exact .inr ⟨rfl, hy⟩
            refine hK _ _ (fun wx => ST g b0 b1 W.heap.size l J (3 + 4 * q + 4) wx) q1 ?_
            clear hK q1 HS
            unfold wpPh
            repeat (first | go_big_quiet_skip | (go_big_quiet_want; go_big_quiet_op; first | go_big_quiet_on | (apply Exists.intro; refine ⟨fun _ _ => ?_, ?_⟩; (with_reducible exact rfl); go_big_quiet_on)))
            refine wpQuiet_nil ?_
            intro wy hy
            go_wp2_with fail
            go_meet
            exact .inl ⟨rfl, hy⟩
          case rest =>
            clear D0 D1 D2 D3 HS c0
            go_wp2_with fail
            rcases hcut with ⟨rfl, h⟩ | ⟨rfl, h⟩
            · refine ⟨.inl ⟨q + 1, by omega, rfl, by go_num, h⟩, ?_⟩
              simp [leftG, intOf]; omega
            · exact ⟨.inr ⟨rfl, ⟨_, rfl⟩, h⟩, by simp [leftG]⟩
        · have t1 : decide ((q : Int) < g.gr) = false := decide_eq_false hlt
          have c0 := hS.geo.c0
          have HS := Lib.hid hS
          clear hS
          go_wp2_with fail
          refine bodyPost_end (results_none rfl _ _ _) rfl ?_
          exact ⟨⟨_, rfl⟩, .inl (by rw [HN.out, show 3 + 4 * g.gr.toNat = 3 + 4 * q by omega]; exact HS.out.j)⟩
      · have HX := Lib.hid hX
        clear hX
        go_wp2_with fail
        refine bodyPost_end (results_none rfl _ _ _) rfl ?_
        exact ⟨⟨_, rfl⟩, .inr HX.out⟩
end Go.Proofs.YtmlmpflfejbbcaaDoor
namespace Go.Proofs.YtmlmpflfejbbcaaDoor
open Go.RowKit Go.Shelf Go.BigFrame
attribute [local go_sem] Oper.semAt_some
/-! Whoever goes through the parts: Blocks, Inodes. -/
theorem parts_any (g : GeoV) (w : World) : Calls Tryd.prog 56 #[.agg (gcs g)] w fun e w' => e = .returned (.func (.func 64) #[] #[.pointer (some ⟨w.heap.size, 0, none⟩)]) ∧ w' = w.alloc (.cells (gcs g) 23) := by
  go_enter Tryd.func56, Tryd.ntmps56
  go_wp2
  go_ret
  exact ⟨rfl, rfl⟩
theorem parts_box (g : GeoV) (w : World) : Calls Tryd.prog 56 #[.agg (gcs g)] w fun e w' => ∃ b0, e = .returned (.func (.func 64) #[] #[.pointer (some ⟨b0, 0, none⟩)]) ∧ Below w.heap.size w w' ∧ GVar w' b0 g ∧ w.heap.size ≤ b0 :=
  (parts_any g w).mono fun e w' q => ⟨w.heap.size, q.1, by rw [q.2]; exact (Below.refl _ _).alloc (Nat.le_refl _) _, by rw [q.2]; exact heap_alloc_new _ _, Nat.le_refl _⟩
theorem parts_iter (g : GeoV) (hg : g.Fits) (w : World) (b0 m : Nat) (V : GVar w b0 g) : IterSays Fence.wide m Tryd.prog 64 #[.pointer (some ⟨b0, 0, none⟩)] (numG g) (fun k => #[.agg (pcs (partG g k))]) b0 w := by
  intro l J Jx W hW hJ hJx hy h0
  refine callsIn_wide.2 ?_
  by_cases hm : May g
  · exact iter_may g hg hm l b0 (m - 1) J Jx W (V.below hW) hJ hJx hy h0
  · refine (iter_none g hg hm l b0 W (V.below hW)).mono fun e W' q => ⟨q.1, .inl ?_⟩
    rw [show numG g = 0 from if_neg hm]
    exact hJ _ _ _ h0 q.2
theorem load_geo_in {F : Fence} {n : Nat} {ops : Array Oper} {rest : List Oper} {op : Oper} {a : Act} {w : World} {Q : Exit → Act → World → Prop} (hgd : op.guard = none) (x : Operand) (ho : op.op = .load 23 x) (b o : Nat) (hx : a.eval x = .pointer (some ⟨b, o, none⟩)) (g : GeoV) (hc : GAt w b o g)
    (h : wpListIn F n Tryd.prog ops Q rest (a.put op.dst (.agg (gcs g))) w) : wpListIn F n Tryd.prog ops Q (op :: rest) a w := by
  refine wpListIn_plain hgd fun K hK => ?_
  have hrun : (op.semAt F.round a.eval).run Tryd.prog w = .ok (.value (.agg (gcs g))) w := by
    rw [Oper.semAt_eq F.round a.eval op (fun c e => by rw [ho] at e; cases e)]
    unfold execOp
    have hl := run_loadAt_mid (P := Tryd.prog) w b o 23 (gcs g).toList _ hc Tryd.underlying23 rfl (geo_size g)
    simp only [ho, hx, hl, Sem.run_bind, Sem.run_pure, Result.andThen_ok]
  refine ⟨fun f hf => (by unfold Oper.about at hf; rw [ho] at hf; cases hf), ?_⟩
  rw [hrun]
  exact hK _ _ h
theorem leave_mark {F : Fence} {n D : Nat} {P : Program} {fn : Func} {tmps : Array Value} {R : Ending → World → Prop} {W : World} {v : Value} (hD : W.heap[D]? = some (.deferred (some []))) (hr : (results fn tmps).run P (W.putObj D (.deferred none)) = .ok v (W.putObj D (.deferred none))) (h : R (.returned v) (W.putObj D (.deferred none))) :
    LeavesInM F n P fn tmps R [{ target := .collected D, args := #[] }] .returning W := by
  refine ⟨by simp, .inl ⟨_, _, rfl, run_takeDeferred hD, ?_⟩⟩
  exact ⟨v, hr, h⟩
theorem below_alloc2 (w : World) (o : Obj) : Below w.heap.size w (w.alloc o) := (Below.refl _ w).alloc (Nat.le_refl _) o
theorem first_num {g : GeoV} : (partG g (numG g)).first = blocksG g := by
  unfold numG blocksG
  by_cases h : May g
  · rw [if_pos h, if_pos h]
    have := partG_in g g.gr.toNat (i := 0) (by omega)
    rw [Nat.add_zero] at this
    rw [this]
    show baseG g g.gr.toNat = _
    unfold baseG
    rw [Int.toNat_of_nonneg (by have := h.1; omega)]
  · rw [if_neg h, if_neg h]; rfl

end Go.Proofs.YtmlmpflfejbbcaaDoor
namespace Go.Proofs.YtmlmpflfejbbcaaDoor
open Go.RowKit Go.Shelf Go.BigFrame
attribute [local go_sem] Oper.semAt_some

/-! Inodes: those of the tables' parts. -/
def tabG (g : GeoV) : Nat → Int
  | k + 3 => ((k / 4 : Nat) : Int) * g.ino + if k % 4 = 3 then g.ino else 0
  | _ => 0
theorem tab_zero (g : GeoV) : tabG g 0 = 0 := rfl
theorem tabG_next {g : GeoV} (hm : May g) (k : Nat) : tabG g k + (if (partG g k).kind = 6 then 4 * (partG g k).cnt else 0) = tabG g (k + 1) := by
  have hi : 4 * (g.ino / 4) = g.ino := by have := hm.2.2.2.2.2.2.1; omega
  match k with
  | 0 => rfl
  | 1 => rfl
  | 2 => simp [tabG, partG]
  | k + 3 =>
    show ((k / 4 : Nat) : Int) * g.ino + (if k % 4 = 3 then g.ino else 0) + (if (inG g (k / 4) (k % 4)).kind = 6 then 4 * (inG g (k / 4) (k % 4)).cnt else 0) = (((k + 1) / 4 : Nat) : Int) * g.ino + if (k + 1) % 4 = 3 then g.ino else 0
    have h : k % 4 = 0 ∨ k % 4 = 1 ∨ k % 4 = 2 ∨ k % 4 = 3 := by omega
    rcases h with h | h | h | h
    · rw [h, show (k + 1) % 4 = 1 by omega, show (k + 1) / 4 = k / 4 by omega]; simp [inG]
    · rw [h, show (k + 1) % 4 = 2 by omega, show (k + 1) / 4 = k / 4 by omega]; simp [inG]
    · rw [h, show (k + 1) % 4 = 3 by omega, show (k + 1) / 4 = k / 4 by omega]
      simp [inG, ownG]; omega
    · rw [h, show (k + 1) % 4 = 0 by omega, show (k + 1) / 4 = k / 4 + 1 by omega]
      rw [Int.natCast_add, Int.add_mul]
      simp [inG]
theorem tabG_fits {g : GeoV} (hm : May g) {k : Nat} (hk : k ≤ numG g) : 0 ≤ tabG g k ∧ tabG g k ≤ 4096 := by
  unfold numG at hk
  rw [if_pos hm] at hk
  obtain ⟨m1, m2, m3, m4, m5, m6, m7, m8, m9, m10, m11⟩ := hm
  match k with
  | 0 => simp [tabG]
  | 1 => simp [tabG]
  | 2 => simp [tabG]
  | k + 3 =>
    show 0 ≤ ((k / 4 : Nat) : Int) * g.ino + (if k % 4 = 3 then g.ino else 0) ∧ ((k / 4 : Nat) : Int) * g.ino + (if k % 4 = 3 then g.ino else 0) ≤ 4096
    have h1 : 0 ≤ ((k / 4 : Nat) : Int) * g.ino := Int.mul_nonneg (by omega) (by omega)
    have h2 : ((k / 4 : Nat) : Int) * g.ino ≤ 4 * 64 := Int.mul_le_mul (by omega) m6 (by omega) (by omega)
    split <;> omega
theorem tab_num {g : GeoV} : tabG g (numG g) = inodesG g := by
  unfold numG inodesG
  by_cases h : May g
  · rw [if_pos h, if_pos h, Nat.add_comm]
    show ((4 * g.gr.toNat / 4 : Nat) : Int) * g.ino + (if 4 * g.gr.toNat % 4 = 3 then g.ino else 0) = _
    rw [if_neg (by omega), show 4 * g.gr.toNat / 4 = g.gr.toNat by omega, Int.toNat_of_nonneg (by have := h.1; omega), Int.add_zero]
  · rw [if_neg h, if_neg h]; rfl

set_option maxRecDepth 100000 in
set_option maxHeartbeats 2000000 in
theorem inodes_in (F : Fence) (m : Nat) (hW : F = Fence.wide) (hF : ∀ f, F.fn f) (hro : F.round = none) (hm : 6 ≤ m) (g : GeoV) (hg : g.Fits) (w : World) :
    CallsIn F m Tryd.prog 43 #[.agg (gcs g)] w fun e w' => e = .returned (.int .i64 (inodesG g)) ∧ Below w.heap.size w w' := by
  have hm1 : 1 ≤ m := by omega
  have lift : Hid (∀ n f args W R, Calls Tryd.prog f args W R → CallsIn F n Tryd.prog f args W R) := Lib.hid fun _ _ _ _ _ h => by subst hW; exact callsIn_wide.2 h
  have IT : Hid (∀ W b0 m, GVar W b0 g → IterSays F m Tryd.prog 64 #[.pointer (some ⟨b0, 0, none⟩)] (numG g) (fun k => #[.agg (pcs (partG g k))]) b0 W) := Lib.hid fun W b0 m V => by subst hW; exact parts_iter g hg W b0 m V
  have HF := Lib.hid hF
  clear hW
  have h1 := below_alloc2 w (.cells (gcs g) 23)
  have V1 : Hid (GVar ((w.alloc (.cells (gcs g) 23)).alloc (.cells #[.int .i64 0] 3)) w.heap.size g) := Lib.hid (GVar.below (heap_alloc_new w _) (below_alloc2 _ _))
  have N1 : Hid (Boxed ((w.alloc (.cells (gcs g) 23)).alloc (.cells #[.int .i64 0] 3)) (w.heap.size + 1) 3 (.int .i64 0)) := Lib.hid (by have := Boxed.new (w.alloc (.cells (gcs g) 23)) 3 (.int .i64 0); rwa [World.size_alloc] at this)
  have B1 : Hid (Below w.heap.size w ((w.alloc (.cells (gcs g) 23)).alloc (.cells #[.int .i64 0] 3))) := Lib.hid (h1.alloc (by simp) _)
  have S1 : Hid (((w.alloc (.cells (gcs g) 23)).alloc (.cells #[.int .i64 0] 3)).heap.size = w.heap.size + 2) := Lib.hid (by simp)
  clear h1
  refine callsIn_of_wp_marks Tryd.func43 rfl (hF _) ?_ hro
  simp only [Tryd.ntmps43, List.size_toArray, List.length_cons, List.length_nil, Nat.reduceAdd, Nat.reduceSub, Array.replicate_succ, Array.replicate_zero, List.push_toArray, List.append_toArray, List.nil_append, List.cons_append]
  gi_wp2_with (first | (refine load_geo_in rfl (.tmp 1) rfl w.heap.size 0 rfl g V1.out.at ?_) | (gi_at_call 56; refine (lift.out _ _ _ _ _ (parts_box g _)).mono ?_; rintro e w2 ⟨b0, rfl, hb2, hv2, hz2⟩))
  have V2 := Lib.hid hv2
  have N2 : Hid (Boxed w2 (w.heap.size + 1) 3 (.int .i64 0)) := Lib.hid ((hb2.block _ N1.out.lt).trans N1.out)
  have B2 := Lib.hid (B1.out.trans (hb2.mono B1.out.size))
  have Z2 : Hid (w.heap.size + 2 ≤ b0) := Lib.hid (by rw [← S1.out]; exact hz2)
  clear V1 N1 B1 S1 hb2 hv2 hz2
  obtain ⟨bn, hbn⟩ : ∃ bn, w.heap.size + 1 = bn := ⟨_, rfl⟩
  have Z : Hid (w.heap.size + 1 = bn ∧ bn < b0 ∧ b0 < w2.heap.size) := Lib.hid ⟨hbn, by have := Z2.out; omega, V2.out.lt⟩
  rw [hbn] at N2 ⊢
  clear hbn Z2
  refine wpIn_range_iter hro hm1 (gf := 64) (lb := #[.pointer (some ⟨b0, 0, none⟩)]) rfl (hF _) (enters_of Tryd.func64 (by kernel_rfl) rfl)
    (IT.out w2 b0 _ V2.out) V2.out.lt (Below.refl _ _) (fun _ => rfl)
    (fun k W => Boxed W bn 3 (.int .i64 (tabG g k)) ∧ Below w.heap.size w W) (fun _ _ => False)
    (fun k A B h hb => ⟨(hb.block _ (by have := Z.out; omega)).trans h.1, h.2.trans (hb.mono (by have := Z.out; omega))⟩) (fun _ _ _ h _ => h)
    ⟨by rw [tab_zero]; exact N2.out, B2.out⟩
    (fun k a W => ∃ bp, w2.heap.size + 2 ≤ bp ∧ W.heap[bp]? = some (.cells (pcs (partG g k)) 95 (0, 0)) ∧ a = { tmps := #[Value.agg (gcs g), Value.pointer (some ⟨w.heap.size, 0, none⟩), Value.int .i64 0, Value.pointer (some ⟨bn, 0, none⟩), .pointer (some ⟨bp, 0, none⟩), Value.agg (gcs g), Value.func (.func 64) #[] #[.pointer (some ⟨b0, 0, none⟩)], (.agg (pcs (partG g k))), undef, undef, undef, undef, undef, undef, undef, undef, undef], defers := [] } ∧ Boxed W bn 3 (.int .i64 (tabG g k)) ∧ Below w.heap.size w W)
    (fun k a W o ⟨bp, h1, h2, h3, h4, h5⟩ => ⟨bp, h1, (World.putObj_heap_other (by omega)).trans h2, h3, (World.putObj_heap_other (by have := Z.out; omega)).trans h4, h5.trans (below_putObj W (by have := Z.out; omega) o)⟩) ?assign ?body ?done ?stop
  case assign =>
    rintro l k W K hk hsz ⟨hn, hB⟩ hK
    have HK := Lib.hid (hK _ _ ⟨W.heap.size, hsz, heap_alloc_new W _, rfl, (below_alloc2 W (.cells (pcs (partG g k)) 95) |> fun h => (h.block _ hn.lt).trans hn), hB.trans ((below_alloc2 W _).mono hB.size)⟩ (below_alloc2 W _))
    clear hK hn hB
    generalize partG g k = p at HK ⊢
    obtain ⟨kd, gp, pl, fs, ct⟩ := p
    unfold pcs at HK ⊢
    gi_wp2
    exact HK.out
  case body =>
    rintro l k a W hk ⟨bp, hbp, hp, rfl, hn, hB⟩
    have hmay : May g := by
      by_cases h : May g
      · exact h
      · unfold numG at hk; rw [if_neg h] at hk; omega
    obtain ⟨r1, r2, r3, r4, r5, r6⟩ := partG_fits hmay (Nat.le_of_lt hk)
    have hx := tabG_next hmay k
    have htb := tabG_fits hmay (Nat.le_of_lt hk)
    have HN := Lib.hid hn
    have HB := Lib.hid hB
    have HS := Lib.hid hbp
    have c1 := hn.cell
    have f1 := hn.frozen
    have hlt := hn.lt
    have hnb : bn ≠ bp := by have := Z.out; omega
    clear hmay hk hn hB hbp
    generalize partG g k = p at *
    obtain ⟨kd, gp, pl, fs, ct⟩ := p
    simp only at r1 r2 r3 r4 r5 r6 hx
    have c2 : W.cell? ⟨bp, 4, none⟩ = some (.int .i64 ct) := (cell_of_row W bp 4 _ _ _ hp).trans rfl
    have c3 : W.cell? ⟨bp, 0, none⟩ = some (.int .u8 kd) := (cell_of_row W bp 0 _ _ _ hp).trans rfl
    unfold pcs at hp ⊢
    by_cases h6 : kd = 6
    · have t6 : (kd == 6) = true := by simp [h6]
      rw [if_pos h6] at hx
      have HX := Lib.hid hx
      clear hx
      generalize tabG g k = tv at *
      gi_wp2
      exact ⟨Kept.setCell W (by have := Z.out; show bn ≠ b0; omega) (by have := Z.out; show bn < w2.heap.size; omega) _, by rw [← HX.out]; exact HN.out.set _, HB.out.setCell (p := ⟨bn, 0, none⟩) (by have := Z.out; show w.heap.size ≤ bn; omega) _⟩
    · have t6 : (kd == 6) = false := by simp [h6]
      rw [if_neg h6, Int.add_zero] at hx
      have HX := Lib.hid hx
      clear hx
      gi_wp2
      exact ⟨Kept.refl _ _ _, by rw [← HX.out]; exact HN.out, HB.out⟩
  case done =>
    rintro D W hD ⟨hn, hB⟩ hK
    rw [tab_num] at hn
    have c1 := hn.cell
    have HB := Lib.hid hB
    have HK := Lib.hid hK
    have HD := Lib.hid hD
    clear hn hB hK hD
    gi_wp2
    refine leave_mark HK.out ?_ ⟨rfl, HB.out.trans (below_putObj W (by have := HD.out; have := Z.out; omega) _)⟩
    simp [results, Tryd.f43, go_sem]
  case stop =>
    rintro D k W _ _ h _
    exact h.elim
theorem pInodes (g : GeoV) (w : World) (hg : g.Fits) : Calls Tryd.prog 43 #[.agg (gcs g)] w fun e w' => e = .returned (.int .i64 (inodesG g)) ∧ Below w.heap.size w w' :=
  callsIn_wide.1 (inodes_in Fence.wide 6 rfl (fun _ => trivial) rfl (Nat.le_refl _) g hg w)
end Go.Proofs.YtmlmpflfejbbcaaDoor
