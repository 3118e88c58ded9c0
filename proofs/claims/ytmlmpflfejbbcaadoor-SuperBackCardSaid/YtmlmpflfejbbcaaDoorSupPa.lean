import Derived.Test.YtmlmpflfejbbcaaDoorSupA
import Derived.Test.YtmlmpflfejbbcaaDoorBaseN
import Derived.Test.YtmlmpflfejbbcaaDoorBaseK
import Derived.Deep.RegionWith
import Derived.Test.YtmlmpflfejbbcaaDoorBaseG
import Derived.Test.YtmlmpflfejbbcaaDoorBaseC
namespace Go.Proofs.YtmlmpflfejbbcaaDoor
open Go.RowKit CrcM

/-! Numbers that are put, the world behind it told outright. -/
def set16 (w : World) (g a x : Nat) : World := (w.setCell ⟨g, a, none⟩ (.int .u8 ((x % 256 : Nat) : Int))).setCell ⟨g, a + 1, none⟩ (.int .u8 ((x / 256 % 256 : Nat) : Int))
def set32 (w : World) (g a x : Nat) : World := (((w.setCell ⟨g, a, none⟩ (.int .u8 ((x % 256 : Nat) : Int))).setCell ⟨g, a + 1, none⟩ (.int .u8 ((x / 256 % 256 : Nat) : Int))).setCell ⟨g, a + 2, none⟩ (.int .u8 ((x / 65536 % 256 : Nat) : Int))).setCell ⟨g, a + 3, none⟩ (.int .u8 ((x / 16777216 % 256 : Nat) : Int))
theorem set16_end {w : World} {g a x : Nat} {y0 y1 : Int} (e0 : y0 = ((x % 256 : Nat) : Int)) (e1 : y1 = ((x / 256 % 256 : Nat) : Int)) :
    (w.setCell ⟨g, a, none⟩ (.int .u8 y0)).setCell ⟨g, a + 1, none⟩ (.int .u8 y1) = set16 w g a x := by subst e0 e1; rfl
theorem set32_end {w : World} {g a x : Nat} {y0 y1 y2 y3 : Int} (e0 : y0 = ((x % 256 : Nat) : Int)) (e1 : y1 = ((x / 256 % 256 : Nat) : Int)) (e2 : y2 = ((x / 65536 % 256 : Nat) : Int)) (e3 : y3 = ((x / 16777216 % 256 : Nat) : Int)) :
    (((w.setCell ⟨g, a, none⟩ (.int .u8 y0)).setCell ⟨g, a + 1, none⟩ (.int .u8 y1)).setCell ⟨g, a + 2, none⟩ (.int .u8 y2)).setCell ⟨g, a + 3, none⟩ (.int .u8 y3) = set32 w g a x := by subst e0 e1 e2 e3; rfl
set_option maxHeartbeats 400000 in
theorem put32_w (g n c a x : Nat) (f : Nat → Nat) (w : World) (hn : n ≤ 140737488355328) (hc : Cells8 w g 0 n f) (h1 : a + 4 ≤ n) (hv : x < 4294967296) :
    Calls Tryd.prog 67 #[.slice (some ⟨g, 0, none⟩) n c, .int .i64 a, .int .u32 x] w fun e w' => e = .returned (.bool true) ∧ w' = set32 w g a x := by
  have c3 := hc.cell (a + 3) (by omega)
  have c2 := hc.cell (a + 2) (by omega)
  have c1 := hc.cell (a + 1) (by omega)
  have c0 := hc.cell a (by omega)
  rw [Nat.zero_add] at c0 c1 c2 c3
  have z3 := hc.frozen (a + 3)
  have z2 := hc.frozen (a + 2)
  have z1 := hc.frozen (a + 1)
  have z0 := hc.frozen a
  clear hc
  go_enter Tryd.func67, Tryd.ntmps67
  go_wp2_with (first | (go_at_call 62; refine (w32_any _).mono ?_; rintro e w' ⟨rfl, rfl⟩) | (go_at_call 63; refine (within_yes _ _ _ _ _ _ (by omega) (by omega) (by omega) (by omega) (by omega)).mono ?_; rintro e w' ⟨rfl, rfl⟩))
  refine wp_loop_rounds 5 ?_
  iterate 5 (rw [rounds_succ]; go_wp2)
  go_ret
  exact ⟨rfl, set32_end (by omega) (by omega) (by omega) (by omega)⟩
set_option maxHeartbeats 400000 in
theorem put16_w (g n c a x : Nat) (f : Nat → Nat) (w : World) (hn : n ≤ 140737488355328) (hc : Cells8 w g 0 n f) (h1 : a + 2 ≤ n) (hv : x < 65536) :
    Calls Tryd.prog 66 #[.slice (some ⟨g, 0, none⟩) n c, .int .i64 a, .int .u16 x] w fun e w' => e = .returned (.bool true) ∧ w' = set16 w g a x := by
  have c1 := hc.cell (a + 1) (by omega)
  have c0 := hc.cell a (by omega)
  rw [Nat.zero_add] at c0 c1
  have z1 := hc.frozen (a + 1)
  have z0 := hc.frozen a
  clear hc
  go_enter Tryd.func66, Tryd.ntmps66
  go_wp2_with (first | (go_at_call 68; refine (w16_any _).mono ?_; rintro e w' ⟨rfl, rfl⟩) | (go_at_call 63; refine (within_yes _ _ _ _ _ _ (by omega) (by omega) (by omega) (by omega) (by omega)).mono ?_; rintro e w' ⟨rfl, rfl⟩))
  refine wp_loop_rounds 3 ?_
  iterate 3 (rw [rounds_succ]; go_wp2)
  go_ret
  exact ⟨rfl, set16_end (by omega) (by omega)⟩
theorem Put32_w (g n c a x : Nat) (f : Nat → Nat) (w : World) (hn : n ≤ 140737488355328) (hc : Cells8 w g 0 n f) (h1 : a + 4 ≤ n) (hv : x < 4294967296) :
    Calls Tryd.prog 58 #[.slice (some ⟨g, 0, none⟩) n c, .int .i64 a, .int .u32 x] w fun e w' => e = .returned (.bool true) ∧ w' = set32 w g a x := by
  have H := Lib.hid hc
  clear hc
  go_enter Tryd.func58, Tryd.ntmps58
  go_wp2_with (go_at_call 67; refine (put32_w _ _ _ _ _ _ _ hn H.out h1 hv).mono ?_; rintro e w' ⟨rfl, rfl⟩)
  go_ret
  exact ⟨rfl, rfl⟩
theorem Put16_w (g n c a x : Nat) (f : Nat → Nat) (w : World) (hn : n ≤ 140737488355328) (hc : Cells8 w g 0 n f) (h1 : a + 2 ≤ n) (hv : x ≤ 65535) :
    Calls Tryd.prog 57 #[.slice (some ⟨g, 0, none⟩) n c, .int .i64 a, .int .u32 x] w fun e w' => e = .returned (.bool true) ∧ w' = set16 w g a x := by
  have H := Lib.hid hc
  clear hc
  go_enter Tryd.func57, Tryd.ntmps57
  go_wp2_with (go_at_call 66; refine (put16_w _ _ _ _ _ _ _ hn H.out h1 (by omega)).mono ?_; rintro e w' ⟨rfl, rfl⟩)
  go_ret
  exact ⟨rfl, rfl⟩
end Go.Proofs.YtmlmpflfejbbcaaDoor
namespace Go.Proofs.YtmlmpflfejbbcaaDoor
open Go.RowKit CrcM

/-! The page: a block and how far it has been gone through, in memory. -/
@[irreducible] def pgs (X : Blk) (k : Nat) : Array Value := (arr X).push (.int .i64 (k : Int))
theorem pgs_size (X : Blk) (k : Nat) : (pgs X k).size = 257 := by unfold pgs; simp [arr_size]
theorem pgs_byte {X : Blk} {k i : Nat} (h : i < 256) : (pgs X k)[i]? = some (.int .u8 ((X.f i : Nat) : Int)) := by
  unfold pgs
  rw [Array.getElem?_push, if_neg (by rw [arr_size]; omega), arr_get h]
theorem pgs_at (X : Blk) (k : Nat) : (pgs X k)[256]? = some (.int .i64 (k : Int)) := by
  unfold pgs
  rw [Array.getElem?_push, if_pos (by rw [arr_size])]
theorem pgs_ext {A : Array Value} {X : Blk} {k : Nat} (hs : A.size = 257) (h : ∀ i, i < 256 → A[i]? = some (.int .u8 ((X.f i : Nat) : Int))) (ha : A[256]? = some (.int .i64 (k : Int))) : A = pgs X k := by
  apply Array.ext_getElem?
  intro i
  rcases Nat.lt_trichotomy i 256 with q | q | q
  · rw [h i q, pgs_byte q]
  · subst q; rw [ha, pgs_at]
  · rw [Array.getElem?_eq_none (by omega), Array.getElem?_eq_none (by rw [pgs_size]; omega)]
theorem pgs_go (X : Blk) (k j : Nat) : (pgs X k).setIfInBounds 256 (.int .i64 (j : Int)) = pgs X j := by
  refine pgs_ext (by simp [pgs_size]) (fun i hi => ?_) ?_
  · rw [Array.getElem?_setIfInBounds_ne (by omega), pgs_byte hi]
  · rw [Array.getElem?_setIfInBounds_self_of_lt (by rw [pgs_size]; omega)]
theorem pgs_put16 {X : Blk} {k a v : Nat} (h : a + 2 ≤ 256) : ((pgs X k).setIfInBounds a (.int .u8 ((v % 256 : Nat) : Int))).setIfInBounds (a + 1) (.int .u8 ((v / 256 % 256 : Nat) : Int)) = pgs (putB16 X a v) k := by
  refine pgs_ext (by simp [pgs_size]) (fun i hi => ?_) ?_
  · rw [putB16_f hi, p16_at]
    by_cases e1 : i = a + 1
    · subst e1
      rw [Array.getElem?_setIfInBounds_self_of_lt (by simp [pgs_size]; omega), if_pos rfl]
    · rw [Array.getElem?_setIfInBounds_ne (by omega), if_neg e1]
      by_cases e0 : i = a
      · subst e0
        rw [Array.getElem?_setIfInBounds_self_of_lt (by simp [pgs_size]; omega), if_pos rfl]
      · rw [Array.getElem?_setIfInBounds_ne (by omega), if_neg e0, pgs_byte hi]
  · rw [Array.getElem?_setIfInBounds_ne (by omega), Array.getElem?_setIfInBounds_ne (by omega), pgs_at]
theorem pgs_put32 {X : Blk} {k a v : Nat} (h : a + 4 ≤ 256) : ((((pgs X k).setIfInBounds a (.int .u8 ((v % 256 : Nat) : Int))).setIfInBounds (a + 1) (.int .u8 ((v / 256 % 256 : Nat) : Int))).setIfInBounds (a + 2) (.int .u8 ((v / 65536 % 256 : Nat) : Int))).setIfInBounds (a + 3) (.int .u8 ((v / 16777216 % 256 : Nat) : Int)) = pgs (putB32 X a v) k := by
  refine pgs_ext (by simp [pgs_size]) (fun i hi => ?_) ?_
  · rw [putB32_f hi, p32_at]
    by_cases e3 : i = a + 3
    · subst e3
      rw [Array.getElem?_setIfInBounds_self_of_lt (by simp [pgs_size]; omega), if_pos rfl]
    · rw [Array.getElem?_setIfInBounds_ne (by omega), if_neg e3]
      by_cases e2 : i = a + 2
      · subst e2
        rw [Array.getElem?_setIfInBounds_self_of_lt (by simp [pgs_size]; omega), if_pos rfl]
      · rw [Array.getElem?_setIfInBounds_ne (by omega), if_neg e2]
        by_cases e1 : i = a + 1
        · subst e1
          rw [Array.getElem?_setIfInBounds_self_of_lt (by simp [pgs_size]; omega), if_pos rfl]
        · rw [Array.getElem?_setIfInBounds_ne (by omega), if_neg e1]
          by_cases e0 : i = a
          · subst e0
            rw [Array.getElem?_setIfInBounds_self_of_lt (by simp [pgs_size]; omega), if_pos rfl]
          · rw [Array.getElem?_setIfInBounds_ne (by omega), if_neg e0, pgs_byte hi]
  · rw [Array.getElem?_setIfInBounds_ne (by omega), Array.getElem?_setIfInBounds_ne (by omega), Array.getElem?_setIfInBounds_ne (by omega), Array.getElem?_setIfInBounds_ne (by omega), pgs_at]

def PVar (w : World) (p : Nat) (X : Blk) (k : Nat) : Prop := w.heap[p]? = some (.cells (pgs X k) 67 (0, 0))
section
variable {w w' : World} {p : Nat} {X : Blk} {k : Nat}
theorem PVar.lt (h : PVar w p X k) : p < w.heap.size := (Array.getElem?_eq_some_iff.1 h).1
theorem PVar.keep (h : PVar w p X k) (hk : w'.heap[p]? = w.heap[p]?) : PVar w' p X k := hk.trans h
theorem PVar.below (h : PVar w p X k) (hb : Below w.heap.size w w') : PVar w' p X k := (hb.block p h.lt).trans h
theorem PVar.at (h : PVar w p X k) : At w p 0 X := .of fun i hi => by
  rw [Nat.zero_add, cell_of_row w p i _ _ _ h, pgs_byte hi]
theorem PVar.pos (h : PVar w p X k) : w.cell? ⟨p, 256, none⟩ = some (.int .i64 (k : Int)) := by
  rw [cell_of_row w p 256 _ _ _ h, pgs_at]
theorem PVar.frozen (h : PVar w p X k) (i : Nat) : w.frozen? ⟨p, i, none⟩ = false := by simp [World.frozen?, show w.heap[p]? = _ from h]
theorem PVar.cells (h : PVar w p X k) : Cells8 w p 0 256 X.f := ⟨_, _, h, fun i hi => by rw [Nat.zero_add]; exact pgs_byte hi⟩
theorem PVar.row (h : PVar w p X k) {n : Nat} (hn : n ≤ 256) : Row w (some ⟨p, 0, none⟩) n X.f :=
  ⟨X.lt, fun _ => ⟨p, 0, rfl, h.lt, fun i hi => by have := h.at.cell (i := i) (by omega); exact this⟩⟩
theorem PVar.drewN (h : PVar w p X k) (n : Nat) : PVar (w.drewN n) p X k := h
theorem PVar.go (h : PVar w p X k) (j : Nat) : PVar (w.setCell ⟨p, 256, none⟩ (.int .i64 (j : Int))) p X j := by
  unfold PVar at *
  simp [World.setCell, Array.getElem?_modify, h, pgs_go]
theorem PVar.set16 (h : PVar w p X k) {a v : Nat} (ha : a + 2 ≤ 256) : PVar (set16 w p a v) p (putB16 X a v) k := by
  unfold PVar Go.Proofs.YtmlmpflfejbbcaaDoor.set16 at *
  simp [World.setCell, Array.getElem?_modify, h]
  exact pgs_put16 ha
theorem PVar.set32 (h : PVar w p X k) {a v : Nat} (ha : a + 4 ≤ 256) : PVar (set32 w p a v) p (putB32 X a v) k := by
  unfold PVar Go.Proofs.YtmlmpflfejbbcaaDoor.set32 at *
  simp [World.setCell, Array.getElem?_modify, h]
  exact pgs_put32 ha
end
theorem Only.set16 (w : World) (g a x : Nat) : Only g w (set16 w g a x) := (Only.set _ _ _ _).trans (Only.set _ _ _ _)
theorem Only.set32 (w : World) (g a x : Nat) : Only g w (set32 w g a x) := (((Only.set _ _ _ _).trans (Only.set _ _ _ _)).trans (Only.set _ _ _ _)).trans (Only.set _ _ _ _)
/-- next: where the next number stands; behind it. -/
theorem next_any (p k n : Nat) (X : Blk) (w : World) (h : PVar w p X k) (hk : k ≤ 1000) (hn : n ≤ 1000) :
    Calls Tryd.prog 52 #[.pointer (some ⟨p, 256, none⟩), .int .i64 (n : Int)] w fun e w' => e = .returned (.int .i64 (k : Int)) ∧ w' = w.setCell ⟨p, 256, none⟩ (.int .i64 ((k + n : Nat) : Int)) := by
  have c := h.pos
  have f := h.frozen 256
  have hw : IntKind.i64.wrap ((k : Int) + n) = ((k + n : Nat) : Int) := by rw [IntKind.wrap_i64]; omega
  clear h
  go_enter Tryd.func52, Tryd.ntmps52
  go_wp2
  go_ret
  exact ⟨rfl, by first | rfl | simp⟩
end Go.Proofs.YtmlmpflfejbbcaaDoor
namespace Go.Proofs.YtmlmpflfejbbcaaDoor
open Go.RowKit CrcM

theorem putLong_end {w : World} {p k v : Nat} {X : Blk} (h : PVar w p X k) (hk : k + 4 ≤ 256) (y : Int) (hy : y = ((k + 4 : Nat) : Int)) : PVar (set32 ((w.drewN 1).setCell ⟨p, 256, none⟩ (.int .i64 y)) p k v) p (putB32 X k v) (k + 4) ∧ Only p w (set32 ((w.drewN 1).setCell ⟨p, 256, none⟩ (.int .i64 y)) p k v) := by
  subst hy
  exact ⟨((h.drewN 1).go _).set32 hk, ((Only.drewN p w 1).trans (Only.set _ _ _ _)).trans (Only.set32 _ _ _ _)⟩
set_option maxRecDepth 100000 in
set_option maxHeartbeats 2000000 in
theorem putLong_any (p k qb qo v : Nat) (X : Blk) (w : World) (hP : PVar w p X k) (hk : k + 4 ≤ 256) (hne : qb ≠ p) (hq : w.cell? ⟨qb, qo, none⟩ = some (.int .u32 (v : Int))) (hv : v < 4294967296) :
    Calls Tryd.prog 45 #[.pointer (some ⟨p, 0, none⟩), .pointer (some ⟨qb, qo, none⟩)] w fun e w' => e = .returned (.tuple #[]) ∧ PVar w' p (putB32 X k v) (k + 4) ∧ Only p w w' := by
  have HP := Lib.hid hP
  clear hP
  go_enter Tryd.func45, Tryd.ntmps45
  go_region_with (first
    | (go_at_call 52; refine (next_any p k 4 X _ (HP.out.drewN 1) (by omega) (by omega)).mono ?_; rintro e w' ⟨rfl, rfl⟩)
    | (go_at_call 58; refine (Put32_w p 256 256 k v X.f _ (by omega) (PVar.cells (PVar.go (HP.out.drewN 1) (k + 4))) hk hv).mono ?_; rintro e w' ⟨rfl, rfl⟩))
  all_goals refine bodyPost_end (results_none rfl _ _ _) rfl ?_
  all_goals exact ⟨rfl, putLong_end HP.out hk _ (by omega)⟩
set_option maxRecDepth 100000 in
set_option maxHeartbeats 2000000 in
theorem getLong_any (p k qb qo v : Nat) (X : Blk) (w : World) (hP : PVar w p X k) (hk : k + 4 ≤ 256) (hne : qb ≠ p) (hq : w.cell? ⟨qb, qo, none⟩ = some (.int .u32 (v : Int))) (hz : w.frozen? ⟨qb, qo, none⟩ = false) :
    Calls Tryd.prog 33 #[.pointer (some ⟨p, 0, none⟩), .pointer (some ⟨qb, qo, none⟩)] w fun e w' => e = .returned (.tuple #[]) ∧ w' = ((w.setCell ⟨p, 256, none⟩ (.int .i64 ((k + 4 : Nat) : Int))).setCell ⟨qb, qo, none⟩ (.int .u32 ((g32 X.f k : Nat) : Int))).drewN 1 := by
  have HP := Lib.hid hP
  clear hP
  go_enter Tryd.func33, Tryd.ntmps33
  go_region_with (first
    | (go_at_call 52; refine (next_any p k 4 X _ (HP.out.drewN 1) (by omega) (by omega)).mono ?_; rintro e w' ⟨rfl, rfl⟩)
    | (go_at_call 39; refine (Get32_yes _ 256 256 k X.f _ (by omega) (PVar.row (PVar.go (HP.out.drewN 1) (k + 4)) (Nat.le_refl _)) (by omega) (by omega)).mono ?_; rw [Int.toNat_natCast]; rintro e w' ⟨rfl, rfl⟩))
  all_goals refine bodyPost_end (results_none rfl _ _ _) rfl ?_
  all_goals exact ⟨rfl, rfl⟩
end Go.Proofs.YtmlmpflfejbbcaaDoor
namespace Go.Proofs.YtmlmpflfejbbcaaDoor
open Go.RowKit CrcM

theorem Only.cell {g : Nat} {w w' : World} (h : Only g w w') {a : Addr} {v : Value} (hne : a.block ≠ g) (hc : w.cell? a = some v) : w'.cell? a = some v := by
  have e := h.block a.block (World.block_lt_of_cell? w _ hc) (fun q => hne (Option.some.inj q))
  rw [← hc]
  simp [World.cell?, e]
theorem Only.frozen {g : Nat} {w w' : World} (h : Only g w w') {a : Addr} {v : Value} (hne : a.block ≠ g) (hc : w.cell? a = some v) : w'.frozen? a = w.frozen? a := by
  have e := h.block a.block (World.block_lt_of_cell? w _ hc) (fun q => hne (Option.some.inj q))
  simp [World.frozen?, e]
/-- Numbers of 16 bits, one behind the other. -/
def putsT : Blk → Nat → List (Nat × Nat × Nat) → Blk
  | x, _, [] => x
  | x, k, t :: ts => putsT (putB16 x k t.2.2) (k + 2) ts
theorem putsT_snoc (t : Nat × Nat × Nat) : ∀ (ts : List (Nat × Nat × Nat)) (x : Blk) (k : Nat), putsT x k (ts ++ [t]) = putB16 (putsT x k ts) (k + 2 * ts.length) t.2.2
  | [], _, _ => rfl
  | s :: ts, x, k => by
    have := putsT_snoc t ts (putB16 x k s.2.2) (k + 2)
    rw [List.cons_append, putsT, this, putsT, List.length_cons, show k + 2 + 2 * ts.length = k + 2 * (ts.length + 1) by omega]
theorem putsT_take {ts : List (Nat × Nat × Nat)} {j : Nat} {t : Nat × Nat × Nat} (h : ts[j]? = some t) (x : Blk) (k : Nat) : putsT x k (ts.take (j + 1)) = putB16 (putsT x k (ts.take j)) (k + 2 * j) t.2.2 := by
  have hj : j < ts.length := by
    rcases Nat.lt_or_ge j ts.length with q | q
    · exact q
    · rw [List.getElem?_eq_none q] at h; cases h
  rw [List.take_add_one, h]
  show putsT x k (ts.take j ++ [t]) = _
  rw [putsT_snoc, List.length_take, Nat.min_eq_left (by omega)]
theorem putShort_end {w : World} {p k v : Nat} {X : Blk} (h : PVar w p X k) (hk : k + 2 ≤ 256) (y : Int) (hy : y = ((k + 2 : Nat) : Int)) : PVar (set16 ((w.drewN 1).setCell ⟨p, 256, none⟩ (.int .i64 y)) p k v) p (putB16 X k v) (k + 2) ∧ Only p w (set16 ((w.drewN 1).setCell ⟨p, 256, none⟩ (.int .i64 y)) p k v) := by
  subst hy
  exact ⟨((h.drewN 1).go _).set16 hk, ((Only.drewN p w 1).trans (Only.set _ _ _ _)).trans (Only.set16 _ _ _ _)⟩
/-- The pointers' row, and what lies where they lead. -/
def PutRow (w : World) (p rb : Nat) (ts : List (Nat × Nat × Nat)) : Prop :=
  rb ≠ p ∧ ∀ i t, ts[i]? = some t → w.cell? ⟨rb, i, none⟩ = some (.pointer (some ⟨t.1, t.2.1, none⟩)) ∧ t.1 ≠ p ∧ w.cell? ⟨t.1, t.2.1, none⟩ = some (.int .i64 (t.2.2 : Int)) ∧ t.2.2 < 65536
set_option maxRecDepth 100000 in
set_option maxHeartbeats 2000000 in
theorem putShorts_any (p k rb m c : Nat) (X : Blk) (ts : List (Nat × Nat × Nat)) (w : World) (hP : PVar w p X k) (hm : m = ts.length) (hk : k + 2 * m ≤ 256) (hR : PutRow w p rb ts) :
    Calls Tryd.prog 44 #[.pointer (some ⟨p, 0, none⟩), .slice (some ⟨rb, 0, none⟩) m c] w fun e w' => e = .returned (.tuple #[]) ∧ PVar w' p (putsT X k ts) (k + 2 * m) ∧ Only p w w' := by
  have HP := Lib.hid hP
  have HR := Lib.hid hR
  have M := Lib.hid hm
  clear hP hR hm
  go_enter Tryd.func44, Tryd.ntmps44
  go_wp2
  go_loopw [8] (fun i wr => ∃ j : Nat, j ≤ m ∧ i = .int .i64 j ∧ PVar wr p (putsT X k (ts.take j)) (k + 2 * j) ∧ Only p w wr) (fun i _ => m - (intOf i).toNat)
  case atStart => exact ⟨0, Nat.zero_le _, rfl, HP.out, Only.refl _ _⟩
  case round =>
    obtain ⟨j, hj, rfl, hpv, hon⟩ := hrel
    have PV := Lib.hid hpv
    have ON := Lib.hid hon
    clear hpv hon
    by_cases hlt : j < m
    · have hlt' : j < ts.length := by have := M.out; omega
      obtain ⟨⟨qb, qo, v⟩, ht⟩ : ∃ t, ts[j]? = some t := ⟨_, List.getElem?_eq_getElem hlt'⟩
      have T := Lib.hid (putsT_take ht X k)
      obtain ⟨hr1, hr2, hr3, hr4⟩ := HR.out.2 j _ ht
      have c1 := ON.out.cell (show rb ≠ p from HR.out.1) hr1
      have c2 := ON.out.cell (show qb ≠ p from hr2) hr3
      simp only at c1 c2 hr2 hr4 T
      have u : IntKind.u32.wrap (v : Int) = v := by rw [IntKind.wrap_u32]; omega
      have u2 : (v : Int) % 4294967296 = v := by omega
      clear ht hr1 hr3 hlt'
      generalize putsT X k (ts.take j) = Y at PV T
      go_wp2_with fail
      go_region_with (first
        | (go_at_call 52; refine (next_any p (k + 2 * j) 2 Y _ (PV.out.drewN 1) (by omega) (by omega)).mono ?_; rintro e w' ⟨rfl, rfl⟩)
        | (go_at_call 57; refine (Put16_w p 256 256 (k + 2 * j) v Y.f _ (by omega) (PVar.cells (PVar.go (PV.out.drewN 1) (k + 2 * j + 2))) (by omega) (by omega)).mono ?_; rintro e w' ⟨rfl, rfl⟩))
      all_goals have Q1 := Lib.hid (putShort_end (v := v) PV.out (by omega) ((k : Int) + 2 * j + 2) (by omega))
      all_goals generalize set16 ((wr.drewN 1).setCell { block := p, off := 256 } (Value.int IntKind.i64 ((k : Int) + 2 * j + 2))) p (k + 2 * j) v = w9 at Q1 ⊢
      all_goals go_wp2
      all_goals go_roundw
      all_goals first
        | exact ⟨j + 1, by omega, by go_num, by rw [T.out, show k + 2 * (j + 1) = k + 2 * j + 2 by omega]; exact Q1.out.1, ON.out.trans Q1.out.2⟩
        | (simp [intOf]; omega)
    · have e : ts.take j = ts := by rw [List.take_of_length_le]; have := M.out; omega
      have e2 : j = m := by omega
      subst e2
      have Q := PV.out
      rw [e] at Q
      have PQ := Lib.hid Q
      clear Q e
      go_wp2
      refine bodyPost_end (results_none rfl _ _ _) rfl ?_
      exact ⟨rfl, PQ.out, ON.out⟩
end Go.Proofs.YtmlmpflfejbbcaaDoor
namespace Go.Proofs.YtmlmpflfejbbcaaDoor
open Go.RowKit CrcM

theorem Only.setBoth {g : Nat} {a b : World} (h : Only g a b) {q : Addr} (v : Value) : Only g (a.setCell q v) (b.setCell q v) := by
  refine ⟨h.os, h.tape, h.output, ?_, fun i hi hne => ?_⟩
  · simpa [World.setCell] using h.size
  · have e := h.block i (by simpa [World.setCell] using hi) hne
    simp only [World.setCell, Array.getElem?_modify]
    rw [e]
/-- Numbers of 16 bits out of a block, one behind the other, into cells. -/
def getsT (x : Blk) : Nat → List (Nat × Nat) → World → World
  | _, [], w => w
  | k, t :: ts, w => getsT x (k + 2) ts (w.setCell ⟨t.1, t.2, none⟩ (.int .i64 ((g16 x.f k : Nat) : Int)))
theorem getsT_snoc (x : Blk) (t : Nat × Nat) : ∀ (ts : List (Nat × Nat)) (k : Nat) (w : World), getsT x k (ts ++ [t]) w = (getsT x k ts w).setCell ⟨t.1, t.2, none⟩ (.int .i64 ((g16 x.f (k + 2 * ts.length) : Nat) : Int))
  | [], _, _ => rfl
  | s :: ts, k, w => by
    have := getsT_snoc x t ts (k + 2) (w.setCell ⟨s.1, s.2, none⟩ (.int .i64 ((g16 x.f k : Nat) : Int)))
    rw [List.cons_append, getsT, this, getsT, List.length_cons, show k + 2 + 2 * ts.length = k + 2 * (ts.length + 1) by omega]
theorem getsT_take {ts : List (Nat × Nat)} {j : Nat} {t : Nat × Nat} (h : ts[j]? = some t) (x : Blk) (k : Nat) (w : World) : getsT x k (ts.take (j + 1)) w = (getsT x k (ts.take j) w).setCell ⟨t.1, t.2, none⟩ (.int .i64 ((g16 x.f (k + 2 * j) : Nat) : Int)) := by
  have hj : j < ts.length := by
    rcases Nat.lt_or_ge j ts.length with q | q
    · exact q
    · rw [List.getElem?_eq_none q] at h; cases h
  rw [List.take_add_one, h]
  show getsT x k (ts.take j ++ [t]) w = _
  rw [getsT_snoc, List.length_take, Nat.min_eq_left (by omega)]
/-- The pointers' row, and what lies where they lead. -/
def GetRow (w : World) (p rb : Nat) (ts : List (Nat × Nat)) : Prop :=
  rb ≠ p ∧ ∀ i t, ts[i]? = some t → w.cell? ⟨rb, i, none⟩ = some (.pointer (some ⟨t.1, t.2, none⟩)) ∧ t.1 ≠ p ∧ t.1 ≠ rb ∧ (∃ v, w.cell? ⟨t.1, t.2, none⟩ = some (.int .i64 v)) ∧ w.frozen? ⟨t.1, t.2, none⟩ = false
theorem GetRow.set {w : World} {p rb : Nat} {ts : List (Nat × Nat)} (h : GetRow w p rb ts) {q : Addr} (hq : q.block ≠ rb) (x : Int) : GetRow (w.setCell q (.int .i64 x)) p rb ts :=
  ⟨h.1, fun i t ht => by
    obtain ⟨h1, h2, h3, ⟨v, h4⟩, h5⟩ := h.2 i t ht
    refine ⟨?_, h2, h3, ?_, by rw [World.frozen?_setCell]; exact h5⟩
    · rw [World.cell?_setCell_other _ _ _ _ (fun e => hq (by rw [e]))]; exact h1
    · by_cases e : q = ⟨t.1, t.2, none⟩
      · subst e; exact ⟨x, World.cell?_setCell_same _ _ _ h4⟩
      · exact ⟨v, by rw [World.cell?_setCell_other _ _ _ _ e]; exact h4⟩⟩
theorem GetRow.sets {p rb : Nat} {ts : List (Nat × Nat)} (X : Blk) : ∀ (us : List (Nat × Nat)) (k : Nat) (w : World), (∀ t ∈ us, t.1 ≠ rb) → GetRow w p rb ts → GetRow (getsT X k us w) p rb ts
  | [], _, _, _, h => h
  | u :: us, k, w, hu, h => by
    rw [getsT]
    exact GetRow.sets X us (k + 2) _ (fun t ht => hu t (by simp [ht])) (h.set (hu u (by simp)) _)
theorem getShort_end {W wr : World} {p k qb qo : Nat} {Y : Blk} (h : PVar wr p Y k) (hne : qb ≠ p) (hO : Only p W wr) (y x : Int) (hy : y = ((k + 2 : Nat) : Int)) :
    PVar (((wr.drewN 1).setCell ⟨p, 256, none⟩ (.int .i64 y)).setCell ⟨qb, qo, none⟩ (.int .i64 x)) p Y (k + 2) ∧ Only p (W.setCell ⟨qb, qo, none⟩ (.int .i64 x)) (((wr.drewN 1).setCell ⟨p, 256, none⟩ (.int .i64 y)).setCell ⟨qb, qo, none⟩ (.int .i64 x)) := by
  subst hy
  refine ⟨((h.drewN 1).go (k + 2)).keep ?_, Only.setBoth ((hO.trans (Only.drewN p wr 1)).trans (Only.set _ _ _ _)) _⟩
  exact Below.heap_setCell _ _ _ _ (fun e => hne e.symm)
set_option maxRecDepth 100000 in
set_option maxHeartbeats 2000000 in
theorem getShorts_any (p k rb m c : Nat) (X : Blk) (ts : List (Nat × Nat)) (w : World) (hP : PVar w p X k) (hm : m = ts.length) (hk : k + 2 * m ≤ 256) (hR : GetRow w p rb ts) :
    Calls Tryd.prog 32 #[.pointer (some ⟨p, 0, none⟩), .slice (some ⟨rb, 0, none⟩) m c] w fun e w' => e = .returned (.tuple #[]) ∧ PVar w' p X (k + 2 * m) ∧ Only p (getsT X k ts w) w' := by
  have HP := Lib.hid hP
  have HR := Lib.hid hR
  have M := Lib.hid hm
  clear hP hR hm
  go_enter Tryd.func32, Tryd.ntmps32
  go_wp2
  go_loopw [10] (fun i wr => ∃ j : Nat, j ≤ m ∧ i = .int .i64 j ∧ PVar wr p X (k + 2 * j) ∧ Only p (getsT X k (ts.take j) w) wr) (fun i _ => m - (intOf i).toNat)
  case atStart => exact ⟨0, Nat.zero_le _, rfl, HP.out, Only.refl _ _⟩
  case round =>
    obtain ⟨j, hj, rfl, hpv, hon⟩ := hrel
    have PV := Lib.hid hpv
    have ON := Lib.hid hon
    clear hpv hon
    by_cases hlt : j < m
    · have hlt' : j < ts.length := by have := M.out; omega
      obtain ⟨⟨qb, qo⟩, ht⟩ : ∃ t, ts[j]? = some t := ⟨_, List.getElem?_eq_getElem hlt'⟩
      have T := Lib.hid (getsT_take ht X k w)
      have HR2 : GetRow (getsT X k (ts.take j) w) p rb ts := GetRow.sets X _ k w (fun t ht => by
        obtain ⟨i, hi⟩ := List.mem_iff_getElem?.1 (List.mem_of_mem_take ht)
        exact (HR.out.2 i t hi).2.2.1) HR.out
      generalize getsT X k (ts.take j) w = W at ON T HR2
      obtain ⟨hr1, hr2, hr3, ⟨v, hr4⟩, hr5⟩ := HR2.2 j _ ht
      have c1 := ON.out.cell (show rb ≠ p from HR.out.1) hr1
      have c2 := ON.out.cell (show qb ≠ p from hr2) hr4
      have z2 := (ON.out.frozen (show qb ≠ p from hr2) hr4).trans hr5
      simp only at c1 c2 z2 hr2 T
      have l16 := g16_lt X.lt (k + 2 * j)
      clear ht hr1 hr3 hr4 hr5 hlt' HR2
      go_wp2_with fail
      go_region_with (first
        | (go_at_call 52; refine (next_any p (k + 2 * j) 2 X _ (PV.out.drewN 1) (by omega) (by omega)).mono ?_; rintro e w' ⟨rfl, rfl⟩)
        | (go_at_call 51; refine (Get16_yes _ 256 256 ((k + 2 * j : Nat) : Int) X.f _ (by omega) (PVar.row (PVar.go (PV.out.drewN 1) (k + 2 * j + 2)) (Nat.le_refl _)) (by omega) (by omega)).mono ?_; rw [Int.toNat_natCast]; rintro e w' ⟨rfl, rfl⟩))
      all_goals go_wp2
      all_goals go_roundw
      all_goals first
        | exact ⟨j + 1, by omega, by go_num, by rw [show k + 2 * (j + 1) = k + 2 * j + 2 by omega]; exact (getShort_end PV.out hr2 ON.out _ _ (by omega)).1, by rw [T.out]; exact (getShort_end PV.out hr2 ON.out _ _ (by omega)).2⟩
        | (simp [intOf]; omega)
    · have e : ts.take j = ts := by rw [List.take_of_length_le]; have := M.out; omega
      have e2 : j = m := by omega
      subst e2
      have Q := ON.out
      rw [e] at Q
      have PQ := Lib.hid Q
      clear Q e
      go_wp2
      refine bodyPost_end (results_none rfl _ _ _) rfl ?_
      exact ⟨rfl, PV.out, PQ.out⟩
end Go.Proofs.YtmlmpflfejbbcaaDoor
namespace Go.Proofs.YtmlmpflfejbbcaaDoor
open Go.RowKit CrcM

theorem below_new (W : World) (o : Obj) : Below W.heap.size W (W.alloc o) := (Below.refl _ _).alloc (Nat.le_refl _) o
theorem Only.of_below {g : Nat} {w w' : World} (h : Below w.heap.size w w') : Only g w w' := ⟨h.os, h.tape, h.output, h.size, fun i hi _ => h.block i hi⟩
theorem Only.row {g r : Nat} {w0 w : World} (h : Only g w0 w) (hr : w0.heap.size ≤ r) (cs : Array Value) : Only g w0 (w.setRow r cs) :=
  ⟨h.os, h.tape, h.output, Nat.le_trans h.size (by simp [World.setRow]), fun i hi hne => (setRow_other w r i cs (by omega)).trans (h.block i hi hne)⟩
set_option maxRecDepth 100000 in
set_option maxHeartbeats 2000000 in
theorem sealed_any (p k : Nat) (X : Blk) (w : World) (hP : PVar w p X k) (hE : Env w) :
    Calls Tryd.prog 46 #[.pointer (some ⟨p, 0, none⟩)] w fun e w' => e = .returned (.agg (arr (sealB X))) ∧ Only p w w' := by
  have hz := fun W => zero_blk W
  have b1 : Below w.heap.size w (w.alloc (.cells (arr .zero) 29)) := (Below.refl _ _).alloc (Nat.le_refl _) _
  have P := Lib.hid (hP.below b1)
  have E := Lib.hid (hE.below b1)
  have B := Lib.hid b1
  have N : Hid (BVar (w.alloc (.cells (arr .zero) 29)) w.heap.size .zero) := Lib.hid (heap_alloc_new w _)
  have PL := Lib.hid hP.lt
  clear hP hE b1
  go_enter Tryd.func46, Tryd.ntmps46
  go_wp2_with fail
  generalize w.alloc (.cells (arr .zero) 29) = w1 at P E B N ⊢
  go_region_with (first
    | (go_at_call 40; refine (sumSays _ 1 _ [(252, X.f)] _ rfl (by omega) (Pcs.one (c := 256) (E.out.drewN 1) 61 ((P.out.drewN 1).row (by omega)) (by omega))).mono ?_; rintro e w2 ⟨rfl, hb⟩; rw [sums_one, show sum X.f 252 = sumB X from rfl]; have P2 := Lib.hid (PVar.below (PVar.below (P.out.drewN 1) ((Below.refl _ _).alloc (Nat.le_refl _) _)) hb))
    | (go_at_call 58; refine (Put32_w p 256 256 252 (sumB X) X.f _ (by omega) P2.out.cells (by omega) (sumB_lt X)).mono ?_; rintro e w3 ⟨rfl, rfl⟩))
  have b2 := below_new (w1.drewN 1) (.cells #[Value.slice (some { block := p, off := 0 }) 252 256] 61)
  have P3 : Hid (PVar (set32 w2 p 252 (sumB X)) p (sealB X) k) := Lib.hid (P2.out.set32 (by omega))
  have N2 : BVar w2 w.heap.size .zero := (BVar.below (show BVar (w1.drewN 1) w.heap.size .zero from N.out) b2).below hb
  have N3 : Hid (BVar (set32 w2 p 252 (sumB X)) w.heap.size .zero) := Lib.hid (((Only.set32 w2 p 252 (sumB X)).block _ N2.lt (fun e => by have := PL.out; injection e with e; omega)).trans N2)
  have O3 : Hid (Only p w (set32 w2 p 252 (sumB X))) := Lib.hid (((Only.of_below B.out).trans ((Only.drewN p w1 1).trans ((Only.of_below b2).trans (Only.of_below hb)))).trans (Only.set32 _ _ _ _))
  clear b2 N2 hb P2
  generalize set32 w2 p 252 (sumB X) = w3 at P3 N3 O3 ⊢
  go_wp2_with (first
    | (refine load_blk rfl (.tmp 16) rfl p 0 rfl (sealB X) P3.out.at ?_)
    | (refine store_row rfl (.tmp 2) (.tmp 17) rfl w.heap.size (sealB X) .zero 29 rfl rfl N3.out ?_))
  exact bodyPost_ret (v := .agg (arr (sealB X))) (results_blk Tryd.results46 _ _ w.heap.size (sealB X) _ rfl (setRow_heap _ _ _ _ _ _ N3.out)) rfl ⟨rfl, Only.row O3.out (Nat.le_refl _) _⟩
end Go.Proofs.YtmlmpflfejbbcaaDoor
namespace Go.Proofs.YtmlmpflfejbbcaaDoor
open Go.RowKit CrcM

structure SuperV.Small (s : SuperV) : Prop where
  gr0 : 0 ≤ s.g.gr
  gr : s.g.gr < 65536
  sz0 : 0 ≤ s.g.sz
  sz : s.g.sz < 65536
  ino0 : 0 ≤ s.g.ino
  ino : s.g.ino < 65536
  jr0 : 0 ≤ s.g.jr
  jr : s.g.jr < 65536
  o : s.o < 4294967296
theorem PutRow.made {w : World} {p : Nat} {t : TypeId} {ts : List (Nat × Nat × Nat)} {cs : Array Value} (hp : p < w.heap.size) (hcs : ∀ (i : Nat) (u : Nat × Nat × Nat), ts[i]? = some u → cs[i]? = some (.pointer (some ⟨u.1, u.2.1, none⟩)))
    (h : ∀ u ∈ ts, u.1 ≠ p ∧ w.cell? ⟨u.1, u.2.1, none⟩ = some (.int .i64 (u.2.2 : Int)) ∧ u.2.2 < 65536) : PutRow (w.alloc (.cells cs t)) p w.heap.size ts := by
  refine ⟨by omega, fun i u hu => ?_⟩
  obtain ⟨h1, h2, h3⟩ := h u (List.mem_of_getElem? hu)
  refine ⟨?_, h1, ?_, h3⟩
  · rw [cell_of_row _ _ i _ t (0, 0) (heap_alloc_new w _)]
    exact hcs i u hu
  · exact (below_new w _).cell (p := ⟨u.1, u.2.1, none⟩) (World.block_lt_of_cell? w _ h2) |>.trans h2
theorem Only.alloc {g : Nat} {w0 w : World} (h : Only g w0 w) (o : Obj) : Only g w0 (w.alloc o) := h.trans (Only.of_below (below_new w o))
theorem Only.super {g b : Nat} {w w' : World} {s : SuperV} (h : Only g w w') (hne : b ≠ g) (hs : SVar w b s) : SVar w' b s := (h.block b hs.lt (fun e => hne (Option.some.inj e))).trans hs
set_option maxRecDepth 100000 in
set_option maxHeartbeats 4000000 in
theorem superNums_put (p b : Nat) (s : SuperV) (w : World) (hP : PVar w p .zero 0) (hS : SVar w b s) (hne : b ≠ p) (hs : s.Small) :
    Calls Tryd.prog 31 #[.pointer (some ⟨b, 0, none⟩), .func (.func 44) #[.pointer (some ⟨p, 0, none⟩)] #[], .func (.func 45) #[.pointer (some ⟨p, 0, none⟩)] #[]] w fun e w' => e = .returned (.tuple #[]) ∧ PVar w' p (superB0 s) 20 ∧ Only p w w' := by
  have b1 := below_new w (.cells #[.int .u32 827216465] 24)
  have b2 := below_new (w.alloc (.cells #[.int .u32 827216465] 24)) (.cells #[.int .i64 1] 3)
  have b3 := below_new ((w.alloc (.cells #[.int .u32 827216465] 24)).alloc (.cells #[.int .i64 1] 3)) (.cells #[.int .i64 256] 3)
  have q1 := heap_alloc_new w (.cells #[.int .u32 827216465] 24)
  have q2 := heap_alloc_new (w.alloc (.cells #[.int .u32 827216465] 24)) (.cells #[.int .i64 1] 3)
  have q3 := heap_alloc_new ((w.alloc (.cells #[.int .u32 827216465] 24)).alloc (.cells #[.int .i64 1] 3)) (.cells #[.int .i64 256] 3)
  have q2' := (b3.block _ (by simp)).trans q2
  have q1' := (b3.block _ (by simp; omega)).trans ((b2.block _ (by simp)).trans q1)
  have O1 := Lib.hid (((Only.of_below (g := p) b1).trans (Only.of_below b2)).trans (Only.of_below b3))
  have P1 := Lib.hid (((hP.below b1).below b2).below b3)
  have PL := Lib.hid hP.lt
  have HS := Lib.hid hS
  have SM := Lib.hid hs
  rw [World.size_alloc] at q2 q2'
  rw [World.size_alloc, World.size_alloc] at q3
  clear b1 b2 b3 q1 q2 hP hS hs
  go_enter Tryd.func31, Tryd.ntmps31
  go_wp2_with fail
  generalize (((w.alloc (.cells #[.int .u32 827216465] 24)).alloc (.cells #[.int .i64 1] 3)).alloc (.cells #[.int .i64 256] 3)) = w1 at q1' q2' q3 O1 P1 ⊢
  obtain ⟨b6, hb6⟩ : ∃ x, w.heap.size = x := ⟨_, rfl⟩
  obtain ⟨b7, hb7⟩ : ∃ x, w.heap.size + 1 = x := ⟨_, rfl⟩
  obtain ⟨b8, hb8⟩ : ∃ x, w.heap.size + 1 + 1 = x := ⟨_, rfl⟩
  have N : Hid (b6 ≠ p ∧ b7 ≠ p ∧ b8 ≠ p) := Lib.hid (by have := PL.out; omega)
  rw [hb8, hb7, hb6]
  rw [hb8] at q3
  rw [hb7] at q2'
  rw [hb6] at q1'
  have C6 := Lib.hid ((cell_of_row w1 b6 0 _ _ _ q1').trans rfl : w1.cell? ⟨b6, 0, none⟩ = some (.int .u32 827216465))
  have C7 := Lib.hid ((cell_of_row w1 b7 0 _ _ _ q2').trans rfl : w1.cell? ⟨b7, 0, none⟩ = some (.int .i64 1))
  have C8 := Lib.hid ((cell_of_row w1 b8 0 _ _ _ q3).trans rfl : w1.cell? ⟨b8, 0, none⟩ = some (.int .i64 256))
  have S1 := Lib.hid (O1.out.super hne HS.out)
  clear q1' q2' q3 hb6 hb7 hb8
  refine (putLong_any p 0 b6 0 827216465 .zero w1 P1.out (by omega) N.out.1 C6.out (by omega)).mono ?_
  rintro e w2 ⟨rfl, hp2, ho2⟩
  have P2 := Lib.hid hp2
  have O2 := Lib.hid ho2
  clear hp2 ho2
  go_wp2_with fail
  refine (putShorts_any p 4 w2.heap.size 2 2 _ [(b7, 0, 1), (b8, 0, 256)] _ (P2.out.below (below_new _ _)) rfl (by omega) (PutRow.made P2.out.lt ?_ ?_)).mono ?_
  · intro i u hu
    match i, hu with
    | 0, hu => cases hu; rfl
    | 1, hu => cases hu; rfl
  · intro u hu
    simp only [List.mem_cons, List.not_mem_nil, or_false] at hu
    rcases hu with rfl | rfl
    · exact ⟨N.out.2.1, O2.out.cell N.out.2.1 C7.out, by show 1 < 65536; omega⟩
    · exact ⟨N.out.2.2, O2.out.cell N.out.2.2 C8.out, by show 256 < 65536; omega⟩
  rintro e w3 ⟨rfl, hp3, ho3⟩
  have P3 := Lib.hid hp3
  have O3 := Lib.hid ((O2.out.alloc _).trans ho3)
  have S3 := Lib.hid (O3.out.super hne S1.out)
  clear hp3 ho3
  have V3 : Hid (SVar (w3.drewN 1) b s) := Lib.hid S3.out
  have R4 : Hid (PutRow ((w3.drewN 1).alloc (.cells #[.pointer (some ⟨b, 0, none⟩), .pointer (some ⟨b, 1, none⟩), .pointer (some ⟨b, 2, none⟩), .pointer (some ⟨b, 3, none⟩)] 85)) p w3.heap.size [(b, 0, s.g.gr.toNat), (b, 1, s.g.sz.toNat), (b, 2, s.g.ino.toNat), (b, 3, s.g.jr.toNat)]) := Lib.hid (by
    refine PutRow.made (w := w3.drewN 1) P3.out.lt (fun i u hu => ?_) fun u hu => ?_
    · match i, hu with
      | 0, hu => cases hu; rfl
      | 1, hu => cases hu; rfl
      | 2, hu => cases hu; rfl
      | 3, hu => cases hu; rfl
    · obtain ⟨h1, h2, h3, h4, h5, h6, h7, h8, h9⟩ := SM.out
      simp only [List.mem_cons, List.not_mem_nil, or_false] at hu
      rcases hu with rfl | rfl | rfl | rfl
      · refine ⟨hne, ?_, by simp only; omega⟩
        simp only; rw [Int.toNat_of_nonneg h1]; exact V3.out.c0
      · refine ⟨hne, ?_, by simp only; omega⟩
        simp only; rw [Int.toNat_of_nonneg h3]; exact V3.out.c1
      · refine ⟨hne, ?_, by simp only; omega⟩
        simp only; rw [Int.toNat_of_nonneg h5]; exact V3.out.c2
      · refine ⟨hne, ?_, by simp only; omega⟩
        simp only; rw [Int.toNat_of_nonneg h7]; exact V3.out.c3)
  clear V3
  go_wp2_with fail
  go_region_with (first
    | (go_at_call 44; refine (putShorts_any p 8 w3.heap.size 4 4 _ _ _ (PVar.below (P3.out.drewN 1) (below_new _ _)) rfl (by omega) R4.out).mono ?_; rintro e w4 ⟨rfl, hp4, ho4⟩; have P4 := Lib.hid hp4; have O4 := Lib.hid (((Only.drewN p w3 1).alloc _).trans ho4); have S4 := Lib.hid (O4.out.super hne S3.out); clear hp4 ho4))
  go_wp2_with fail
  refine (putLong_any p 16 b 4 s.o _ w4 P4.out (by omega) hne S4.out.c4 SM.out.o).mono ?_
  rintro e w5 ⟨rfl, hp5, ho5⟩
  have P5 := Lib.hid hp5
  have O5 := Lib.hid ((((O1.out.trans O3.out).trans O4.out).trans ho5))
  clear hp5 ho5
  go_wp2
  refine bodyPost_end (results_none rfl _ _ _) rfl ?_
  exact ⟨rfl, P5.out, O5.out⟩
end Go.Proofs.YtmlmpflfejbbcaaDoor
namespace Go.Proofs.YtmlmpflfejbbcaaDoor
open Go.RowKit CrcM

theorem GetRow.made {w : World} {p : Nat} {t : TypeId} {ts : List (Nat × Nat)} {cs : Array Value} (hp : p < w.heap.size) (hcs : ∀ (i : Nat) (u : Nat × Nat), ts[i]? = some u → cs[i]? = some (.pointer (some ⟨u.1, u.2, none⟩)))
    (h : ∀ u ∈ ts, u.1 ≠ p ∧ (∃ v, w.cell? ⟨u.1, u.2, none⟩ = some (.int .i64 v)) ∧ w.frozen? ⟨u.1, u.2, none⟩ = false) : GetRow (w.alloc (.cells cs t)) p w.heap.size ts := by
  refine ⟨by omega, fun i u hu => ?_⟩
  obtain ⟨h1, ⟨v, h2⟩, h3⟩ := h u (List.mem_of_getElem? hu)
  have hlt := World.block_lt_of_cell? w _ h2
  refine ⟨?_, h1, by simp only at hlt; omega, ⟨v, ?_⟩, ?_⟩
  · rw [cell_of_row _ _ i _ t (0, 0) (heap_alloc_new w _)]
    exact hcs i u hu
  · exact (below_new w _).cell (p := ⟨u.1, u.2, none⟩) hlt |>.trans h2
  · exact ((below_new w _).frozen (p := ⟨u.1, u.2, none⟩) hlt).trans h3
/-- The world w' is w but for blocks p and b. -/
def Only2 (p b : Nat) (w w' : World) : Prop := w'.os = w.os ∧ w'.tape = w.tape ∧ w'.output = w.output ∧ w.heap.size ≤ w'.heap.size ∧ ∀ i, i < w.heap.size → i ≠ p → i ≠ b → w'.heap[i]? = w.heap[i]?
theorem Only2.of {p b : Nat} {w w' : World} (h : Only p w w') : Only2 p b w w' := ⟨h.os, h.tape, h.output, h.size, fun i hi hne _ => h.block i hi (fun e => hne (Option.some.inj e))⟩
theorem Only2.below {p b : Nat} {w w' : World} (h : Below w.heap.size w w') : Only2 p b w w' := ⟨h.os, h.tape, h.output, h.size, fun i hi _ _ => h.block i hi⟩
theorem Only2.trans {p b : Nat} {w w' w'' : World} (h : Only2 p b w w') (k : Only2 p b w' w'') : Only2 p b w w'' :=
  ⟨k.1.trans h.1, k.2.1.trans h.2.1, k.2.2.1.trans h.2.2.1, Nat.le_trans h.2.2.2.1 k.2.2.2.1, fun i hi h1 h2 => (k.2.2.2.2 i (Nat.lt_of_lt_of_le hi h.2.2.2.1) h1 h2).trans (h.2.2.2.2 i hi h1 h2)⟩
theorem Only2.set (p b o : Nat) (w : World) (v : Value) : Only2 p b w (w.setCell ⟨b, o, none⟩ v) := ⟨rfl, rfl, rfl, by simp [World.setCell], fun i _ _ h => Below.heap_setCell w _ v i h⟩
/-- A box of the call's own. -/
def IBox (w : World) (b : Nat) : Prop := ∃ v, w.heap[b]? = some (.cells #[.int .i64 v] 3 (0, 0))
def UBox (w : World) (b : Nat) : Prop := ∃ v, w.heap[b]? = some (.cells #[.int .u32 v] 24 (0, 0))
theorem IBox.cell {w : World} {b : Nat} (h : IBox w b) : (∃ v, w.cell? ⟨b, 0, none⟩ = some (.int .i64 v)) ∧ w.frozen? ⟨b, 0, none⟩ = false := by
  obtain ⟨v, h⟩ := h
  exact ⟨⟨v, (cell_of_row w b 0 _ _ _ h).trans rfl⟩, by simp [World.frozen?, h]⟩
theorem SVar.frozen {w : World} {b : Nat} {s : SuperV} (h : SVar w b s) (i : Nat) : w.frozen? ⟨b, i, none⟩ = false := by simp [World.frozen?, show w.heap[b]? = _ from h]
theorem SVar.setGeo {w : World} {b : Nat} {s : SuperV} (h : SVar w b s) (g : GeoV) : SVar ((((w.setCell ⟨b, 0, none⟩ (.int .i64 g.gr)).setCell ⟨b, 1, none⟩ (.int .i64 g.sz)).setCell ⟨b, 2, none⟩ (.int .i64 g.ino)).setCell ⟨b, 3, none⟩ (.int .i64 g.jr)) b ⟨g, s.o⟩ := by
  unfold SVar at *
  rw [scs_eq] at *
  simp [World.setCell, Array.getElem?_modify, h]
theorem SVar.setO {w : World} {b : Nat} {s : SuperV} (h : SVar w b s) (o : Nat) : SVar (w.setCell ⟨b, 4, none⟩ (.int .u32 (o : Int))) b ⟨s.g, o⟩ := by
  unfold SVar at *
  rw [scs_eq] at *
  simp [World.setCell, Array.getElem?_modify, h]
theorem Only.ibox {p b : Nat} {w w' : World} (h : Only p w w') (hne : b ≠ p) (hb : IBox w b) : IBox w' b := by
  obtain ⟨v, hb⟩ := hb
  exact ⟨v, (h.block b (Array.getElem?_eq_some_iff.1 hb).1 (fun e => hne (Option.some.inj e))).trans hb⟩
theorem Only2.out {p b : Nat} {w0 w : World} (h : Only2 p b w0 w) {q : Addr} (hq : w0.heap.size ≤ q.block) (v : Value) : Only2 p b w0 (w.setCell q v) :=
  ⟨h.1, h.2.1, h.2.2.1, by simpa [World.setCell] using h.2.2.2.1, fun i hi h1 h2 => (Below.heap_setCell w _ v i (by omega)).trans (h.2.2.2.2 i hi h1 h2)⟩
/-- While numbers are read: the superblock, and the call's own boxes. -/
structure NG (w0 : World) (p b b7 b8 : Nat) (s : SuperV) (w : World) : Prop where
  sup : SVar w b s
  b7 : IBox w b7
  b8 : IBox w b8
  low : Only2 p b w0 w
theorem IBox.lt {w : World} {b : Nat} (h : IBox w b) : b < w.heap.size := by obtain ⟨v, h⟩ := h; exact (Array.getElem?_eq_some_iff.1 h).1
theorem IBox.block {w w' : World} {b : Nat} (h : IBox w b) (e : w'.heap[b]? = w.heap[b]?) : IBox w' b := by obtain ⟨v, h⟩ := h; exact ⟨v, e.trans h⟩
theorem IBox.set {w : World} {b : Nat} (h : IBox w b) (q : Addr) (v : Int) (hq : q.block = b → q = ⟨b, 0, none⟩) : IBox (w.setCell q (.int .i64 v)) b := by
  by_cases e : q.block = b
  · have e2 := hq e
    subst e2
    obtain ⟨u, h⟩ := h
    exact ⟨v, by simp [World.setCell, Array.getElem?_modify, h]⟩
  · exact h.block (Below.heap_setCell w _ _ _ (fun q => e q.symm))
section
variable {w0 w w' : World} {p b b7 b8 : Nat} {s : SuperV}
theorem NG.only (h : NG w0 p b b7 b8 s w) (ho : Only p w w') (h1 : b ≠ p) (h2 : b7 ≠ p) (h3 : b8 ≠ p) : NG w0 p b b7 b8 s w' :=
  ⟨ho.super h1 h.sup, ho.ibox h2 h.b7, ho.ibox h3 h.b8, h.low.trans (.of ho)⟩
theorem NG.box (h : NG w0 p b b7 b8 s w) (q : Addr) (v : Value) (h1 : q.block ≠ b) (h2 : q.block ≠ b7) (h3 : q.block ≠ b8) (h4 : w0.heap.size ≤ q.block) : NG w0 p b b7 b8 s (w.setCell q v) :=
  ⟨(Below.heap_setCell w _ v _ (fun e => h1 e.symm)).trans h.sup, h.b7.block (Below.heap_setCell w _ v _ (fun e => h2 e.symm)), h.b8.block (Below.heap_setCell w _ v _ (fun e => h3 e.symm)), h.low.out h4 v⟩
theorem NG.int (h : NG w0 p b b7 b8 s w) (c : Nat) (v : Int) (h1 : c ≠ b) (h4 : w0.heap.size ≤ c) : NG w0 p b b7 b8 s (w.setCell ⟨c, 0, none⟩ (.int .i64 v)) :=
  ⟨(Below.heap_setCell w _ _ _ (fun e => h1 e.symm)).trans h.sup, h.b7.set _ _ (fun e => by simp only at e; rw [e]), h.b8.set _ _ (fun e => by simp only at e; rw [e]), h.low.out h4 _⟩
theorem NG.alloc (h : NG w0 p b b7 b8 s w) (o : Obj) : NG w0 p b b7 b8 s (w.alloc o) :=
  ⟨h.sup.below (below_new w o), h.b7.block ((below_new w o).block _ h.b7.lt), h.b8.block ((below_new w o).block _ h.b8.lt), h.low.trans (Only2.below (below_new w o))⟩
end
theorem getLong_out {w : World} {p k qb qo : Nat} {X : Blk} (h : PVar w p X k) (hne : qb ≠ p) (v : Value) : PVar (((w.setCell ⟨p, 256, none⟩ (.int .i64 ((k + 4 : Nat) : Int))).setCell ⟨qb, qo, none⟩ v).drewN 1) p X (k + 4) ∧ Only p (w.setCell ⟨qb, qo, none⟩ v) (((w.setCell ⟨p, 256, none⟩ (.int .i64 ((k + 4 : Nat) : Int))).setCell ⟨qb, qo, none⟩ v).drewN 1) :=
  ⟨PVar.drewN ((h.go (k + 4)).keep (Below.heap_setCell _ _ _ _ (fun e => hne e.symm))) 1, (Only.setBoth (Only.set _ _ _ _) _).trans (Only.drewN _ _ 1)⟩
set_option maxRecDepth 100000 in
set_option maxHeartbeats 4000000 in
theorem superNums_get (p b : Nat) (X : Blk) (s : SuperV) (w : World) (hP : PVar w p X 0) (hS : SVar w b s) (hne : b ≠ p) :
    Calls Tryd.prog 31 #[.pointer (some ⟨b, 0, none⟩), .func (.func 32) #[.pointer (some ⟨p, 0, none⟩)] #[], .func (.func 33) #[.pointer (some ⟨p, 0, none⟩)] #[]] w fun e w' => e = .returned (.tuple #[]) ∧ PVar w' p X 20 ∧ SVar w' b (superOf X) ∧ Only2 p b w w' := by
  have b1 := below_new w (.cells #[.int .u32 827216465] 24)
  have b2 := below_new (w.alloc (.cells #[.int .u32 827216465] 24)) (.cells #[.int .i64 1] 3)
  have b3 := below_new ((w.alloc (.cells #[.int .u32 827216465] 24)).alloc (.cells #[.int .i64 1] 3)) (.cells #[.int .i64 256] 3)
  have q1 := heap_alloc_new w (.cells #[.int .u32 827216465] 24)
  have q2 := heap_alloc_new (w.alloc (.cells #[.int .u32 827216465] 24)) (.cells #[.int .i64 1] 3)
  have q3 := heap_alloc_new ((w.alloc (.cells #[.int .u32 827216465] 24)).alloc (.cells #[.int .i64 1] 3)) (.cells #[.int .i64 256] 3)
  have q2' := (b3.block _ (by simp)).trans q2
  have q1' := (b3.block _ (by simp; omega)).trans ((b2.block _ (by simp)).trans q1)
  have O1 := Lib.hid (((Only2.below (p := p) (b := b) b1).trans (Only2.below b2)).trans (Only2.below b3))
  have P1 := Lib.hid (((hP.below b1).below b2).below b3)
  have S1 := Lib.hid (((hS.below b1).below b2).below b3)
  have PL := Lib.hid hP.lt
  have SL := Lib.hid hS.lt
  rw [World.size_alloc] at q2 q2'
  rw [World.size_alloc, World.size_alloc] at q3
  clear b1 b2 b3 q1 q2 hP hS
  go_enter Tryd.func31, Tryd.ntmps31
  go_wp2_with fail
  generalize (((w.alloc (.cells #[.int .u32 827216465] 24)).alloc (.cells #[.int .i64 1] 3)).alloc (.cells #[.int .i64 256] 3)) = w1 at q1' q2' q3 O1 P1 S1 ⊢
  obtain ⟨b6, hb6⟩ : ∃ x, w.heap.size = x := ⟨_, rfl⟩
  obtain ⟨b7, hb7⟩ : ∃ x, w.heap.size + 1 = x := ⟨_, rfl⟩
  obtain ⟨b8, hb8⟩ : ∃ x, w.heap.size + 1 + 1 = x := ⟨_, rfl⟩
  have N : Hid ((b6 ≠ p ∧ b7 ≠ p ∧ b8 ≠ p) ∧ b6 ≠ b ∧ b7 ≠ b ∧ b8 ≠ b ∧ b6 ≠ b7 ∧ b6 ≠ b8 ∧ w.heap.size ≤ b6 ∧ w.heap.size ≤ b7 ∧ w.heap.size ≤ b8) := Lib.hid (by have := PL.out; have := SL.out; omega)
  rw [hb8, hb7, hb6]
  rw [hb8] at q3
  rw [hb7] at q2'
  rw [hb6] at q1'
  have C6 := Lib.hid q1'
  have G1 : Hid (NG w p b b7 b8 s w1) := Lib.hid ⟨S1.out, ⟨_, q2'⟩, ⟨_, q3⟩, O1.out⟩
  clear q1' q2' q3 hb6 hb7 hb8 S1 O1
  refine (getLong_any p 0 b6 0 827216465 X w1 P1.out (by omega) N.out.1.1 ((cell_of_row w1 b6 0 _ _ _ C6.out).trans rfl) (by simp [World.frozen?, C6.out])).mono ?_
  rintro e w2 ⟨rfl, hw2⟩
  have P2 : Hid (PVar w2 p X 4) := Lib.hid (by rw [hw2]; exact (getLong_out P1.out N.out.1.1 _).1)
  have G2 : Hid (NG w p b b7 b8 s w2) := Lib.hid (by
    rw [hw2]
    have n := N.out
    exact (G1.out.box ⟨b6, 0, none⟩ _ n.2.1 n.2.2.2.2.1 n.2.2.2.2.2.1 n.2.2.2.2.2.2.1).only (getLong_out P1.out n.1.1 _).2 hne n.1.2.1 n.1.2.2)
  clear hw2 G1 P1 C6
  go_wp2_with fail
  refine (getShorts_any p 4 w2.heap.size 2 2 X [(b7, 0), (b8, 0)] _ (P2.out.below (below_new _ _)) rfl (by omega) (GetRow.made P2.out.lt ?_ ?_)).mono ?_
  · intro i u hu
    match i, hu with
    | 0, hu => cases hu; rfl
    | 1, hu => cases hu; rfl
  · intro u hu
    simp only [List.mem_cons, List.not_mem_nil, or_false] at hu
    rcases hu with rfl | rfl
    · exact ⟨N.out.1.2.1, G2.out.b7.cell⟩
    · exact ⟨N.out.1.2.2, G2.out.b8.cell⟩
  rintro e w3 ⟨rfl, hp3, ho3⟩
  have P3 : Hid (PVar w3 p X 8) := Lib.hid hp3
  have G3 : Hid (NG w p b b7 b8 s w3) := Lib.hid (by
    have n := N.out
    exact (((G2.out.alloc _).int b7 _ n.2.2.1 n.2.2.2.2.2.2.2.1).int b8 _ n.2.2.2.1 n.2.2.2.2.2.2.2.2).only ho3 hne n.1.2.1 n.1.2.2)
  clear hp3 ho3 G2 P2
  have V3 : Hid (SVar (w3.drewN 1) b s) := Lib.hid G3.out.sup
  have R4 : Hid (GetRow ((w3.drewN 1).alloc (.cells #[.pointer (some ⟨b, 0, none⟩), .pointer (some ⟨b, 1, none⟩), .pointer (some ⟨b, 2, none⟩), .pointer (some ⟨b, 3, none⟩)] 85)) p w3.heap.size [(b, 0), (b, 1), (b, 2), (b, 3)]) := Lib.hid (by
    refine GetRow.made (w := w3.drewN 1) P3.out.lt (fun i u hu => ?_) fun u hu => ?_
    · match i, hu with
      | 0, hu => cases hu; rfl
      | 1, hu => cases hu; rfl
      | 2, hu => cases hu; rfl
      | 3, hu => cases hu; rfl
    · simp only [List.mem_cons, List.not_mem_nil, or_false] at hu
      rcases hu with rfl | rfl | rfl | rfl
      · exact ⟨hne, ⟨_, V3.out.c0⟩, V3.out.frozen 0⟩
      · exact ⟨hne, ⟨_, V3.out.c1⟩, V3.out.frozen 1⟩
      · exact ⟨hne, ⟨_, V3.out.c2⟩, V3.out.frozen 2⟩
      · exact ⟨hne, ⟨_, V3.out.c3⟩, V3.out.frozen 3⟩)
  clear V3
  go_wp2_with fail
  go_region_with (first
    | (go_at_call 32; refine (getShorts_any p 8 w3.heap.size 4 4 X _ _ (PVar.below (P3.out.drewN 1) (below_new _ _)) rfl (by omega) R4.out).mono ?_; rintro e w4 ⟨rfl, hp4, ho4⟩; have P4 := Lib.hid hp4; have O4 := Lib.hid ho4; clear hp4 ho4))
  have S4 : Hid (SVar w4 b ⟨geoOf X, s.o⟩) := Lib.hid (O4.out.super hne (SVar.setGeo (SVar.below (w := w3.drewN 1) G3.out.sup (below_new _ _)) (geoOf X)))
  have L4 : Hid (Only2 p b w w4) := Lib.hid (by
    have l0 : Only2 p b w (w3.drewN 1) := G3.out.low
    have l1 := l0.trans (Only2.below (below_new (w3.drewN 1) (.cells #[.pointer (some ⟨b, 0, none⟩), .pointer (some ⟨b, 1, none⟩), .pointer (some ⟨b, 2, none⟩), .pointer (some ⟨b, 3, none⟩)] 85)))
    exact ((((l1.trans (Only2.set p b 0 _ _)).trans (Only2.set p b 1 _ _)).trans (Only2.set p b 2 _ _)).trans (Only2.set p b 3 _ _)).trans (Only2.of O4.out))
  clear O4 G3 P3 R4
  go_wp2_with fail
  refine (getLong_any p 16 b 4 s.o X w4 P4.out (by omega) hne S4.out.c4 (S4.out.frozen 4)).mono ?_
  rintro e w5 ⟨rfl, hw5⟩
  have P5 : Hid (PVar w5 p X 20) := Lib.hid (by rw [hw5]; exact (getLong_out P4.out hne _).1)
  have S5 : Hid (SVar w5 b (superOf X)) := Lib.hid (by rw [hw5]; exact (getLong_out P4.out hne _).2.super hne (S4.out.setO _))
  have L5 : Hid (Only2 p b w w5) := Lib.hid (by rw [hw5]; exact (L4.out.trans (Only2.set p b 4 _ _)).trans (Only2.of (getLong_out P4.out hne _).2))
  clear hw5 P4 S4 L4
  go_wp2
  refine bodyPost_end (results_none rfl _ _ _) rfl ?_
  exact ⟨rfl, P5.out, S5.out, L5.out⟩
end Go.Proofs.YtmlmpflfejbbcaaDoor
