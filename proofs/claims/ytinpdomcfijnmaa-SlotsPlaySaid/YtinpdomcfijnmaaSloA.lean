import Derived.Test.YtinpdomcfijnmaaSloP7
namespace Go.Proofs.Ytinpdomcfijnmaa
open Go.RowKit

/-! awake: the chapter's examples. -/
abbrev nAB : ByteArray := ⟨#[97, 98]⟩
abbrev nC : ByteArray := ⟨#[99]⟩
abbrev nD : ByteArray := ⟨#[100]⟩
theorem may_one {s : ByteArray} (h : s.size = 1) (h1 : nb s 0 ≠ 46) (h2 : nb s 0 ≠ 47) (h3 : nb s 0 ≠ 0) : MayN s := by
  refine ⟨by omega, by omega, fun e => h1 (dot_iff.1 e).2, fun e => by have := (dots_iff.1 e).1; omega, fun i hi => ?_⟩
  obtain rfl : i = 0 := by omega
  exact ⟨h2, h3⟩
theorem may_c : MayN nC := may_one rfl (by decide) (by decide) (by decide)
theorem may_d : MayN nD := may_one rfl (by decide) (by decide) (by decide)
theorem may_ab : MayN nAB := by
  refine ⟨by decide, by decide, fun e => by have := (dot_iff.1 e).1; revert this; decide, fun e => by have := (dots_iff.1 e).2.1; revert this; decide, fun i hi => ?_⟩
  have hi : i < 2 := hi
  match i, hi with
  | 0, _ => decide
  | 1, _ => decide
theorem may_dots3 : MayN ⟨#[46, 46, 46]⟩ := by
  refine ⟨by decide, by decide, fun e => by have := (dot_iff.1 e).1; revert this; decide, fun e => by have := (dots_iff.1 e).1; revert this; decide, fun i hi => ?_⟩
  have hi : i < 3 := hi
  match i, hi with
  | 0, _ => decide
  | 1, _ => decide
  | 2, _ => decide
theorem not_may_dot : ¬ MayN ⟨#[46]⟩ := fun h => h.dot rfl
theorem not_may_ab : ¬ MayN ⟨#[97, 47, 98]⟩ := fun h => (h.all 1 (by decide)).1 rfl
theorem ne_name {s t : ByteArray} (h : nb s 0 ≠ nb t 0) : s ≠ t := fun e => h (by rw [e])
theorem add_ok {X : Blk} {s : ByteArray} {ino i : Nat} (h : Right X) (hm : MayN s) (h0 : ino ≠ 0) (hw : whereN X s = none) (hf : freeN X = some i) : addD X s ino = (setS X i ⟨ino, s⟩, 0) :=
  add_yes h (by rw [hw]; rintro (q | q | q); exact q hm; exact h0 q; cases q) hf
noncomputable def aw1 : Blk := setS .zero 0 ⟨7, nAB⟩
noncomputable def aw2 : Blk := setS aw1 1 ⟨8, nC⟩
noncomputable def aw3 : Blk := setS aw2 0 .free
noncomputable def aw4 : Blk := setS aw3 0 ⟨9, nD⟩
theorem aw1_0 : slotS aw1 0 = ⟨7, nAB⟩ := slot_set (by omega) (may_ok may_ab (by omega) (by omega))
theorem aw1_o {j : Nat} (h : j ≠ 0) : slotS aw1 j = .free := (slot_other h).trans (slot_zero j)
theorem aw2_1 : slotS aw2 1 = ⟨8, nC⟩ := slot_set (by omega) (may_ok may_c (by omega) (by omega))
theorem aw2_0 : slotS aw2 0 = ⟨7, nAB⟩ := (slot_other (by omega)).trans aw1_0
theorem aw2_o {j : Nat} (h : j ≠ 0) (h1 : j ≠ 1) : slotS aw2 j = .free := (slot_other h1).trans (aw1_o h)
theorem aw3_0 : slotS aw3 0 = .free := slot_set (by omega) .free
theorem aw3_1 : slotS aw3 1 = ⟨8, nC⟩ := (slot_other (by omega)).trans aw2_1
theorem aw3_o {j : Nat} (h : j ≠ 0) (h1 : j ≠ 1) : slotS aw3 j = .free := (slot_other h).trans (aw2_o h h1)
theorem aw0_none (s : ByteArray) : whereN .zero s = none := where_none.2 fun j _ h => by rw [slot_zero] at h; exact absurd rfl h
theorem aw1_right : Right aw1 := right_add right_zero may_ab (by omega) (by omega) (aw0_none _) (by omega)
theorem aw1_none : whereN aw1 nC = none := where_none.2 fun j _ h => by
  by_cases e : j = 0
  · subst e; rw [aw1_0]; exact ne_name (by decide)
  · rw [aw1_o e] at h; exact absurd rfl h
theorem aw2_right : Right aw2 := right_add aw1_right may_c (by omega) (by omega) aw1_none (by omega)
theorem aw2_c : whereN aw2 nC = some 1 := where_add aw1_right may_c (by omega) (by omega) aw1_none (by omega)
theorem aw2_ab : whereN aw2 nAB = some 0 := (where_some aw2_right).2 ⟨by omega, by rw [aw2_0]; decide, by rw [aw2_0]⟩
theorem aw3_right : Right aw3 := right_rem aw2_right (by omega)
theorem aw3_none : whereN aw3 nD = none := where_none.2 fun j _ h => by
  by_cases e : j = 0
  · subst e; rw [aw3_0] at h; exact absurd rfl h
  by_cases e1 : j = 1
  · subst e1; rw [aw3_1]; exact ne_name (by decide)
  · rw [aw3_o e e1] at h; exact absurd rfl h
theorem aw4_right : Right aw4 := right_add aw3_right may_d (by omega) (by omega) aw3_none (by omega)
theorem aw4_d : whereN aw4 nD = some 0 := where_add aw3_right may_d (by omega) (by omega) aw3_none (by omega)
theorem aw4_ab : whereN aw4 nAB = none := by
  have h : whereN aw3 nAB = none := where_gone aw2_right aw2_ab
  rw [← h]
  exact where_set_other (may_ok may_d (by omega) (by omega)) (by omega) (fun q => absurd (by rw [aw3_0]; rfl) q) (fun _ => ne_name (by decide))
theorem aw_a1 : addD .zero nAB 7 = (aw1, 0) := add_ok right_zero may_ab (by omega) (aw0_none _) (free_some.2 ⟨by omega, by rw [slot_zero]; rfl, fun j h => absurd h (Nat.not_lt_zero _)⟩)
theorem aw1_free : freeN aw1 = some 1 := free_some.2 ⟨by omega, by rw [aw1_o (by omega)]; rfl, fun j h => by
  obtain rfl : j = 0 := by omega
  rw [aw1_0]; decide⟩
theorem aw_a2 : addD aw1 nC 8 = (aw2, 0) := add_ok aw1_right may_c (by omega) aw1_none aw1_free
theorem aw_f : findD aw2 nC = (1, 8) := by
  unfold findD
  rw [if_pos aw2_right, aw2_c]
  show ((1 : Int), (slotS aw2 1).ino) = _
  rw [aw2_1]
theorem aw_a3 : addD aw2 nC 1 = (aw2, 2) := add_arg aw2_right (.inr (.inr (by rw [aw2_c]; rfl)))
theorem aw_a4 : addD aw2 ⟨#[46]⟩ 1 = (aw2, 2) := add_arg aw2_right (.inl not_may_dot)
theorem aw_r : remD aw2 nAB = (aw3, true) := by
  unfold remD
  rw [if_pos aw2_right, aw2_ab]; rfl
theorem aw_a5 : addD aw3 nD 9 = (aw4, 0) := add_ok aw3_right may_d (by omega) aw3_none (free_some.2 ⟨by omega, by rw [aw3_0]; rfl, fun j h => absurd h (Nat.not_lt_zero _)⟩)
theorem aw_g : findD aw4 nD = (0, 9) := by
  unfold findD
  rw [if_pos aw4_right, aw4_d]
  show ((0 : Int), (slotS aw4 0).ino) = _
  rw [show slotS aw4 0 = ⟨9, nD⟩ from slot_set (by omega) (may_ok may_d (by omega) (by omega))]
theorem aw_n : findD aw4 nAB = (-1, 0) := by
  unfold findD
  rw [if_pos aw4_right, aw4_ab]
theorem aw4_f {k : Nat} (h : k < 32) : aw4.f k = slotB ⟨9, nD⟩ k := by
  have := setS_in (X := aw3) (i := 0) (x := ⟨9, nD⟩) (by omega) h
  rwa [Nat.mul_zero, Nat.zero_add] at this
theorem aw4_0 : aw4.f 0 = 9 := by rw [aw4_f (by omega)]; decide
theorem aw4_4 : aw4.f 4 = 1 := by rw [aw4_f (by omega)]; decide
theorem aw4_5 : aw4.f 5 = 100 := by rw [aw4_f (by omega)]; decide
theorem aw4_6 : aw4.f 6 = 0 := by rw [aw4_f (by omega)]; decide
/-- What awake keeps in memory. -/
structure AW (w0 : World) (X : Blk) (w : World) : Prop where
  blk : BVar w w0.heap.size X
  low : Below w0.heap.size w0 w
theorem AW.only {w0 w w' : World} {X Y : Blk} (h : AW w0 X w) (ho : Only w0.heap.size w w') (hv : BVar w' w0.heap.size Y) : AW w0 Y w' := ⟨hv, low_only h.low ho (Nat.le_refl _)⟩
theorem AW.below {w0 w w' : World} {X : Blk} (h : AW w0 X w) (hb : Below w.heap.size w w') : AW w0 X w' := ⟨h.blk.below hb, low_go h.low hb⟩
theorem aw_add (HS : SlotsSays) {w0 w : World} {X Y : Blk} {s : ByteArray} {ino : Nat} {e : Int} (h : AW w0 X w) (hi : ino < 4294967296) (ha : addD X s ino = (Y, e)) : Calls Try.prog 17 #[.pointer (some ⟨w0.heap.size, 0, none⟩), .string s, .int .u32 (ino : Int)] w fun r w' => r = .returned (.int .i64 e) ∧ AW w0 Y w' :=
  (HS.add _ X s ino w h.blk hi).mono fun r w' q => by
    rw [ha] at q
    exact ⟨q.1, h.only q.2.2 q.2.1⟩
theorem aw_rem (HS : SlotsSays) {w0 w : World} {X Y : Blk} {s : ByteArray} {e : Bool} (h : AW w0 X w) (ha : remD X s = (Y, e)) : Calls Try.prog 19 #[.pointer (some ⟨w0.heap.size, 0, none⟩), .string s] w fun r w' => r = .returned (.bool e) ∧ AW w0 Y w' :=
  (HS.rem _ X s w h.blk).mono fun r w' q => by
    rw [ha] at q
    exact ⟨q.1, h.only q.2.2 q.2.1⟩
theorem aw_find (HS : SlotsSays) {w0 w : World} {X : Blk} {s : ByteArray} {i : Int} {ino : Nat} (h : AW w0 X w) (ha : findD X s = (i, ino)) : Calls Try.prog 13 #[.agg (arr X), .string s] w fun r w' => r = .returned (.tuple #[.int .i64 i, .int .u32 (ino : Int)]) ∧ AW w0 X w' :=
  (HS.find X s w).mono fun r w' q => by
    rw [ha] at q
    exact ⟨q.1, h.below q.2⟩
set_option maxRecDepth 100000 in
set_option maxHeartbeats 4000000 in
theorem sAwake (hS : SlotsSays) (w : World) : Calls Try.prog 21 #[] w fun e w' => e = .returned (.bool true) ∧ Below w.heap.size w w' := by
  have hz := fun W => zero_blk W
  have P0 := Lib.hid (show AW w .zero (w.alloc (.cells (arr .zero) 23)) from ⟨heap_alloc_new w _, below_new w _⟩)
  have A1 : Hid (∀ W, AW w .zero W → Calls Try.prog 17 #[.pointer (some ⟨w.heap.size, 0, none⟩), .string ⟨#[97, 98]⟩, .int .u32 7] W fun r w' => r = .returned (.int .i64 0) ∧ AW w aw1 w') := Lib.hid fun W h => aw_add hS (ino := 7) h (by omega) aw_a1
  have A2 : Hid (∀ W, AW w aw1 W → Calls Try.prog 17 #[.pointer (some ⟨w.heap.size, 0, none⟩), .string ⟨#[99]⟩, .int .u32 8] W fun r w' => r = .returned (.int .i64 0) ∧ AW w aw2 w') := Lib.hid fun W h => aw_add hS (ino := 8) h (by omega) aw_a2
  have A3 : Hid (∀ W, AW w aw2 W → Calls Try.prog 17 #[.pointer (some ⟨w.heap.size, 0, none⟩), .string ⟨#[99]⟩, .int .u32 1] W fun r w' => r = .returned (.int .i64 2) ∧ AW w aw2 w') := Lib.hid fun W h => aw_add hS (ino := 1) h (by omega) aw_a3
  have A4 : Hid (∀ W, AW w aw2 W → Calls Try.prog 17 #[.pointer (some ⟨w.heap.size, 0, none⟩), .string ⟨#[46]⟩, .int .u32 1] W fun r w' => r = .returned (.int .i64 2) ∧ AW w aw2 w') := Lib.hid fun W h => aw_add hS (ino := 1) h (by omega) aw_a4
  have A5 : Hid (∀ W, AW w aw3 W → Calls Try.prog 17 #[.pointer (some ⟨w.heap.size, 0, none⟩), .string ⟨#[100]⟩, .int .u32 9] W fun r w' => r = .returned (.int .i64 0) ∧ AW w aw4 w') := Lib.hid fun W h => aw_add hS (ino := 9) h (by omega) aw_a5
  have F1 : Hid (∀ W, AW w aw2 W → Calls Try.prog 13 #[.agg (arr aw2), .string ⟨#[99]⟩] W fun r w' => r = .returned (.tuple #[.int .i64 1, .int .u32 8]) ∧ AW w aw2 w') := Lib.hid fun W h => aw_find hS h aw_f
  have F2 : Hid (∀ W, AW w aw4 W → Calls Try.prog 13 #[.agg (arr aw4), .string ⟨#[100]⟩] W fun r w' => r = .returned (.tuple #[.int .i64 0, .int .u32 9]) ∧ AW w aw4 w') := Lib.hid fun W h => aw_find hS h aw_g
  have F3 : Hid (∀ W, AW w aw4 W → Calls Try.prog 13 #[.agg (arr aw4), .string ⟨#[97, 98]⟩] W fun r w' => r = .returned (.tuple #[.int .i64 (-1), .int .u32 0]) ∧ AW w aw4 w') := Lib.hid fun W h => aw_find hS h aw_n
  have R1 : Hid (∀ W, AW w aw2 W → Calls Try.prog 19 #[.pointer (some ⟨w.heap.size, 0, none⟩), .string ⟨#[97, 98]⟩] W fun r w' => r = .returned (.bool true) ∧ AW w aw3 w') := Lib.hid fun W h => aw_rem hS h aw_r
  have M1 : Hid (∀ W, Calls Try.prog 15 #[.string ⟨#[46, 46, 46]⟩] W fun r w' => r = .returned (.bool true) ∧ w' = W) := Lib.hid fun W => by
    have := hS.may ⟨#[46, 46, 46]⟩ W
    rwa [decide_eq_true may_dots3] at this
  have M2 : Hid (∀ W, Calls Try.prog 15 #[.string ⟨#[97, 47, 98]⟩] W fun r w' => r = .returned (.bool false) ∧ w' = W) := Lib.hid fun W => by
    have := hS.may ⟨#[97, 47, 98]⟩ W
    rwa [decide_eq_false not_may_ab] at this
  clear hS
  go_enter Try.func21, Try.ntmps21
  go_upto_region 2 with fail
  clear hz
  generalize w.alloc (.cells (arr .zero) 23) = w1 at P0 ⊢
  go_upto_region 3 with (first
    | (go_at_call 17; with_reducible refine (A1.out _ P0.out).mono ?_; rintro e w2 ⟨rfl, h2⟩)
    | (go_at_call 17; with_reducible refine (A2.out _ h2).mono ?_; rintro e w3 ⟨rfl, h3⟩))
  have P3 := Lib.hid h3
  clear h2 h3 P0 A1 A2
  go_upto_region 4 with (first
    | (refine load_blk rfl (.tmp 1) rfl w.heap.size 0 rfl aw2 P3.out.blk.at ?_)
    | (go_at_call 13; with_reducible refine (F1.out _ P3.out).mono ?_; rintro e w4 ⟨rfl, h4⟩))
  have P4 := Lib.hid h4
  clear h4 P3 F1
  go_upto_region 5 with (first
    | (go_at_call 17; with_reducible refine (A3.out _ P4.out).mono ?_; rintro e w5 ⟨rfl, h5⟩)
    | (go_at_call 17; with_reducible refine (A4.out _ h5).mono ?_; rintro e w6 ⟨rfl, h6⟩))
  have P6 := Lib.hid h6
  clear h5 h6 P4 A3 A4
  go_upto_region 6 with (go_at_call 19; with_reducible refine (R1.out _ P6.out).mono ?_; rintro e w7 ⟨rfl, h7⟩)
  have P7 := Lib.hid h7
  clear h7 P6 R1
  go_upto_region 7 with (go_at_call 17; with_reducible refine (A5.out _ P7.out).mono ?_; rintro e w8 ⟨rfl, h8⟩)
  have P8 := Lib.hid h8
  clear h8 P7 A5
  go_upto_region 8 with (first
    | (refine load_blk rfl (.tmp 1) rfl w.heap.size 0 rfl aw4 P8.out.blk.at ?_)
    | (go_at_call 13; with_reducible refine (F2.out _ P8.out).mono ?_; rintro e w9 ⟨rfl, h9⟩))
  have P9 := Lib.hid h9
  clear h9 P8 F2
  go_upto_region 9 with (first
    | (refine load_blk rfl (.tmp 1) rfl w.heap.size 0 rfl aw4 P9.out.blk.at ?_)
    | (go_at_call 13; with_reducible refine (F3.out _ P9.out).mono ?_; rintro e wa ⟨rfl, ha⟩))
  have Pa := Lib.hid ha
  clear ha P9 F3
  have c0 := Pa.out.blk.cell (k := 0) (by omega); rw [aw4_0] at c0
  have c4 := Pa.out.blk.cell (k := 4) (by omega); rw [aw4_4] at c4
  have c5 := Pa.out.blk.cell (k := 5) (by omega); rw [aw4_5] at c5
  have c6 := Pa.out.blk.cell (k := 6) (by omega); rw [aw4_6] at c6
  go_wp2_with (first
    | (go_at_call 15; with_reducible refine (M1.out _).mono ?_; rintro e wb ⟨rfl, rfl⟩)
    | (go_at_call 15; with_reducible refine (M2.out _).mono ?_; rintro e wc ⟨rfl, rfl⟩))
  go_ret
  exact ⟨rfl, Pa.out.low⟩
end Go.Proofs.Ytinpdomcfijnmaa
