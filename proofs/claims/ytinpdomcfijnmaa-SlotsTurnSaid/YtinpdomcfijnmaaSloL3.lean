import Derived.Test.YtinpdomcfijnmaaSloA
import Derived.Test.YtinpdomcfijnmaaSloE
import Derived.Test.YtinpdomcfijnmaaBlkHide
namespace Go.Proofs.Ytinpdomcfijnmaa
open Go.RowKit
attribute [local go_sem ↓] exec_load exec_store

/-! SlotsTurn. -/
/-- What SlotsTurn keeps in memory. -/
structure TU (w0 : World) (X : Blk) (b7 b8 : Nat) (Y Z : Blk) (w : World) : Prop where
  box : BVar w w0.heap.size X
  c : BVar w b7 Y
  d : BVar w b8 Z
  ne : b7 ≠ b8
  at_ : w0.heap.size < b7 ∧ w0.heap.size < b8
  low : Below w0.heap.size w0 w
section
variable {w0 w w' : World} {X Y Z V : Blk} {b7 b8 : Nat}
theorem TU.drewN (h : TU w0 X b7 b8 Y Z w) (n : Nat) : TU w0 X b7 b8 Y Z (w.drewN n) := ⟨h.box, h.c, h.d, h.ne, h.at_, low_drewN h.low n⟩
theorem TU.below (h : TU w0 X b7 b8 Y Z w) (hb : Below w.heap.size w w') : TU w0 X b7 b8 Y Z w' := ⟨h.box.below hb, h.c.below hb, h.d.below hb, h.ne, h.at_, low_go h.low hb⟩
theorem TU.set7 (h : TU w0 X b7 b8 Y Z w) (ho : Only b7 w w') (hv : BVar w' b7 V) : TU w0 X b7 b8 V Z w' :=
  ⟨ho.blk (by have := h.at_; omega) h.box, hv, ho.blk h.ne.symm h.d, h.ne, h.at_, low_only h.low ho (by have := h.at_; omega)⟩
theorem TU.set8 (h : TU w0 X b7 b8 Y Z w) (ho : Only b8 w w') (hv : BVar w' b8 V) : TU w0 X b7 b8 Y V w' :=
  ⟨ho.blk (by have := h.at_; omega) h.box, ho.blk h.ne h.c, hv, h.ne, h.at_, low_only h.low ho (by have := h.at_; omega)⟩
end
set_option maxRecDepth 100000 in
set_option maxHeartbeats 4000000 in
theorem sTurn (hS : SlotsSays) (X : Blk) (s : ByteArray) (ino : Nat) (w : World) (hi : ino < 4294967296) : Calls Try.prog 4 #[.agg (arr X), .string s, .int .u32 (ino : Int)] w fun e w' => e = .returned (.bool true) ∧ Below w.heap.size w w' := by
  have hz := fun W => zero_blk W
  have V := Lib.hid (show BVar (w.alloc (.cells (arr X) 23)) w.heap.size X from heap_alloc_new w _)
  have B := Lib.hid (below_new w (.cells (arr X) 23))
  by_cases h2 : 20000 < s.size
  · have t1 : decide ((20000 : Int) < (s.size : Int)) = true := by simp; omega
    have v1 : (20000 : Int) < (s.size : Int) := by omega
    go_enter Try.func4, Try.ntmps4
    go_wp2
    go_ret
    exact ⟨rfl, B.out⟩
  have t1 : decide ((20000 : Int) < (s.size : Int)) = false := by simp; omega
  have v1 : ¬ (20000 : Int) < (s.size : Int) := by omega
  have HS := Lib.hid hS
  have HI := Lib.hid hi
  clear h2 hS hi
  go_enter Try.func4, Try.ntmps4
  go_upto_region 1 with fail
  generalize w.alloc (.cells (arr X) 23) = w2 at V B ⊢
  go_upto_region 3 with fail
  have L2 := Lib.hid V.out.lt
  clear t1 v1
  go_cut [7, 8] from 18 to 19 (fun s7 s8 wx => ∃ b7 b8, s7 = .pointer (some ⟨b7, 0, none⟩) ∧ s8 = .pointer (some ⟨b8, 0, none⟩) ∧ TU w X b7 b8 X X wx)
  case first =>
    have ld0 := doLoad_run (w := w2.drew) (b := w.heap.size) (off := 0) (X := X) (At.row V.out)
    have ld1 := fun A : Array Value => doLoad_run (w := (w2.alloc (.cells A 23)).drew) (b := w.heap.size) (off := 0) (X := X) (At.row ((V.out.below (below_new w2 (.cells A 23))).drewN 1))
    have ld2 := fun A B : Array Value => doLoad_run (w := ((w2.alloc (.cells A 23)).alloc (.cells B 23)).drew) (b := w.heap.size) (off := 0) (X := X) (At.row (((V.out.below (below_new w2 (.cells A 23))).below (below_new _ (.cells B 23))).drewN 1))
    have s1 := st_new w2 X .zero
    have s2 := fun V => st_new2 w2 X .zero V
    have s3 := fun Y => st_old2 w2 X Y .zero
    go_region
    all_goals
      have B3 := Lib.hid (low_go (low_go B.out (below_new w2 (.cells (arr X) 23))) (below_new _ (.cells (arr X) 23)))
      have I3 := Lib.hid ((V.out.below (below_new w2 (.cells (arr X) 23))).below (below_new _ (.cells (arr X) 23)))
      have C3 : Hid (BVar ((w2.alloc (.cells (arr X) 23)).alloc (.cells (arr X) 23)) w2.heap.size X) := Lib.hid (BVar.below (heap_alloc_new w2 _) (below_new _ _))
      have D3 : Hid (BVar ((w2.alloc (.cells (arr X) 23)).alloc (.cells (arr X) 23)) (w2.heap.size + 1) X) := Lib.hid (heap_alloc2_new w2 _ _)
      go_wp2
      go_meet
    · exact ⟨_, _, rfl, rfl, ⟨I3.out, C3.out, D3.out, by omega, ⟨L2.out, by have := L2.out; omega⟩, by first | exact B3.out | exact low_drewN B3.out 1⟩⟩
    · exact ⟨_, _, rfl, rfl, ⟨I3.out, D3.out, C3.out, by omega, ⟨by have := L2.out; omega, L2.out⟩, by first | exact B3.out | exact low_drewN B3.out 1⟩⟩
  case rest =>
    obtain ⟨b7, b8, rfl, rfl, hul⟩ := hcut
    have U := Lib.hid hul
    clear hul V L2 B
    obtain ⟨⟨Y, e⟩, x1⟩ : ∃ p, addD X s ino = p := ⟨_, rfl⟩
    obtain ⟨⟨Z, f⟩, x2⟩ : ∃ p, remD X s = p := ⟨_, rfl⟩
    have CX : Hid (∀ W, BVar W b7 X → Calls Try.prog 17 #[.pointer (some ⟨b7, 0, none⟩), .string s, .int .u32 (ino : Int)] W fun e' w' => e' = .returned (.int .i64 e) ∧ BVar w' b7 Y ∧ Only b7 W w') := Lib.hid fun W h => by have := HS.out.add b7 X s ino W h HI.out; rwa [x1] at this
    have CY : Hid (∀ W, BVar W b8 X → Calls Try.prog 19 #[.pointer (some ⟨b8, 0, none⟩), .string s] W fun e' w' => e' = .returned (.bool f) ∧ BVar w' b8 Z ∧ Only b8 W w') := Lib.hid fun W h => by have := HS.out.rem b8 X s W h; rwa [x2] at this
    have CA : Hid (∀ W, Calls Try.prog 18 #[.agg (arr X), .string s, .int .u32 (ino : Int)] W fun e' w' => e' = .returned (.tuple #[.agg (arr Y), .int .i64 e]) ∧ Below W.heap.size W w') := Lib.hid fun W => by have := rAdd X s ino W HI.out; rwa [x1] at this
    have CR : Hid (∀ W, Calls Try.prog 20 #[.agg (arr X), .string s] W fun e' w' => e' = .returned (.tuple #[.agg (arr Z), .bool f]) ∧ Below W.heap.size W w') := Lib.hid fun W => by have := rRemove X s W; rwa [x2] at this
    have CN := Lib.hid fun W => HS.out.addNil s (ino : Int) W
    have CM := Lib.hid fun W => HS.out.remNil s W
    clear x1 x2 HS HI
    go_upto_region 5 with (go_at_call 17; with_reducible refine (CX.out _ U.out.c).mono ?_; rintro e' w3 ⟨rfl, hv, ho⟩)
    have U3 := Lib.hid (U.out.set7 ho hv)
    clear hv ho CX U
    go_upto_region 6 with (first
      | (refine load_blk rfl (.tmp 3) rfl w.heap.size 0 rfl X U3.out.box.at ?_)
      | (go_at_call 18; with_reducible refine (CA.out _).mono ?_; rintro e' w4 ⟨rfl, hb⟩)
      | (refine store_newB rfl (.tmp 10) (.tmp 28) rfl Y rfl rfl ?_))
    have U4 := Lib.hid ((U3.out.below hb).below (below_new w4 (.cells (arr Y) 23)))
    have N4 := Lib.hid (show BVar (w4.alloc (.cells (arr Y) 23)) w4.heap.size Y from heap_alloc_new w4 _)
    have E4 := Lib.hid (U3.out.below hb).d.lt
    clear hb U3 CA
    generalize w4.alloc (.cells (arr Y) 23) = w5 at U4 N4 ⊢
    generalize w4.heap.size = ba at N4 E4 ⊢
    go_upto_region 7 with (go_at_call 19; with_reducible refine (CY.out _ U4.out.d).mono ?_; rintro e' w6 ⟨rfl, hv, ho⟩)
    have U6 := Lib.hid (U4.out.set8 ho hv)
    have N6 := Lib.hid (ho.blk (by have := E4.out; omega) N4.out)
    clear hv ho U4 N4 E4 CY
    go_upto_region 8 with (first
      | (refine load_blk rfl (.tmp 3) rfl w.heap.size 0 rfl X U6.out.box.at ?_)
      | (go_at_call 20; with_reducible refine (CR.out _).mono ?_; rintro e' w7 ⟨rfl, hb⟩)
      | (refine store_newB rfl (.tmp 13) (.tmp 36) rfl Z rfl rfl ?_))
    have U7 := Lib.hid ((U6.out.below hb).below (below_new w7 (.cells (arr Z) 23)))
    have N7 := Lib.hid ((N6.out.below hb).below (below_new w7 (.cells (arr Z) 23)))
    have M7 := Lib.hid (show BVar (w7.alloc (.cells (arr Z) 23)) w7.heap.size Z from heap_alloc_new w7 _)
    clear hb U6 N6 CR hz
    generalize w7.alloc (.cells (arr Z) 23) = w8 at U7 N7 M7 ⊢
    generalize w7.heap.size = bc at M7 ⊢
    have hg := blk_guard
    have he1 := fun W => equalIn_blk Y Y W
    have he2 := fun W => equalIn_blk Z Z W
    simp only [decide_true] at he1 he2
    have bf : (f == f) = true := by cases f <;> rfl
    go_wp2_with (first
      | (refine load_blk rfl (.tmp 7) rfl b7 0 rfl Y U7.out.c.at ?_)
      | (refine load_blk rfl (.tmp 10) rfl ba 0 rfl Y N7.out.at ?_)
      | (refine load_blk_w (by with_unfolding_all rfl) (.tmp 8) rfl b8 0 rfl Z U7.out.d.at ?_)
      | (refine load_blk_w (by with_unfolding_all rfl) (.tmp 13) rfl bc 0 rfl Z M7.out.at ?_)
      | (go_at_call 17; with_reducible refine (CN.out _).mono ?_; rintro e' w9 ⟨rfl, h9⟩)
      | (go_at_call 19; with_reducible refine (CM.out _).mono ?_; rintro e' wa ⟨rfl, ha⟩))
    go_ret
    exact ⟨rfl, low_go (low_go U7.out.low h9) ha⟩
theorem sTurn_i (hS : SlotsSays) (X : Blk) (s : ByteArray) (a : Int) (w : World) (h0 : 0 ≤ a) (h1 : a < 4294967296) : Calls Try.prog 4 #[.agg (arr X), .string s, .int .u32 a] w fun e w' => e = .returned (.bool true) ∧ Below w.heap.size w w' := by
  obtain ⟨n, rfl⟩ := Int.eq_ofNat_of_zero_le h0
  exact sTurn hS X s n w (by omega)
end Go.Proofs.Ytinpdomcfijnmaa
