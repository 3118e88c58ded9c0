import Derived.Test.YtkblpildfeopiaaBitsA
namespace Go.Proofs.Ytkblpildfeopiaa
open Go.RowKit

theorem hx_s1 : (arr .zero).setIfInBounds 0 (.int .u8 1) = arr (Blk.zero.set 0 1 (by omega)) := arr_set 0 1 (by omega)
theorem hx_s2 : (arr (Blk.zero.set 0 1 (by omega))).setIfInBounds 1 (.int .u8 2) = arr ((Blk.zero.set 0 1 (by omega)).set 1 2 (by omega)) := arr_set 1 2 (by omega)
theorem hx_s3 : (arr ((Blk.zero.set 0 1 (by omega)).set 1 2 (by omega))).setIfInBounds 255 (.int .u8 128) = arr ex := by rw [← ex_byte]; exact arr_set 255 128 (by omega)
set_option maxRecDepth 100000 in
set_option maxHeartbeats 1000000 in
theorem bAwake_any (hS : BitsSays) (w : World) :
    Calls Try.prog 22 #[] w fun e w' => e = .returned (.bool true) ∧ Below w.heap.size w w' := by
  have HS := Lib.hid hS
  clear hS
  have hz := fun W => zero_blk W
  have s1 := hx_s1
  have s2 := hx_s2
  have s3 := hx_s3
  have g1 := arr_get (x := .zero) (show 0 < 256 by omega)
  have g2 := arr_get (x := Blk.zero.set 0 1 (by omega)) (show 1 < 256 by omega)
  have g3 := arr_get (x := (Blk.zero.set 0 1 (by omega)).set 1 2 (by omega)) (show 255 < 256 by omega)
  generalize Blk.zero.set 0 1 (by omega) = X1 at s1 s2 s3 g2 g3
  generalize X1.set 1 2 (by omega) = X2 at s2 s3 g3
  have VB := Lib.hid (At.row (heap_alloc_new w (.cells (arr ex) 23)))
  have B0 := Lib.hid ((Below.refl w.heap.size w).alloc (Nat.le_refl _) (.cells (arr ex) 23))
  have hi := fun (n : Nat) (h : n ≤ 4096) => i64_nat h
  go_enter Try.func22, Try.ntmps22
  go_wp2_with (first
    | (refine load_blk rfl (.tmp 1) rfl w.heap.size 0 rfl ex VB.out ?_)
    | (refine store_row rfl (.tmp 2) (.tmp 8) rfl (w.heap.size + 1) ex .zero 23 rfl rfl (heap_alloc2_new w _ _) ?_; rw [show w.heap.size + 1 = (w.alloc (.cells (arr ex) 23)).heap.size by simp, World.setRow_alloc_new]))
  have V1 : Hid (Var ((w.alloc (.cells (arr ex) 23)).alloc (.cells (arr ex) 23)) w.heap.size ex) := Lib.hid (heap_alloc2_old w _ _)
  have V2 : Hid (Var ((w.alloc (.cells (arr ex) 23)).alloc (.cells (arr ex) 23)) (w.heap.size + 1) ex) := Lib.hid (heap_alloc2_new w _ _)
  have B1 := Lib.hid (B0.out.alloc (by simp) (.cells (arr ex) 23))
  clear s1 s2 s3 g1 g2 g3 VB B0
  generalize (w.alloc (.cells (arr ex) 23)).alloc (.cells (arr ex) 23) = w1 at V1 V2 B1 ⊢
  refine (HS.out.set ex _ 1 w1 (hi 1 (by omega)) V2.out).mono ?_
  rintro e w2 ⟨rfl, hv, hb⟩
  rw [ex_turns1]
  have V3 := Lib.hid hv
  have V4 := Lib.hid (V1.out.but hb (by omega))
  have B2 := Lib.hid (hb.below B1.out (by omega) B1.out.size)
  clear hv hb V1 V2 B1
  go_wp2_with fail
  refine (HS.out.set _ _ 9 w2 (hi 9 (by omega)) V3.out).mono ?_
  rintro e w3 ⟨rfl, hv, hb⟩
  rw [ex_turns9]
  rw [turnB_no ex_turns9] at hv
  have V5 := Lib.hid hv
  have V6 := Lib.hid (V4.out.but hb (by omega))
  have B3 := Lib.hid (hb.below B2.out (by omega) B2.out.size)
  clear hv hb V3 V4 B2
  have P : Hid (Below w.heap.size w w3 ∧ Var w3 w.heap.size ex ∧ Var w3 (w.heap.size + 1) (turnB ex 1 true)) := Lib.hid ⟨B3.out, V6.out, V5.out⟩
  clear V5 V6 B3
  have step : ∀ (a b : World), Below a.heap.size a b → Hid (Below w.heap.size w a ∧ Var a w.heap.size ex ∧ Var a (w.heap.size + 1) (turnB ex 1 true)) → Hid (Below w.heap.size w b ∧ Var b w.heap.size ex ∧ Var b (w.heap.size + 1) (turnB ex 1 true)) := fun _ _ h1 h2 => Lib.hid ⟨h2.out.1.trans (h1.mono h2.out.1.size), h2.out.2.1.below h1, h2.out.2.2.below h1⟩
  have STEP := Lib.hid step
  clear step hi
  have cellx : ∀ (a : World), Hid (Below w.heap.size w a ∧ Var a w.heap.size ex ∧ Var a (w.heap.size + 1) (turnB ex 1 true)) → a.cell? ⟨w.heap.size + 1, 0, none⟩ = some (.int .u8 3) := fun _ h => by
    have := h.out.2.2.at.cell (i := 0) (by omega)
    rw [ex_turned0] at this
    exact this
  have CX := Lib.hid cellx
  clear cellx
  go_wp2_with (first
    | (refine load_blk rfl (.tmp 1) rfl w.heap.size 0 rfl ex P.out.2.1.at ?_)
    | (refine load_blk_w (by rfl) (.tmp 1) rfl w.heap.size 0 rfl ex P.out.2.1.at ?_)
    | (go_at_call 11; refine (HS.out.has ex _ _ (by unfold I64; omega)).mono ?_; rintro e wn ⟨rfl, hb⟩; have P := STEP.out _ _ hb P; have cx := CX.out _ P; clear hb; first | rw [ex_has0] | rw [ex_has1] | rw [ex_has9] | rw [ex_has2047] | rw [ex_has2048])
    | (go_at_call 13; refine (HS.out.first ex _ _ _ (by unfold I64; omega) (by unfold I64; omega)).mono ?_; rintro e wn ⟨rfl, hb⟩; have P := STEP.out _ _ hb P; clear hb; first | rw [ex_first0] | rw [ex_first9])
    | (go_at_call 15; refine (HS.out.count ex _ _ (by unfold I64; omega)).mono ?_; rintro e wn ⟨rfl, hb⟩; have P := STEP.out _ _ hb P; clear hb; first | rw [ex_count10] | rw [ex_count9999]))
  go_ret
  exact ⟨rfl, P.out.1⟩
end Go.Proofs.Ytkblpildfeopiaa
