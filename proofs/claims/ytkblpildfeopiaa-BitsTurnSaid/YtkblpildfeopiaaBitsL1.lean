import Derived.Test.YtkblpildfeopiaaBitsA2
namespace Go.Proofs.Ytkblpildfeopiaa
open Go.RowKit

set_option maxRecDepth 100000 in
set_option maxHeartbeats 1000000 in
theorem bitsTell_any (hS : BitsSays) (X : Blk) (i a b : Int) (w : World) (h1 : I64 i) (h2 : I64 a) (h3 : I64 b) :
    Calls Try.prog 3 #[.agg (arr X), .int .i64 i, .int .i64 a, .int .i64 b] w fun e w' => e = .returned (.bool true) ∧ Below w.heap.size w w' := by
  have HS := Lib.hid hS
  clear hS
  have VB := Lib.hid (At.row (heap_alloc_new w (.cells (arr X) 23)))
  have B0 := Lib.hid ((Below.refl w.heap.size w).alloc (Nat.le_refl _) (.cells (arr X) 23))
  have H1 := Lib.hid h1
  have H2 := Lib.hid h2
  have H3 := Lib.hid h3
  have t1 : (hasI X i == hasI X i) = true := by simp
  have t2 : (firstI X a b == firstI X a b) = true := by simp
  have t3 : (((countI X i : Nat) : Int) == ((countI X i : Nat) : Int)) = true := by simp
  clear h1 h2 h3
  go_enter Try.func3, Try.ntmps3
  go_wp2_with fail
  generalize w.alloc (.cells (arr X) 23) = w1 at VB B0 ⊢
  refine wp_region_class (More w1) (by kernel_rfl) (by kernel_rfl) (More.drew _) ?_
  repeat (first | go_big_quiet_skip | (go_big_quiet_want; first | (refine quiet_load _ rfl _ _ rfl _ (by intro w' hw'; exact VB.out.below hw') ?_; simp only [Act.put, List.setIfInBounds_toArray, List.set_cons_zero, List.set_cons_succ]; go_big_quiet_on) | (go_big_quiet_op; first | go_big_quiet_on | (apply Exists.intro; refine ⟨fun _ _ => ?_, ?_⟩; (with_reducible exact rfl); go_big_quiet_on) | go_big_quiet_call ((intro hC; first | (with_reducible refine (HS.out.has X i _ H1.out).mono ?_); exact fun e w' h => ⟨h.1, hC.on h.2⟩ | (with_reducible refine (rHas_any X i _).mono ?_); exact fun e w' h => ⟨h.1, hC.on h.2⟩ | (with_reducible refine (HS.out.first X a b _ H2.out H3.out).mono ?_); exact fun e w' h => ⟨h.1, hC.on h.2⟩ | (with_reducible refine (rFirst_any X a b _).mono ?_); exact fun e w' h => ⟨h.1, hC.on h.2⟩ | (with_reducible refine (HS.out.count X i _ H1.out).mono ?_); exact fun e w' h => ⟨h.1, hC.on h.2⟩ | (with_reducible refine (rCount_any X i _).mono ?_); exact fun e w' h => ⟨h.1, hC.on h.2⟩)))))
  refine wpQuiet_nil ?_
  intro w2 hw2
  have B2 := Lib.hid (B0.out.trans (Below.mono hw2 B0.out.size))
  clear hw2
  go_wp2
  go_ret
  exact ⟨rfl, B2.out⟩
end Go.Proofs.Ytkblpildfeopiaa
