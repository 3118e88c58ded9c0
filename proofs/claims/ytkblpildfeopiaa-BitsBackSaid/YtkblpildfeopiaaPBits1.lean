import Derived.Test.YtkblpildfeopiaaBitsSay
import Derived.Test.YtkblpildfeopiaaBitsAll0
namespace Go.Proofs.Ytkblpildfeopiaa
open Go.RowKit Go.Shelf Go.BigFrame

/-! What the program's own small functions answer. -/
def mkB (k : Nat) : Nat := 2 ^ (k % 8) % 256
theorem within_any (i : Int) (w : World) : Calls Try.prog 23 #[.int .i64 i] w fun e w' => e = .returned (.bool (decide (0 ≤ i) && decide (i < 2048))) ∧ Below w.heap.size w w' := by
  have B0 := Lib.hid (Below.refl w.heap.size w)
  by_cases h : 0 ≤ i
  · have t : decide (0 ≤ i) = true := by simp; omega
    rw [t]
    go_enter Try.func23, Try.ntmps23
    go_wp2_with fail
    go_ret
    exact ⟨by simp, B0.out⟩
  · have t : decide (0 ≤ i) = false := by simp; omega
    rw [t]
    go_enter Try.func23, Try.ntmps23
    go_wp2_with fail
    go_ret
    exact ⟨rfl, B0.out⟩
theorem within_yes {k : Nat} (h : k < 2048) (w : World) : Calls Try.prog 23 #[.int .i64 k] w fun e w' => e = .returned (.bool true) ∧ Below w.heap.size w w' :=
  (within_any k w).mono fun e w' q => ⟨by rw [q.1]; simp; omega, q.2⟩
theorem within_no {i : Int} (h : i < 0 ∨ 2048 ≤ i) (w : World) : Calls Try.prog 23 #[.int .i64 i] w fun e w' => e = .returned (.bool false) ∧ Below w.heap.size w w' :=
  (within_any i w).mono fun e w' q => ⟨by rw [q.1]; simp; omega, q.2⟩
theorem mask_any (k : Nat) (w : World) : Calls Try.prog 24 #[.int .i64 k] w fun e w' => e = .returned (.int .u8 (mkB k : Nat)) ∧ Below w.heap.size w w' := by
  have B0 := Lib.hid (Below.refl w.heap.size w)
  have hm : k % 8 < 8 := Nat.mod_lt _ (by omega)
  go_enter Try.func24, Try.ntmps24
  go_wp2_with fail
  go_ret
  refine ⟨?_, B0.out⟩
  unfold mkB
  simp
theorem mask_all : ((List.range 256).all fun v => (List.range 8).all fun m => (bits BinOp.and IntKind.u8 ((v : Nat) : Int) ((2 ^ m % 256 : Nat) : Int) != 0) == (v / 2 ^ m % 2 == 1)) = true := by kernel_rfl
theorem mask_bit (X : Blk) (k : Nat) : (bits BinOp.and IntKind.u8 ((X.f (k / 8) : Nat) : Int) ((mkB k : Nat) : Int) != 0) = bit X k :=
  beq_iff_eq.1 (List.all_eq_true.1 (List.all_eq_true.1 mask_all _ (List.mem_range.2 (X.lt (k / 8)))) _ (List.mem_range.2 (Nat.mod_lt _ (by omega))))
theorem quiet_u8 {o : Oper} {a : Act} {C : World → Prop} {K : Act → Prop} (x : Operand) (ho : o.op = .load 5 x) (p : Addr) (hx : a.eval x = .pointer (some p)) (k : Int) (hc : ∀ w, C w → w.cell? p = some (.int .u8 k))
    (hk : K (a.put o.dst (.int .u8 k))) : o.quiet Try.prog a C K := by
  refine ⟨_, fun w hw => ?_, hk⟩
  have h := hc w hw
  unfold Oper.quietAt execOp
  simp only [ho, hx]
  go_simp
  first | done | exact ⟨rfl, hw⟩ | exact hw

set_option maxRecDepth 100000 in
set_option maxHeartbeats 1000000 in
theorem pHas (X : Blk) (i : Int) (w : World) (h : I64 i) : Calls Try.prog 11 #[.agg (arr X), .int .i64 i] w fun e w' => e = .returned (.bool (hasI X i)) ∧ Below w.heap.size w w' := by
  have VB := Lib.hid (At.row (heap_alloc_new w (.cells (arr X) 23)))
  have B0 := Lib.hid ((Below.refl w.heap.size w).alloc (Nat.le_refl _) (.cells (arr X) 23))
  by_cases h0 : i < 0 ∨ 2048 ≤ i
  · have E := Lib.hid (hasI_out (X := X) h0)
    have CW := Lib.hid (within_no h0)
    clear h0
    go_enter Try.func11, Try.ntmps11
    go_wp2_with fail
    generalize w.alloc (.cells (arr X) 23) = w1 at VB B0 ⊢
    refine wp_region_class (More w1) (by kernel_rfl) (by kernel_rfl) (More.drew _) ?_
    repeat (first | go_big_quiet_skip | (go_big_quiet_want; go_big_quiet_op; first | go_big_quiet_on | (apply Exists.intro; refine ⟨fun _ _ => ?_, ?_⟩; (with_reducible exact rfl); go_big_quiet_on) | go_big_quiet_call ((intro hC; first | (with_reducible refine (CW.out _).mono ?_); exact fun e w' h => ⟨h.1, hC.on h.2⟩))))
    refine wpQuiet_nil ?_
    intro w2 hw2
    have B2 := Lib.hid (B0.out.trans (Below.mono hw2 B0.out.size))
    clear hw2
    go_wp2
    go_ret
    exact ⟨by rw [E.out]; try rfl, B2.out⟩
  · obtain ⟨k, rfl⟩ := Int.eq_ofNat_of_zero_le (show 0 ≤ i by omega)
    have hk : k < 2048 := by omega
    have E := Lib.hid (hasI_nat (X := X) (i := k) hk)
    have CW := Lib.hid (within_yes hk)
    have CM := Lib.hid (mask_any k)
    have HB := mask_bit X k
    have HV : Hid (∀ w, At w w.heap.size 0 X → True) := Lib.hid fun _ _ => trivial
    have HC : Hid (∀ w', At w' w.heap.size 0 X → w'.cell? ⟨w.heap.size, k / 8, none⟩ = some (.int .u8 ((X.f (k / 8) : Nat) : Int))) := Lib.hid fun w' hh => by have := hh.cell (i := k / 8) (by omega); rwa [Nat.zero_add] at this
    generalize X.f (k / 8) = v at HB HC
    generalize mkB k = mm at CM HB
    go_enter Try.func11, Try.ntmps11
    go_wp2_with fail
    generalize w.alloc (.cells (arr X) 23) = w1 at VB B0 ⊢
    refine wp_region_class (More w1) (by kernel_rfl) (by kernel_rfl) (More.drew _) ?_
    repeat (first | go_big_quiet_skip | (go_big_quiet_want; first | (refine quiet_u8 _ rfl _ (by rfl) _ (by intro w' hw'; exact HC.out _ (VB.out.below hw')) ?_; simp only [Act.put, List.setIfInBounds_toArray, List.set_cons_zero, List.set_cons_succ]; go_big_quiet_on) | (go_big_quiet_op; first | go_big_quiet_on | (apply Exists.intro; refine ⟨fun _ _ => ?_, ?_⟩; (with_reducible exact rfl); go_big_quiet_on) | go_big_quiet_call ((intro hC; first | (with_reducible refine (CW.out _).mono ?_); exact fun e w' h => ⟨h.1, hC.on h.2⟩ | (with_reducible refine (CM.out _).mono ?_); exact fun e w' h => ⟨h.1, hC.on h.2⟩)))))
    refine wpQuiet_nil ?_
    intro w2 hw2
    have B2 := Lib.hid (B0.out.trans (Below.mono hw2 B0.out.size))
    clear hw2
    go_wp2
    go_ret
    exact ⟨by rw [E.out]; try rfl, B2.out⟩
end Go.Proofs.Ytkblpildfeopiaa
