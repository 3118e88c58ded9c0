import Derived.Test.YtinpdomcfijnmaaSloQ5
namespace Go.Proofs.Ytinpdomcfijnmaa
open Go.RowKit

/-! Two slots held against one another; the document's own Same. -/
theorem slot_guard : Try.prog.eqGuardType Try.prog.depth 33 = false := by kernel_rfl
theorem SlotV.eq_iff (x y : SlotV) : x = y ↔ x.ino = y.ino ∧ x.name = y.name := ⟨fun h => by rw [h]; exact ⟨rfl, rfl⟩, fun h => SlotV.same h.1 h.2⟩
theorem name_beq (s t : ByteArray) : (s.toList == t.toList) = decide (s = t) := by
  rw [Bool.eq_iff_iff, beq_iff_eq, decide_eq_true_iff]
  exact ⟨list_same, fun h => by rw [h]⟩
set_option maxRecDepth 100000 in
theorem equalIn_slot (x y : SlotV) (w : World) : (Op.equalIn 10000 33 (.agg (sls x)) (.agg (sls y))).run Try.prog w = .ok (decide (x = y)) w := by
  have e : decide (x = y) = ((x.ino : Int) == (y.ino : Int) && (x.name.toList == y.name.toList)) := by
    rw [name_beq, Bool.eq_iff_iff]
    simp [SlotV.eq_iff]
    intros; omega
  rw [e]
  unfold sls
  generalize (x.ino : Int) = x1
  generalize (y.ino : Int) = y1
  generalize x.name = x2
  generalize y.name = y2
  go_simp
  by_cases h1 : x1 = y1 <;> by_cases h2 : x2.toList = y2.toList <;> simp [h1, h2]
theorem quiet_slot {o : Oper} {a : Act} {C : World → Prop} {K : Act → Prop} (x : Operand) (ho : o.op = .load 33 x) (b off : Nat) (hx : a.eval x = .pointer (some ⟨b, off, none⟩)) (s : SlotV) (hc : ∀ w, C w → SAt w b off s)
    (hk : K (a.put o.dst (.agg (sls s)))) : o.quiet Try.prog a C K := by
  refine ⟨_, fun w hw => ?_, hk⟩
  unfold Oper.quietAt execOp
  have h := run_loadAt_mid (P := Try.prog) w b off 33 (sls s).toList _ (hc w hw) Try.underlying33 rfl (slot_size s)
  simp only [ho, hx, h, Sem.run_bind, Sem.run_pure, Result.andThen_ok]
  exact ⟨rfl, by simp⟩
set_option maxRecDepth 100000 in
set_option maxHeartbeats 4000000 in
theorem rSameS (A B : Option Addr) (n c c' : Nat) (d : Nat → SlotV) (w : World) (hn : n ≤ 8) (hA : SRow w A n d) (hB : SRow w B n d) : Calls Try.prog 12 #[.slice A n c, .slice B n c'] w fun e w' => e = .returned (.bool true) ∧ Below w.heap.size w w' := by
  have RA := Lib.hid hA
  have RB := Lib.hid hB
  clear hA hB
  go_enter Try.func12, Try.ntmps12
  go_wp2_with fail
  go_loopw [5] (fun iv wr => ∃ k : Nat, k ≤ n ∧ iv = .int .i64 k ∧ Hid (Below w.heap.size w wr)) (fun iv _ => n - (intOf iv).toNat)
  case atStart => exact ⟨0, Nat.zero_le _, rfl, Lib.hid (Below.refl _ _)⟩
  case round =>
    obtain ⟨k, hk, rfl, B0⟩ := hrel
    by_cases hlt : k < n
    · obtain ⟨ba, oa, rfl, _, ha⟩ := (RA.out.below B0.out).mem (by omega)
      obtain ⟨bb, ob, rfl, _, hb⟩ := (RB.out.below B0.out).mem (by omega)
      have CA := Lib.hid (ha k hlt)
      have CB := Lib.hid (hb k hlt)
      clear ha hb
      obtain ⟨x, hx⟩ : ∃ x, d k = x := ⟨_, rfl⟩
      rw [hx] at CA CB
      clear hx
      have g0 : (0 : Int) ≤ (k : Int) := by omega
      have g1 : (k : Int) < (n : Int) := by omega
      have hg := slot_guard
      have he := fun W => equalIn_slot x x W
      simp only [decide_true] at he
      go_upto_region 6 with fail
      refine wp_region_class (More wr) (by kernel_rfl) (by kernel_rfl) (More.drew _) ?_
      repeat (first | go_big_quiet_skip | (go_big_quiet_want; first | (refine quiet_slot _ rfl _ _ rfl _ (by intro w' hw'; exact CA.out.below hw' (by assumption)) ?_; simp only [Act.put, List.setIfInBounds_toArray, List.set_cons_zero, List.set_cons_succ]; go_big_quiet_on) | (refine quiet_slot _ rfl _ _ rfl _ (by intro w' hw'; exact CB.out.below hw' (by assumption)) ?_; simp only [Act.put, List.setIfInBounds_toArray, List.set_cons_zero, List.set_cons_succ]; go_big_quiet_on) | (go_big_quiet_op; first | go_big_quiet_on | (apply Exists.intro; refine ⟨fun _ _ => ?_, ?_⟩; (with_reducible exact rfl); go_big_quiet_on))))
      refine wpQuiet_nil ?_
      intro w2 hw2
      have B2 := Lib.hid (low_go B0.out hw2)
      clear hw2
      go_wp2_with fail
      go_roundw
      case rel => exact ⟨k + 1, by omega, by congr 1, B2⟩
      case measure => simp [intOf]; omega
    · obtain rfl : k = n := by omega
      have g1 : ¬ (k : Int) < (k : Int) := by omega
      go_wp2_with fail
      go_ret
      exact ⟨rfl, B0.out⟩
end Go.Proofs.Ytinpdomcfijnmaa
