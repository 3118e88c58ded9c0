import Derived.Test.YtjiooadakklmlaaJbQ9
namespace Go.Proofs.Ytjiooadakklmlaa
open Go.RowKit

/-! The document's own SameTags, SameNumbers. -/
def NumsHere (w : World) (b o : Nat) (l : List Nat) : Prop := ∀ i v, l[i]? = some v → w.cell? ⟨b, o + i, none⟩ = some (.int .u32 ((v : Nat) : Int))
def TagsHere (w : World) (b o : Nat) (l : List TagV) : Prop := ∀ i t, l[i]? = some t → TAt w b (o + i * 2) t
theorem quiet_tag {o : Oper} {a : Act} {C : World → Prop} {K : Act → Prop} (x : Operand) (ho : o.op = .load 62 x) (b off : Nat) (hx : a.eval x = .pointer (some ⟨b, off, none⟩)) (s : TagV) (hc : ∀ w, C w → TAt w b off s)
    (hk : K (a.put o.dst (.agg (tcs s)))) : o.quiet Try.prog a C K := by
  refine ⟨_, fun w hw => ?_, hk⟩
  unfold Oper.quietAt execOp
  have h := run_loadAt_mid (P := Try.prog) w b off 62 (tcs s).toList _ (hc w hw) Try.underlying62 rfl (tag_size s)
  simp only [ho, hx, h, Sem.run_bind, Sem.run_pure, Result.andThen_ok]
  exact ⟨rfl, by simp⟩
set_option maxRecDepth 100000 in
set_option maxHeartbeats 4000000 in
theorem rSameTags (A B : Option Addr) (c c' : Nat) (l m : List TagV) (w : World) (hl : l.length ≤ 1000) (hA : TagsAt w A l) (hB : TagsAt w B m) : Calls Try.prog 19 #[.slice A l.length c, .slice B m.length c'] w fun e w' => e = .returned (.bool (decide (l = m))) ∧ Below w.heap.size w w' := by
  have RA := Lib.hid hA
  have RB := Lib.hid hB
  clear hA hB
  by_cases hn : l.length = m.length
  rotate_left
  · have E := Lib.hid (decide_eq_false fun q : l = m => hn (by rw [q]))
    have d1 : ((l.length : Int) == (m.length : Int)) = false := by rw [beq_eq_false_iff_ne]; omega
    have d2 : ¬ (l.length : Int) = (m.length : Int) := by omega
    have d3 : ¬ l.length = m.length := hn
    have d4 : (l.length == m.length) = false := by rw [beq_eq_false_iff_ne]; omega
    have d5 : decide (l.length = m.length) = false := by simp; omega
    have d6 : ((l.length : Int) != (m.length : Int)) = true := by simp; omega
    clear hn
    go_enter Try.func19, Try.ntmps19
    go_wp2_with fail
    go_ret
    exact ⟨congrArg (fun b => Ending.returned (.bool b)) E.out.symm, Below.refl _ _⟩
  have EQ : Hid ((∀ j, j < l.length → l[j]? = m[j]?) → l = m) := Lib.hid fun q => List.ext_getElem? fun j => by
    by_cases h : j < l.length
    · exact q j h
    · rw [List.getElem?_eq_none (by omega), List.getElem?_eq_none (by omega)]
  have HN := Lib.hid hn
  have NE : Hid (∀ j : Nat, ¬ (l[j]? = m[j]?) → ¬ (l = m)) := Lib.hid (fun (j : Nat) q r => q (congrArg (fun z => z[j]?) r))
  have GA : Hid (∀ j, j < l.length → ∃ x, l[j]? = some x) := Lib.hid fun j h => ⟨l[j], List.getElem?_eq_getElem h⟩
  have GB : Hid (∀ j, j < l.length → ∃ x, m[j]? = some x) := Lib.hid fun j h => ⟨m[j]'(by omega), List.getElem?_eq_getElem (by omega)⟩
  obtain ⟨n, hnl⟩ : ∃ n, l.length = n := ⟨_, rfl⟩
  have hnm : m.length = n := by omega
  have PA : Hid (0 < n → ∀ W, Below w.heap.size w W → ∃ b o, A = some ⟨b, o, none⟩ ∧ b < W.heap.size ∧ TagsHere W b o l) := Lib.hid fun h W hb => RA.out.below hb (by omega)
  have PB : Hid (0 < n → ∀ W, Below w.heap.size w W → ∃ b o, B = some ⟨b, o, none⟩ ∧ b < W.heap.size ∧ TagsHere W b o m) := Lib.hid fun h W hb => RB.out.below hb (by omega)
  rw [hnl] at EQ GA GB
  rw [hnl, hnm]
  have n1000 : n ≤ 1000 := by omega
  clear RA RB HN hn hnl hnm hl
  go_enter Try.func19, Try.ntmps19
  go_wp2_with fail
  go_loopw [5] (fun iv wr => ∃ k : Nat, k ≤ n ∧ iv = .int .i64 k ∧ Hid (Below w.heap.size w wr) ∧ Hid (∀ j, j < k → l[j]? = m[j]?)) (fun iv _ => n - (intOf iv).toNat)
  case atStart => exact ⟨0, Nat.zero_le _, rfl, Lib.hid (Below.refl _ _), Lib.hid fun j h => absurd h (Nat.not_lt_zero _)⟩
  case round =>
    obtain ⟨k, hk, rfl, B0, ALL⟩ := hrel
    by_cases hlt : k < n
    rotate_left
    · obtain rfl : k = n := by omega
      have g1 : ¬ (k : Int) < (k : Int) := by omega
      have E := Lib.hid (decide_eq_true (EQ.out ALL.out))
      go_wp2_with fail
      go_ret
      exact ⟨congrArg (fun b => Ending.returned (.bool b)) E.out.symm, B0.out⟩
    obtain ⟨ba, oa, rfl, hba, ha⟩ := PA.out (by omega) _ B0.out
    obtain ⟨bb, ob, rfl, hbb, hb⟩ := PB.out (by omega) _ B0.out
    obtain ⟨x, hx⟩ := GA.out k hlt
    obtain ⟨y, hy⟩ := GB.out k hlt
    have CA := Lib.hid (ha k x hx)
    have CB := Lib.hid (hb k y hy)
    clear ha hb
    have g0 : (0 : Int) ≤ (k : Int) := by omega
    have g1 : (k : Int) < (n : Int) := by omega
    by_cases q : x = y
    · subst q
      have A2 : Hid (∀ j, j < k + 1 → l[j]? = m[j]?) := Lib.hid fun j hj => by
        by_cases h : j < k
        · exact ALL.out j h
        · obtain rfl : j = k := by omega
          rw [hx, hy]
      clear hx hy
      have hg := tag_guard
      have he := fun W => equalIn_tag x x W
      simp only [decide_true] at he
      go_upto_region 6 with fail
      refine wp_region_class (More wr) (by kernel_rfl) (by kernel_rfl) (More.drew _) ?_
      repeat (first | go_big_quiet_skip | (go_big_quiet_want; first | (refine quiet_tag (.tmp 19) rfl _ _ rfl x (by intro w' hw'; exact CA.out.below hw' (by assumption)) ?_; simp only [Act.put, List.setIfInBounds_toArray, List.set_cons_zero, List.set_cons_succ]; go_big_quiet_on) | (refine quiet_tag (.tmp 23) rfl _ _ rfl x (by intro w' hw'; exact CB.out.below hw' (by assumption)) ?_; simp only [Act.put, List.setIfInBounds_toArray, List.set_cons_zero, List.set_cons_succ]; go_big_quiet_on) | (go_big_quiet_op; first | go_big_quiet_on | (apply Exists.intro; refine ⟨fun _ _ => ?_, ?_⟩; (with_reducible exact rfl); go_big_quiet_on))))
      refine wpQuiet_nil ?_
      intro w2 hw2
      have B2 := Lib.hid (low_go B0.out hw2)
      clear hw2
      go_wp2_with fail
      go_roundw
      case rel => exact ⟨k + 1, by omega, by congr 1, B2, A2⟩
      case measure => simp [intOf]; omega
    · have E := Lib.hid (decide_eq_false (NE.out k (by rw [hx, hy]; exact fun h => q (Option.some.inj h))))
      clear hx hy
      have hg := tag_guard
      have he := fun W => equalIn_tag x y W
      rw [decide_eq_false q] at he
      clear q
      go_upto_region 6 with fail
      refine wp_region_class (More wr) (by kernel_rfl) (by kernel_rfl) (More.drew _) ?_
      repeat (first | go_big_quiet_skip | (go_big_quiet_want; first | (refine quiet_tag (.tmp 19) rfl _ _ rfl x (by intro w' hw'; exact CA.out.below hw' (by assumption)) ?_; simp only [Act.put, List.setIfInBounds_toArray, List.set_cons_zero, List.set_cons_succ]; go_big_quiet_on) | (refine quiet_tag (.tmp 23) rfl _ _ rfl y (by intro w' hw'; exact CB.out.below hw' (by assumption)) ?_; simp only [Act.put, List.setIfInBounds_toArray, List.set_cons_zero, List.set_cons_succ]; go_big_quiet_on) | (go_big_quiet_op; first | go_big_quiet_on | (apply Exists.intro; refine ⟨fun _ _ => ?_, ?_⟩; (with_reducible exact rfl); go_big_quiet_on))))
      refine wpQuiet_nil ?_
      intro w2 hw2
      have B2 := Lib.hid (low_go B0.out hw2)
      clear hw2
      go_wp2_with fail
      go_ret
      exact ⟨congrArg (fun b => Ending.returned (.bool b)) E.out.symm, B2.out⟩
set_option maxRecDepth 100000 in
set_option maxHeartbeats 4000000 in
theorem rSameNumbers (A B : Option Addr) (c c' : Nat) (l m : List Nat) (w : World) (hl : l.length ≤ 1000) (hA : NumsAt w A l) (hB : NumsAt w B m) : Calls Try.prog 20 #[.slice A l.length c, .slice B m.length c'] w fun e w' => e = .returned (.bool (decide (l = m))) ∧ Below w.heap.size w w' := by
  have RA := Lib.hid hA
  have RB := Lib.hid hB
  clear hA hB
  by_cases hn : l.length = m.length
  rotate_left
  · have E := Lib.hid (decide_eq_false fun q : l = m => hn (by rw [q]))
    have d1 : ((l.length : Int) == (m.length : Int)) = false := by rw [beq_eq_false_iff_ne]; omega
    have d2 : ¬ (l.length : Int) = (m.length : Int) := by omega
    have d3 : ¬ l.length = m.length := hn
    have d4 : (l.length == m.length) = false := by rw [beq_eq_false_iff_ne]; omega
    have d5 : decide (l.length = m.length) = false := by simp; omega
    have d6 : ((l.length : Int) != (m.length : Int)) = true := by simp; omega
    clear hn
    go_enter Try.func20, Try.ntmps20
    go_wp2_with fail
    go_ret
    exact ⟨congrArg (fun b => Ending.returned (.bool b)) E.out.symm, Below.refl _ _⟩
  have EQ : Hid ((∀ j, j < l.length → l[j]? = m[j]?) → l = m) := Lib.hid fun q => List.ext_getElem? fun j => by
    by_cases h : j < l.length
    · exact q j h
    · rw [List.getElem?_eq_none (by omega), List.getElem?_eq_none (by omega)]
  have HN := Lib.hid hn
  have NE : Hid (∀ j : Nat, ¬ (l[j]? = m[j]?) → ¬ (l = m)) := Lib.hid (fun (j : Nat) q r => q (congrArg (fun z => z[j]?) r))
  have GA : Hid (∀ j, j < l.length → ∃ x, l[j]? = some x) := Lib.hid fun j h => ⟨l[j], List.getElem?_eq_getElem h⟩
  have GB : Hid (∀ j, j < l.length → ∃ x, m[j]? = some x) := Lib.hid fun j h => ⟨m[j]'(by omega), List.getElem?_eq_getElem (by omega)⟩
  obtain ⟨n, hnl⟩ : ∃ n, l.length = n := ⟨_, rfl⟩
  have hnm : m.length = n := by omega
  have PA : Hid (0 < n → ∀ W, Below w.heap.size w W → ∃ b o, A = some ⟨b, o, none⟩ ∧ b < W.heap.size ∧ NumsHere W b o l) := Lib.hid fun h W hb => RA.out.below hb (by omega)
  have PB : Hid (0 < n → ∀ W, Below w.heap.size w W → ∃ b o, B = some ⟨b, o, none⟩ ∧ b < W.heap.size ∧ NumsHere W b o m) := Lib.hid fun h W hb => RB.out.below hb (by omega)
  rw [hnl] at EQ GA GB
  rw [hnl, hnm]
  have n1000 : n ≤ 1000 := by omega
  clear RA RB HN hn hnl hnm hl
  go_enter Try.func20, Try.ntmps20
  go_wp2_with fail
  go_loopw [5] (fun iv wr => ∃ k : Nat, k ≤ n ∧ iv = .int .i64 k ∧ Hid (Below w.heap.size w wr) ∧ Hid (∀ j, j < k → l[j]? = m[j]?)) (fun iv _ => n - (intOf iv).toNat)
  case atStart => exact ⟨0, Nat.zero_le _, rfl, Lib.hid (Below.refl _ _), Lib.hid fun j h => absurd h (Nat.not_lt_zero _)⟩
  case round =>
    obtain ⟨k, hk, rfl, B0, ALL⟩ := hrel
    by_cases hlt : k < n
    rotate_left
    · obtain rfl : k = n := by omega
      have g1 : ¬ (k : Int) < (k : Int) := by omega
      have E := Lib.hid (decide_eq_true (EQ.out ALL.out))
      go_wp2_with fail
      go_ret
      exact ⟨congrArg (fun b => Ending.returned (.bool b)) E.out.symm, B0.out⟩
    obtain ⟨ba, oa, rfl, hba, ha⟩ := PA.out (by omega) _ B0.out
    obtain ⟨bb, ob, rfl, hbb, hb⟩ := PB.out (by omega) _ B0.out
    obtain ⟨x, hx⟩ := GA.out k hlt
    obtain ⟨y, hy⟩ := GB.out k hlt
    have CA := Lib.hid (ha k x hx)
    have CB := Lib.hid (hb k y hy)
    clear ha hb
    have g0 : (0 : Int) ≤ (k : Int) := by omega
    have g1 : (k : Int) < (n : Int) := by omega
    by_cases q : x = y
    · subst q
      have A2 : Hid (∀ j, j < k + 1 → l[j]? = m[j]?) := Lib.hid fun j hj => by
        by_cases h : j < k
        · exact ALL.out j h
        · obtain rfl : j = k := by omega
          rw [hx, hy]
      clear hx hy
      go_upto_region 6 with fail
      refine wp_region_class (More wr) (by kernel_rfl) (by kernel_rfl) (More.drew _) ?_
      repeat (first | go_big_quiet_skip | (go_big_quiet_want; first | (refine quietJ_u32 (.tmp 19) rfl ⟨ba, oa + k, none⟩ rfl _ (by intro w' hw'; exact (hw'.cell (by assumption)).trans CA.out) ?_; simp only [Act.put, List.setIfInBounds_toArray, List.set_cons_zero, List.set_cons_succ]; go_big_quiet_on) | (refine quietJ_u32 (.tmp 23) rfl ⟨bb, ob + k, none⟩ rfl _ (by intro w' hw'; exact (hw'.cell (by assumption)).trans CB.out) ?_; simp only [Act.put, List.setIfInBounds_toArray, List.set_cons_zero, List.set_cons_succ]; go_big_quiet_on) | (go_big_quiet_op; first | go_big_quiet_on | (apply Exists.intro; refine ⟨fun _ _ => ?_, ?_⟩; (with_reducible exact rfl); go_big_quiet_on))))
      refine wpQuiet_nil ?_
      intro w2 hw2
      have B2 := Lib.hid (low_go B0.out hw2)
      clear hw2
      go_wp2_with fail
      go_roundw
      case rel => exact ⟨k + 1, by omega, by congr 1, B2, A2⟩
      case measure => simp [intOf]; omega
    · have E := Lib.hid (decide_eq_false (NE.out k (by rw [hx, hy]; exact fun h => q (Option.some.inj h))))
      clear hx hy
      have q1 : ((x : Int) == (y : Int)) = false := by rw [beq_eq_false_iff_ne]; omega
      have q2 : ¬ (x : Int) = (y : Int) := by omega
      have q3 : ¬ x = y := q
      have q4 : (x == y) = false := by rw [beq_eq_false_iff_ne]; exact q
      have q5 : decide (x = y) = false := by simp; exact q
      clear q
      go_upto_region 6 with fail
      refine wp_region_class (More wr) (by kernel_rfl) (by kernel_rfl) (More.drew _) ?_
      repeat (first | go_big_quiet_skip | (go_big_quiet_want; first | (refine quietJ_u32 (.tmp 19) rfl ⟨ba, oa + k, none⟩ rfl _ (by intro w' hw'; exact (hw'.cell (by assumption)).trans CA.out) ?_; simp only [Act.put, List.setIfInBounds_toArray, List.set_cons_zero, List.set_cons_succ]; go_big_quiet_on) | (refine quietJ_u32 (.tmp 23) rfl ⟨bb, ob + k, none⟩ rfl _ (by intro w' hw'; exact (hw'.cell (by assumption)).trans CB.out) ?_; simp only [Act.put, List.setIfInBounds_toArray, List.set_cons_zero, List.set_cons_succ]; go_big_quiet_on) | (go_big_quiet_op; first | go_big_quiet_on | (apply Exists.intro; refine ⟨fun _ _ => ?_, ?_⟩; (with_reducible exact rfl); go_big_quiet_on))))
      refine wpQuiet_nil ?_
      intro w2 hw2
      have B2 := Lib.hid (low_go B0.out hw2)
      clear hw2
      go_wp2_with fail
      go_ret
      exact ⟨congrArg (fun b => Ending.returned (.bool b)) E.out.symm, B2.out⟩
end Go.Proofs.Ytjiooadakklmlaa
