import Derived.Test.YtjiooadakklmlaaJbP3
namespace Go.Proofs.Ytjiooadakklmlaa
open Go.RowKit

/-! The landed code: does a list rise? -/
theorem rise_of {l : List Nat} {k : Nat} (h : RiseTo l k) (hk : l.length ≤ k) : Rise l := fun j hj => h j (by omega)
theorem rise_step {l : List Nat} {m : Nat} (h : RiseTo l (m + 1)) (h1 : l.getD m 0 < l.getD (m + 1) 0) : RiseTo l (m + 1 + 1) := h.next h1
theorem tagsAt_here {w : World} {A : Option Addr} {l : List TagV} (h : TagsAt w A l) (h0 : 0 < l.length) : ∃ b o, A = some ⟨b, o, none⟩ ∧ b < w.heap.size ∧ TagsHere w b o l := h h0
set_option maxRecDepth 100000 in
set_option maxHeartbeats 4000000 in
theorem pRiseN (A : Option Addr) (c : Nat) (l : List Nat) (w : World) (hl : l.length ≤ 1000) (hN : NumsAt w A l) : Calls Try.prog 59 #[.slice A l.length c, .func (.func 60) #[] #[]] w fun e w' => e = .returned (.bool (decide (Rise l))) ∧ Below w.heap.size w w' := by
  have H := Lib.hid hN
  have C1 := Lib.hid fun (v : Nat) W => pN1 v W
  clear hN
  go_enter Try.func59, Try.ntmps59
  go_wp2_with fail
  go_loopw [5] (fun kv wr => ∃ k : Nat, 1 ≤ k ∧ (k = 1 ∨ k ≤ l.length) ∧ kv = .int .i64 k ∧ Hid (Below w.heap.size w wr) ∧ Hid (RiseTo l k)) (fun kv _ => l.length - (intOf kv).toNat)
  case atStart => exact ⟨1, by omega, .inl rfl, rfl, Lib.hid (Below.refl _ _), Lib.hid fun j h => by omega⟩
  case round =>
    obtain ⟨k, k1, hk, rfl, B2, RT⟩ := hrel
    by_cases hlt : k < l.length
    rotate_left
    · have kl : ¬ (k : Int) < (l.length : Int) := by omega
      have E := Lib.hid (decide_eq_true (rise_of RT.out (by omega)))
      go_wp2_with fail
      go_ret
      exact ⟨congrArg (fun b => Ending.returned (.bool b)) E.out.symm, B2.out⟩
    obtain ⟨m, hm⟩ : ∃ m, k = m + 1 := ⟨k - 1, by omega⟩
    obtain ⟨b, o, rfl, hb, hc⟩ := (H.out.below B2.out) (by omega)
    obtain ⟨v, hv⟩ : ∃ v, l[k]? = some v := ⟨l[k], List.getElem?_eq_getElem hlt⟩
    obtain ⟨u, hu⟩ : ∃ u, l[m]? = some u := ⟨l[m]'(by omega), List.getElem?_eq_getElem (by omega)⟩
    have DV : Hid (∀ W, More wr W → W.cell? ⟨b, o + k, none⟩ = some (.int .u32 ((v : Nat) : Int))) := Lib.hid fun W hW => (Below.cell (p := ⟨b, o + k, none⟩) hW hb).trans (hc k v hv)
    have DU : Hid (∀ W, More wr W → W.cell? ⟨b, o + m, none⟩ = some (.int .u32 ((u : Nat) : Int))) := Lib.hid fun W hW => (Below.cell (p := ⟨b, o + m, none⟩) hW hb).trans (hc m u hu)
    have gv : l.getD (m + 1) 0 = v := by rw [← hm, List.getD_eq_getElem?_getD, hv]; rfl
    have gu : l.getD m 0 = u := by rw [List.getD_eq_getElem?_getD, hu]; rfl
    have w1 : IntKind.i64.wrap ((k : Int) - 1) = (m : Int) := by rw [IntKind.wrap_i64]; omega
    have m0 : (0 : Int) ≤ (m : Int) := by omega
    have m1 : (m : Int) < (l.length : Int) := by omega
    have k0 : (0 : Int) ≤ (k : Int) := by omega
    have kl : (k : Int) < (l.length : Int) := by omega
    have w2 : IntKind.i64.wrap ((k : Int) + 1) = (k : Int) + 1 := by rw [IntKind.wrap_i64]; omega
    by_cases q : v ≤ u
    · have t1 : decide ((v : Int) ≤ (u : Int)) = true := by simp; omega
      have t2 : (v : Int) ≤ (u : Int) := by omega
      have t3 : decide (v ≤ u) = true := by simp; omega
      have E := Lib.hid (decide_eq_false fun r : Rise l => by have := r m (by omega); rw [gv, gu] at this; omega)
      clear hc hv hu gv gu q hm RT
      go_wp2_with fail
      refine wp_region_class (More wr) (by kernel_rfl) (by kernel_rfl) (More.drew _) ?_
      repeat (first | go_big_quiet_skip | (go_big_quiet_want; first | (refine quietJ_u32 (.tmp 15) rfl ⟨b, o + k, none⟩ rfl _ (by intro w' hw'; exact DV.out w' hw') ?_; simp only [Act.put, List.setIfInBounds_toArray, List.set_cons_zero, List.set_cons_succ]; go_big_quiet_on) | (refine quietJ_u32 (.tmp 22) rfl ⟨b, o + m, none⟩ rfl _ (by intro w' hw'; exact DU.out w' hw') ?_; simp only [Act.put, List.setIfInBounds_toArray, List.set_cons_zero, List.set_cons_succ]; go_big_quiet_on) | (go_big_quiet_op; first | go_big_quiet_on | (apply Exists.intro; refine ⟨fun _ _ => ?_, ?_⟩; (with_reducible exact rfl); go_big_quiet_on) | go_big_quiet_call (((intro hC; first | ((with_reducible refine (C1.out v _).mono ?_); exact fun e w' h => ⟨h.1, by rw [h.2]; exact hC⟩) | ((with_reducible refine (C1.out u _).mono ?_); exact fun e w' h => ⟨h.1, by rw [h.2]; exact hC⟩)))))))
      refine wpQuiet_nil ?_
      intro w7 hw7
      have B7 := Lib.hid (low_go B2.out hw7)
      clear hw7
      go_wp2_with fail
      go_ret
      exact ⟨congrArg (fun b => Ending.returned (.bool b)) E.out.symm, B7.out⟩
    · have t1 : decide ((v : Int) ≤ (u : Int)) = false := by simp; omega
      have t2 : ¬ (v : Int) ≤ (u : Int) := by omega
      have t3 : decide (v ≤ u) = false := by simp; omega
      have RT2 : Hid (RiseTo l (k + 1)) := Lib.hid (by
        have := RT.out
        rw [hm] at this ⊢
        exact rise_step this (by rw [gv, gu]; omega))
      have l1000 : k < 1000 := by omega
      clear hc hv hu gv gu q hm RT
      go_wp2_with fail
      refine wp_region_class (More wr) (by kernel_rfl) (by kernel_rfl) (More.drew _) ?_
      repeat (first | go_big_quiet_skip | (go_big_quiet_want; first | (refine quietJ_u32 (.tmp 15) rfl ⟨b, o + k, none⟩ rfl _ (by intro w' hw'; exact DV.out w' hw') ?_; simp only [Act.put, List.setIfInBounds_toArray, List.set_cons_zero, List.set_cons_succ]; go_big_quiet_on) | (refine quietJ_u32 (.tmp 22) rfl ⟨b, o + m, none⟩ rfl _ (by intro w' hw'; exact DU.out w' hw') ?_; simp only [Act.put, List.setIfInBounds_toArray, List.set_cons_zero, List.set_cons_succ]; go_big_quiet_on) | (go_big_quiet_op; first | go_big_quiet_on | (apply Exists.intro; refine ⟨fun _ _ => ?_, ?_⟩; (with_reducible exact rfl); go_big_quiet_on) | go_big_quiet_call (((intro hC; first | ((with_reducible refine (C1.out v _).mono ?_); exact fun e w' h => ⟨h.1, by rw [h.2]; exact hC⟩) | ((with_reducible refine (C1.out u _).mono ?_); exact fun e w' h => ⟨h.1, by rw [h.2]; exact hC⟩)))))))
      refine wpQuiet_nil ?_
      intro w7 hw7
      have B7 := Lib.hid (low_go B2.out hw7)
      clear hw7
      go_wp2_with fail
      go_roundw
      case rel => exact ⟨k + 1, by omega, .inr (by omega), by congr 1, B7, RT2⟩
      case measure => simp [intOf]; omega
set_option maxRecDepth 100000 in
set_option maxHeartbeats 4000000 in
theorem pRiseT (A : Option Addr) (c : Nat) (l : List TagV) (w : World) (hl : l.length ≤ 1000) (hN : TagsAt w A l) : Calls Try.prog 54 #[.slice A l.length c, .func (.func 56) #[] #[]] w fun e w' => e = .returned (.bool (decide (Rise (l.map Prod.fst)))) ∧ Below w.heap.size w w' := by
  have H := Lib.hid hN
  have C1 := Lib.hid fun (v : TagV) W => pT2 v W
  clear hN
  go_enter Try.func54, Try.ntmps54
  go_wp2_with fail
  go_loopw [5] (fun kv wr => ∃ k : Nat, 1 ≤ k ∧ (k = 1 ∨ k ≤ l.length) ∧ kv = .int .i64 k ∧ Hid (Below w.heap.size w wr) ∧ Hid (RiseTo (l.map Prod.fst) k)) (fun kv _ => l.length - (intOf kv).toNat)
  case atStart => exact ⟨1, by omega, .inl rfl, rfl, Lib.hid (Below.refl _ _), Lib.hid fun j h => by omega⟩
  case round =>
    obtain ⟨k, k1, hk, rfl, B2, RT⟩ := hrel
    by_cases hlt : k < l.length
    rotate_left
    · have kl : ¬ (k : Int) < (l.length : Int) := by omega
      have E := Lib.hid (decide_eq_true (rise_of RT.out (by rw [List.length_map]; omega)))
      go_wp2_with fail
      go_ret
      exact ⟨congrArg (fun b => Ending.returned (.bool b)) E.out.symm, B2.out⟩
    obtain ⟨m, hm⟩ : ∃ m, k = m + 1 := ⟨k - 1, by omega⟩
    obtain ⟨b, o, rfl, hb, hc⟩ := tagsAt_here (H.out.below B2.out) (by omega)
    obtain ⟨v, hv⟩ : ∃ v, l[k]? = some v := ⟨l[k], List.getElem?_eq_getElem hlt⟩
    obtain ⟨u, hu⟩ : ∃ u, l[m]? = some u := ⟨l[m]'(by omega), List.getElem?_eq_getElem (by omega)⟩
    have DV : Hid (∀ W, More wr W → TAt W b (o + k * 2) v) := Lib.hid fun W hW => TAt.below (hc k v hv) hW hb
    have DU : Hid (∀ W, More wr W → TAt W b (o + m * 2) u) := Lib.hid fun W hW => TAt.below (hc m u hu) hW hb
    have gv : (l.map Prod.fst).getD (m + 1) 0 = v.1 := by rw [← hm, List.getD_eq_getElem?_getD, List.getElem?_map, hv]; rfl
    have gu : (l.map Prod.fst).getD m 0 = u.1 := by rw [List.getD_eq_getElem?_getD, List.getElem?_map, hu]; rfl
    have w1 : IntKind.i64.wrap ((k : Int) - 1) = (m : Int) := by rw [IntKind.wrap_i64]; omega
    have m0 : (0 : Int) ≤ (m : Int) := by omega
    have m1 : (m : Int) < (l.length : Int) := by omega
    have k0 : (0 : Int) ≤ (k : Int) := by omega
    have kl : (k : Int) < (l.length : Int) := by omega
    have w2 : IntKind.i64.wrap ((k : Int) + 1) = (k : Int) + 1 := by rw [IntKind.wrap_i64]; omega
    by_cases q : v.1 ≤ u.1
    · have t1 : decide ((v.1 : Int) ≤ (u.1 : Int)) = true := by simp; omega
      have t2 : (v.1 : Int) ≤ (u.1 : Int) := by omega
      have t3 : decide (v.1 ≤ u.1) = true := by simp; omega
      have E := Lib.hid (decide_eq_false fun r : Rise (l.map Prod.fst) => by have := r m (by rw [List.length_map]; omega); rw [gv, gu] at this; omega)
      clear hc hv hu gv gu q hm RT
      go_wp2_with fail
      refine wp_region_class (More wr) (by kernel_rfl) (by kernel_rfl) (More.drew _) ?_
      repeat (first | go_big_quiet_skip | (go_big_quiet_want; first | (refine quiet_tag (.tmp 15) rfl b (o + k * 2) rfl v (by intro w' hw'; exact DV.out w' hw') ?_; simp only [Act.put, List.setIfInBounds_toArray, List.set_cons_zero, List.set_cons_succ]; go_big_quiet_on) | (refine quiet_tag (.tmp 22) rfl b (o + m * 2) rfl u (by intro w' hw'; exact DU.out w' hw') ?_; simp only [Act.put, List.setIfInBounds_toArray, List.set_cons_zero, List.set_cons_succ]; go_big_quiet_on) | (go_big_quiet_op; first | go_big_quiet_on | (apply Exists.intro; refine ⟨fun _ _ => ?_, ?_⟩; (with_reducible exact rfl); go_big_quiet_on) | go_big_quiet_call (((intro hC; first | ((with_reducible refine (C1.out v _).mono ?_); exact fun e w' h => ⟨h.1, hC.on h.2⟩) | ((with_reducible refine (C1.out u _).mono ?_); exact fun e w' h => ⟨h.1, hC.on h.2⟩)))))))
      refine wpQuiet_nil ?_
      intro w7 hw7
      have B7 := Lib.hid (low_go B2.out hw7)
      clear hw7
      go_wp2_with fail
      go_ret
      exact ⟨congrArg (fun b => Ending.returned (.bool b)) E.out.symm, B7.out⟩
    · have t1 : decide ((v.1 : Int) ≤ (u.1 : Int)) = false := by simp; omega
      have t2 : ¬ (v.1 : Int) ≤ (u.1 : Int) := by omega
      have t3 : decide (v.1 ≤ u.1) = false := by simp; omega
      have RT2 : Hid (RiseTo (l.map Prod.fst) (k + 1)) := Lib.hid (by
        have := RT.out
        rw [hm] at this ⊢
        exact rise_step this (by rw [gv, gu]; omega))
      have l1000 : k < 1000 := by omega
      clear hc hv hu gv gu q hm RT
      go_wp2_with fail
      refine wp_region_class (More wr) (by kernel_rfl) (by kernel_rfl) (More.drew _) ?_
      repeat (first | go_big_quiet_skip | (go_big_quiet_want; first | (refine quiet_tag (.tmp 15) rfl b (o + k * 2) rfl v (by intro w' hw'; exact DV.out w' hw') ?_; simp only [Act.put, List.setIfInBounds_toArray, List.set_cons_zero, List.set_cons_succ]; go_big_quiet_on) | (refine quiet_tag (.tmp 22) rfl b (o + m * 2) rfl u (by intro w' hw'; exact DU.out w' hw') ?_; simp only [Act.put, List.setIfInBounds_toArray, List.set_cons_zero, List.set_cons_succ]; go_big_quiet_on) | (go_big_quiet_op; first | go_big_quiet_on | (apply Exists.intro; refine ⟨fun _ _ => ?_, ?_⟩; (with_reducible exact rfl); go_big_quiet_on) | go_big_quiet_call (((intro hC; first | ((with_reducible refine (C1.out v _).mono ?_); exact fun e w' h => ⟨h.1, hC.on h.2⟩) | ((with_reducible refine (C1.out u _).mono ?_); exact fun e w' h => ⟨h.1, hC.on h.2⟩)))))))
      refine wpQuiet_nil ?_
      intro w7 hw7
      have B7 := Lib.hid (low_go B2.out hw7)
      clear hw7
      go_wp2_with fail
      go_roundw
      case rel => exact ⟨k + 1, by omega, .inr (by omega), by congr 1, B7, RT2⟩
      case measure => simp [intOf]; omega
end Go.Proofs.Ytjiooadakklmlaa
