import Derived.Test.YtogdjjanladghaaTell2
namespace Go.Proofs.Ytogdjjanladghaa
open Go.RowKit Go.Shelf Go.BigFrame
attribute [local go_sem] Oper.semAt_some

theorem one_set {W : World} {q : Nat} {v : Value} (d : Nat) (v' : Value) (hv : W.cell? ⟨q, 0, none⟩ = some v) (hf : W.frozen? ⟨q, 0, none⟩ = false) :
    ((W.drewN d).setCell ⟨q, 0, none⟩ v').cell? ⟨q, 0, none⟩ = some v' ∧ ((W.drewN d).setCell ⟨q, 0, none⟩ v').frozen? ⟨q, 0, none⟩ = false ∧
    (∀ p, p ≠ q → ((W.drewN d).setCell ⟨q, 0, none⟩ v').cell? ⟨p, 0, none⟩ = W.cell? ⟨p, 0, none⟩ ∧ ((W.drewN d).setCell ⟨q, 0, none⟩ v').frozen? ⟨p, 0, none⟩ = W.frozen? ⟨p, 0, none⟩) ∧
    (∀ B, KeepsFrom B W ((W.drewN d).setCell ⟨q, 0, none⟩ v')) ∧ (∀ B, B ≤ q → Below B W ((W.drewN d).setCell ⟨q, 0, none⟩ v')) := by
  have hv' : (W.drewN d).cell? ⟨q, 0, none⟩ = some v := hv
  have hf' : (W.drewN d).frozen? ⟨q, 0, none⟩ = false := hf
  refine ⟨World.cell?_setCell_same' _ _ _ (by rw [hv']; rfl), by rw [World.frozen?_setCell]; exact hf', fun p hp => ⟨?_, ?_⟩, fun B => ?_, fun B hB => ((Below.refl _ W).drewN d).setCell (p := ⟨q, 0, none⟩) hB _⟩
  · rw [World.cell?_setCell_other _ _ _ _ (by intro e; injection e with e; exact hp e.symm)]; rfl
  · rw [World.frozen?_setCell]; rfl
  · have h : KeepsFrom B (W.drewN d) ((W.drewN d).setCell ⟨q, 0, none⟩ v') := (KeepsOthers.setCell _ _ _).from _
    exact ⟨h.size, h.same⟩

/-- How a round may leave: as many were told as were asked for, and a break; or a number that isn't the next one, and a return. -/
def tellLeft (stop : Int) (B R : Nat) (c : Code) (pre : List Nat) (W : World) : Prop :=
  (c = .exit 0 ∧ (W.cell? ⟨B, 0, none⟩ = some (.int .i64 (pre.length : Int)) ∧ W.frozen? ⟨B, 0, none⟩ = false) ∧ (W.cell? ⟨R, 0, none⟩ = some (.bool false) ∧ W.frozen? ⟨R, 0, none⟩ = false) ∧ (pre.length : Int) = stop) ∨ (c = .ret ∧ ∃ ini x, pre = ini ++ [x] ∧ x ≠ ini.length)
theorem tellLeft_own (stop : Int) (B R : Nat) (c : Code) : _root_.Go.Own (tellLeft stop B R c) := by
  intro s A A' row hs hg hr
  rcases hs with ⟨e, ⟨h1, h2⟩, ⟨h4, h5⟩, h3⟩ | h
  · exact .inl ⟨e, ⟨cell_kept h1 hg hr, (frozen_kept h1 hg hr).trans h2⟩, ⟨cell_kept h4 hg hr, (frozen_kept h4 hg hr).trans h5⟩, h3⟩
  · exact .inr h

set_option maxRecDepth 100000 in
set_option maxHeartbeats 1000000 in
theorem numsTell_in (F : Fence) (m : Nat) (h5 : F.fn 5) (hT : F.fn 22) (hF : F.fn 28) (hG : F.fn 12) (hW : F.fn 29) (hRef : F.fn 14) (hro : F.round = none) (hm : 5 ≤ m)
    (lift : ∀ (k g : Nat) (args : Array Value) (w : World) (R : Ending → World → Prop), Calls Try.prog g args w R → CallsIn F k Try.prog g args w R)
    (A : Option Addr) (n c : Nat) (stop : Int) (f : Nat → Nat) (w : World) (hR : Row w A n f) (hn : n ≤ 20000) (hs0 : -9223372036854775808 ≤ stop) (hs1 : stop ≤ 9223372036854775807) :
    CallsIn F m Try.prog 5 #[.slice A n c, .int .i64 stop] w fun e w' => e = .returned (.bool true) ∧ Below w.heap.size w w' := by
  have hm1 : 1 ≤ m := by omega
  have HR := Lib.hid hR
  have HL := Lib.hid lift
  clear hR lift
  have d1 : decide ((20000 : Int) < n) = false := by simp; omega
  have hnil := fn_ne_nil
  refine callsIn_of_wp_marks Try.func5 rfl h5 ?_ hro
  simp only [Try.ntmps5, List.size_toArray, List.length_cons, List.length_nil, Nat.reduceAdd, Nat.reduceSub, Array.replicate_succ, Array.replicate_zero, List.push_toArray, List.append_toArray, List.nil_append, List.cons_append]
  gi_wp2_with (gi_at_call 22; refine (HL.out _ _ _ _ _ (tell_any _ _ _ _)).mono ?_; rintro e w2 ⟨rfl, rfl⟩)
  clear hnil d1
  have bB := ((((Boxed.new w 22 (.slice A n c)).alloc (.cells #[.int .i64 stop] 3)).alloc (.cells #[.bool false] 4)).alloc (.cells #[.slice A n c] 22)).alloc (.cells #[.int .i64 0] 3)
  have bS := (((Boxed.new (w.alloc (.cells #[.slice A n c] 22)) 3 (.int .i64 stop)).alloc (.cells #[.bool false] 4)).alloc (.cells #[.slice A n c] 22)).alloc (.cells #[.int .i64 0] 3)
  have bR := ((Boxed.new ((w.alloc (.cells #[.slice A n c] 22)).alloc (.cells #[.int .i64 stop] 3)) 4 (.bool false)).alloc (.cells #[.slice A n c] 22)).alloc (.cells #[.int .i64 0] 3)
  have bX := (Boxed.new (((w.alloc (.cells #[.slice A n c] 22)).alloc (.cells #[.int .i64 stop] 3)).alloc (.cells #[.bool false] 4)) 22 (.slice A n c)).alloc (.cells #[.int .i64 0] 3)
  have bC := Boxed.new ((((w.alloc (.cells #[.slice A n c] 22)).alloc (.cells #[.int .i64 stop] 3)).alloc (.cells #[.bool false] 4)).alloc (.cells #[.slice A n c] 22)) 3 (.int .i64 0)
  simp only [World.size_alloc] at bS bR bX bC
  have hB0 : Below w.heap.size w (((((w.alloc (.cells #[.slice A n c] 22)).alloc (.cells #[.int .i64 stop] 3)).alloc (.cells #[.bool false] 4)).alloc (.cells #[.slice A n c] 22)).alloc (.cells #[.int .i64 0] 3)) := (((((Below.refl _ w).alloc (Nat.le_refl _) _).alloc (by simp) _).alloc (by simp; omega) _).alloc (by simp; omega) _).alloc (by simp; omega) _
  have hz0 : (((((w.alloc (.cells #[.slice A n c] 22)).alloc (.cells #[.int .i64 stop] 3)).alloc (.cells #[.bool false] 4)).alloc (.cells #[.slice A n c] 22)).alloc (.cells #[.int .i64 0] 3)).heap.size = w.heap.size + 5 := by simp
  generalize ((((w.alloc (.cells #[.slice A n c] 22)).alloc (.cells #[.int .i64 stop] 3)).alloc (.cells #[.bool false] 4)).alloc (.cells #[.slice A n c] 22)).alloc (.cells #[.int .i64 0] 3) = W0 at bB bS bR bX bC hB0 hz0 ⊢
  refine wpIn_rangeFunc_ownG hro hm1 (gf := 28) (lb := #[.pointer (some ⟨w.heap.size + 1 + 1 + 1, 0, none⟩)]) rfl hF (enters_of Try.func28 (by kernel_rfl) rfl)
    (tell_stops F (m - 1) hF hG hW hro (by omega) HL.out (w.heap.size + 1 + 1 + 1) (w.heap.size + 4) A n c f hn W0 (by omega) (fun W' h => (h.cell (p := ⟨w.heap.size + 1 + 1 + 1, 0, none⟩) (Nat.lt_succ_self _)).trans bX.cell) (fun W' h => HR.out.below (hB0.trans (h.mono (by omega))))) belowK_t (belowK_b (by omega)) (Below.refl _ _) (fun _ => rfl)
    (fun pre W => ((W.cell? ⟨w.heap.size + 1 + 1 + 1 + 1, 0, none⟩ = some (.int .i64 (pre.length : Int)) ∧ W.frozen? ⟨w.heap.size + 1 + 1 + 1 + 1, 0, none⟩ = false) ∧ (pre.length = 0 ∨ (pre.length : Int) ≠ stop)) ∧ Below (w.heap.size + 4) W0 W)
    (fun c pre W => tellLeft stop (w.heap.size + 1 + 1 + 1 + 1) (w.heap.size + 1 + 1) c pre W ∧ Below (w.heap.size + 2) W0 W)
    (OwnFrom.and (_root_.Go.Own.from (fun s A B row hs hg hr => ⟨⟨cell_kept hs.1.1 hg hr, (frozen_kept hs.1.1 hg hr).trans hs.1.2⟩, hs.2⟩) _) (ownFrom_below (by omega) (by omega)))
    (fun c => OwnFrom.and (_root_.Go.Own.from (tellLeft_own _ _ _ c) _) (ownFrom_below (by omega) (by omega)))
    ⟨⟨⟨bC.cell, bC.frozen⟩, .inl rfl⟩, Below.refl _ _⟩
    (fun x => { tmps := #[.slice A n c, .int .i64 stop, .pointer (some ⟨w.heap.size, 0, none⟩), .pointer (some ⟨w.heap.size + 1, 0, none⟩), .pointer (some ⟨w.heap.size + 1 + 1, 0, none⟩), .func (.func 28) #[] #[.pointer (some ⟨w.heap.size + 1 + 1 + 1, 0, none⟩)], .pointer (some ⟨w.heap.size + 1 + 1 + 1 + 1, 0, none⟩), .int .i64 (4 * (x : Int)), .int .u32 ((g32 f (4 * x) : Nat) : Int), undef, undef, .slice A n c, .int .i64 n, .bool false, .slice A n c, .func (.func 28) #[] #[.pointer (some ⟨w.heap.size + 1 + 1 + 1, 0, none⟩)], .func (.func 28) #[] #[.pointer (some ⟨w.heap.size + 1 + 1 + 1, 0, none⟩)], .bool false, .func (.func 28) #[] #[.pointer (some ⟨w.heap.size + 1 + 1 + 1, 0, none⟩)], .int .i64 (4 * (x : Int)), .int .u32 ((g32 f (4 * x) : Nat) : Int), undef, undef, undef, undef, undef, undef, undef, undef, undef, undef, undef, undef, undef, undef, undef, undef, undef, undef, undef, undef, undef, undef, undef, undef, undef, undef, undef, undef, undef, undef, undef, undef, undef, undef, undef], defers := [] }) ?assign ?body ?done ?stop
  case assign =>
    intro l x W K hK
    gi_wp2
    exact hK
  case body =>
    rintro l pre x W ⟨⟨⟨hc, hfc⟩, hns⟩, hB⟩ hlen
    have hl : (pre.length : Int) ≤ 5000 := by omega
    have hl4 : 4 * pre.length + 4 ≤ n := by omega
    have HB := Lib.hid hB
    have HN := Lib.hid hns
    have hcb : W.cell? ⟨w.heap.size, 0, none⟩ = some (.slice A n c) := (hB.cell (p := ⟨w.heap.size, 0, none⟩) (by show w.heap.size < _; omega)).trans bB.cell
    have hcs : W.cell? ⟨w.heap.size + 1, 0, none⟩ = some (.int .i64 stop) := (hB.cell (p := ⟨w.heap.size + 1, 0, none⟩) (by show w.heap.size + 1 < _; omega)).trans bS.cell
    have hcr : W.cell? ⟨w.heap.size + 1 + 1, 0, none⟩ = some (.bool false) := (hB.cell (p := ⟨w.heap.size + 1 + 1, 0, none⟩) (by show w.heap.size + 1 + 1 < _; omega)).trans bR.cell
    have hfr : W.frozen? ⟨w.heap.size + 1 + 1, 0, none⟩ = false := (hB.frozen (p := ⟨w.heap.size + 1 + 1, 0, none⟩) (by show w.heap.size + 1 + 1 < _; omega)).trans bR.frozen
    have HRW := Lib.hid (HR.out.below (hB0.trans (hB.mono (by omega))))
    have hm2 : 1 ≤ m - 1 - 1 := by omega
    clear hB hns hlen
    by_cases hx : x = pre.length
    · subst hx
      have t0 : ((4 * (pre.length : Int)) != 4 * (pre.length : Int)) = false := by simp
      by_cases he : (pre.length : Int) + 1 = stop
      · have t1 : (((pre.length : Int) + 1) == stop) = true := by simpa using he
        have HE := Lib.hid he
        clear he
        gi_wp2_with (gi_at_call 14; refine (CallsIn.inRound l (HL.out _ _ _ _ _ (rGet32_yes _ _ _ _ f _ (by omega) HRW.out (by omega) (by omega)))).mono ?_; rintro e w' ⟨rfl, d, rfl⟩; rw [show (4 * (pre.length : Int)).toNat = 4 * pre.length from by omega])
        obtain ⟨q1, q2, q3, q4, q5⟩ := one_set (W := W) (q := w.heap.size + 1 + 1 + 1 + 1) d (.int .i64 ((pre.length : Int) + 1)) hc hfc
        have q6 := q3 (w.heap.size + 1 + 1) (by omega)
        exact ⟨q4 _, .inl ⟨rfl, ⟨by rw [List.length_append]; exact q1, q2⟩, ⟨q6.1.trans hcr, q6.2.trans hfr⟩, by rw [List.length_append, ← HE.out]; rfl⟩, (HB.out.mono (by omega)).trans (q5 _ (by omega))⟩
      · have t1 : (((pre.length : Int) + 1) == stop) = false := by simpa using he
        have HE := Lib.hid he
        clear he
        gi_wp2_with (gi_at_call 14; refine (CallsIn.inRound l (HL.out _ _ _ _ _ (rGet32_yes _ _ _ _ f _ (by omega) HRW.out (by omega) (by omega)))).mono ?_; rintro e w' ⟨rfl, d, rfl⟩; rw [show (4 * (pre.length : Int)).toNat = 4 * pre.length from by omega])
        obtain ⟨q1, q2, q3, q4, q5⟩ := one_set (W := W) (q := w.heap.size + 1 + 1 + 1 + 1) d (.int .i64 ((pre.length : Int) + 1)) hc hfc
        exact ⟨q4 _, q5 _ (by omega), ⟨⟨by rw [List.length_append]; exact q1, q2⟩, .inr (by rw [List.length_append]; exact HE.out)⟩, HB.out.trans (q5 _ (by omega))⟩
    · have t0 : ((4 * (x : Int)) != 4 * (pre.length : Int)) = true := by rw [bne_iff_ne]; omega
      have HX := Lib.hid hx
      clear hx
      gi_wp2_with (gi_at_call 14; refine (CallsIn.inRound l (HL.out _ _ _ _ _ (rGet32_yes _ _ _ _ f _ (by omega) HRW.out (by omega) (by omega)))).mono ?_; rintro e w' ⟨rfl, d, rfl⟩; rw [show (4 * (pre.length : Int)).toNat = 4 * pre.length from by omega])
      obtain ⟨q1, q2, q3, q4, q5⟩ := one_set (W := W) (q := w.heap.size + 1 + 1) d (.bool false) hcr hfr
      exact ⟨q4 _, .inr ⟨rfl, pre, x, rfl, HX.out⟩, (HB.out.mono (by omega)).trans (q5 _ (by omega))⟩
  case done =>
    rintro D ys W hD rfl ⟨⟨⟨hc, hfc⟩, hns⟩, hB⟩ hK
    rw [List.length_range] at hc
    have hcb : W.cell? ⟨w.heap.size, 0, none⟩ = some (.slice A n c) := (hB.cell (p := ⟨w.heap.size, 0, none⟩) (by show w.heap.size < _; omega)).trans bB.cell
    have hcr : W.cell? ⟨w.heap.size + 1 + 1, 0, none⟩ = some (.bool false) := (hB.cell (p := ⟨w.heap.size + 1 + 1, 0, none⟩) (by show w.heap.size + 1 + 1 < _; omega)).trans bR.cell
    have hfr : W.frozen? ⟨w.heap.size + 1 + 1, 0, none⟩ = false := (hB.frozen (p := ⟨w.heap.size + 1 + 1, 0, none⟩) (by show w.heap.size + 1 + 1 < _; omega)).trans bR.frozen
    have HB := Lib.hid hB
    have HK2 := Lib.hid ((KeepsOthers.setCell W ⟨w.heap.size + 1 + 1, 0, none⟩ (.bool true)).same D _ hK rfl)
    clear hB hK hns
    gi_wp2
    refine ⟨by simp, .inl ⟨_, _, rfl, run_takeDeferred HK2.out, ?_⟩⟩
    have hc5 := cell_kept (World.cell?_setCell_same' W ⟨w.heap.size + 1 + 1, 0, none⟩ (.bool true) (by rw [hcr]; rfl)) (grownBy_putObj' _ D (.deferred none)) (fun r e => by cases e; exact ⟨_, HK2.out, rfl⟩)
    refine ⟨.bool true, ?_, rfl, ((hB0.trans (HB.out.mono (by omega))).setCell (p := ⟨w.heap.size + 1 + 1, 0, none⟩) (by show w.heap.size ≤ w.heap.size + 1 + 1; omega) _).trans (belowK_b (w := w) (Nat.le_refl _) _ D _ _ (by omega) HK2.out rfl rfl)⟩
    simp [results, Try.f5, go_sem, hc5]
  case stop =>
    rintro D c' pre W hD ⟨k, hk, rfl⟩ ⟨hl, hB⟩ hK
    rcases hl with ⟨rfl, ⟨hc, hfc⟩, ⟨hcr, hfr⟩, hst⟩ | ⟨_, ini, x, he, hx⟩
    · rw [List.length_range] at hc hst
      subst hst
      have hcb : W.cell? ⟨w.heap.size, 0, none⟩ = some (.slice A n c) := (hB.cell (p := ⟨w.heap.size, 0, none⟩) (by show w.heap.size < _; omega)).trans bB.cell
      have hcs : W.cell? ⟨w.heap.size + 1, 0, none⟩ = some (.int .i64 (k : Int)) := (hB.cell (p := ⟨w.heap.size + 1, 0, none⟩) (by show w.heap.size + 1 < _; omega)).trans bS.cell
      have HB := Lib.hid hB
      have HK2 := Lib.hid ((KeepsOthers.setCell W ⟨w.heap.size + 1 + 1, 0, none⟩ (.bool true)).same D _ hK rfl)
      clear hB hK
      by_cases h4 : k = n / 4
      · have t1 : ((k : Int) == (n : Int) / 4) = true := by rw [beq_iff_eq]; omega
        clear h4
        gi_wp2
        refine ⟨by simp, .inl ⟨_, _, rfl, run_takeDeferred HK2.out, ?_⟩⟩
        have hc5 := cell_kept (World.cell?_setCell_same' W ⟨w.heap.size + 1 + 1, 0, none⟩ (.bool true) (by rw [hcr]; rfl)) (grownBy_putObj' _ D (.deferred none)) (fun r e => by cases e; exact ⟨_, HK2.out, rfl⟩)
        refine ⟨.bool true, ?_, rfl, ((hB0.trans (HB.out.mono (by omega))).setCell (p := ⟨w.heap.size + 1 + 1, 0, none⟩) (by show w.heap.size ≤ w.heap.size + 1 + 1; omega) _).trans (belowK_b (w := w) (Nat.le_refl _) _ D _ _ (by omega) HK2.out rfl rfl)⟩
        simp [results, Try.f5, go_sem, hc5]
      · have t1 : ((k : Int) == (n : Int) / 4) = false := by rw [beq_eq_false_iff_ne]; omega
        clear h4
        gi_wp2
        refine ⟨by simp, .inl ⟨_, _, rfl, run_takeDeferred HK2.out, ?_⟩⟩
        have hc5 := cell_kept (World.cell?_setCell_same' W ⟨w.heap.size + 1 + 1, 0, none⟩ (.bool true) (by rw [hcr]; rfl)) (grownBy_putObj' _ D (.deferred none)) (fun r e => by cases e; exact ⟨_, HK2.out, rfl⟩)
        refine ⟨.bool true, ?_, rfl, ((hB0.trans (HB.out.mono (by omega))).setCell (p := ⟨w.heap.size + 1 + 1, 0, none⟩) (by show w.heap.size ≤ w.heap.size + 1 + 1; omega) _).trans (belowK_b (w := w) (Nat.le_refl _) _ D _ _ (by omega) HK2.out rfl rfl)⟩
        simp [results, Try.f5, go_sem, hc5]
    · exfalso
      have h1 : k = ini.length + 1 := by have := congrArg List.length he; simpa using this
      subst h1
      rw [List.range_succ] at he
      obtain ⟨_, h2⟩ := List.append_inj' he rfl
      injection h2 with h2
      exact hx h2.symm

set_option maxHeartbeats 400000 in
theorem numsTell_any (A : Option Addr) (n c : Nat) (stop : Int) (f : Nat → Nat) (w : World) (hR : Row w A n f) (hs : -9223372036854775808 ≤ stop ∧ stop ≤ 9223372036854775807) :
    Calls Try.prog 5 #[.slice A n c, .int .i64 stop] w fun e w' => e = .returned (.bool true) ∧ Below w.heap.size w w' := by
  by_cases hn : 20000 < n
  · have d1 : decide ((20000 : Int) < n) = true := by simp; omega
    clear hR
    go_enter Try.func5, Try.ntmps5
    go_wp2
    refine bodyPost_ret (v := .bool true) (by simp [results, Try.f5, go_sem]) rfl ⟨rfl, ?_⟩
    exact (((Below.refl _ _).alloc (Nat.le_refl _) _).alloc (by simp) _).alloc (by simp; omega) _
  · exact callsIn_wide.1 (numsTell_in Fence.wide 5 trivial trivial trivial trivial trivial trivial rfl (Nat.le_refl _) (fun _ _ _ _ _ h => callsIn_wide.2 h) A n c stop f w hR (by omega) hs.1 hs.2)

end Go.Proofs.Ytogdjjanladghaa
