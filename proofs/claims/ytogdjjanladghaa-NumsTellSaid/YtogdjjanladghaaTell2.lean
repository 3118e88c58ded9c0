import Derived.Test.YtogdjjanladghaaTell1
import Derived.RangeFuncWrites
import Derived.Sort.BigQuietIn
namespace Go.Proofs.Ytogdjjanladghaa
open Go.RowKit Go.Shelf Go.BigFrame
attribute [local go_sem] Oper.semAt_some

/-- Whether all of the numbers that were told are 0, and what is left at the end. -/
def accz (n : Nat) (f : Nat → Nat) (pre : List Nat) : Bool := zb (n - (n - n % 4)) (fun i => f (n - n % 4 + i)) && pre.all (fun k => g32 f (4 * k) == 0)
theorem accz_snoc (n : Nat) (f : Nat → Nat) (pre : List Nat) (x : Nat) : accz n f (pre ++ [x]) = (accz n f pre && (g32 f (4 * x) == 0)) := by
  simp [accz, Bool.and_assoc]
theorem g32_zero {f : Nat → Nat} {a : Nat} : g32 f a = 0 ↔ f a = 0 ∧ f (a + 1) = 0 ∧ f (a + 2) = 0 ∧ f (a + 3) = 0 := by
  unfold g32; omega
theorem accz_all (n : Nat) (f : Nat → Nat) : accz n f (List.range (n / 4)) = zb n f := by
  rw [Bool.eq_iff_iff]
  simp only [accz, zb, Bool.and_eq_true, List.all_eq_true, List.mem_range, beq_iff_eq]
  constructor
  · rintro ⟨h1, h2⟩ i hi
    by_cases h : i < 4 * (n / 4)
    · have h3 := g32_zero.1 (h2 (i / 4) (by omega))
      rcases (show i = 4 * (i / 4) ∨ i = 4 * (i / 4) + 1 ∨ i = 4 * (i / 4) + 2 ∨ i = 4 * (i / 4) + 3 by omega) with e | e | e | e
      · rw [e]; exact h3.1
      · rw [e]; exact h3.2.1
      · rw [e]; exact h3.2.2.1
      · rw [e]; exact h3.2.2.2
    · have h3 := h1 (i - (n - n % 4)) (by omega)
      rwa [show n - n % 4 + (i - (n - n % 4)) = i by omega] at h3
  · intro h
    exact ⟨fun i hi => h _ (by omega), fun k hk => g32_zero.2 ⟨h _ (by omega), h _ (by omega), h _ (by omega), h _ (by omega)⟩⟩

theorem two_set {W : World} {p q : Nat} (hpq : p ≠ q) {u v : Value} (u' v' : Value) (hu : W.cell? ⟨p, 0, none⟩ = some u) (hv : W.cell? ⟨q, 0, none⟩ = some v) :
    ((W.setCell ⟨p, 0, none⟩ u').setCell ⟨q, 0, none⟩ v').cell? ⟨p, 0, none⟩ = some u' ∧ ((W.setCell ⟨p, 0, none⟩ u').setCell ⟨q, 0, none⟩ v').cell? ⟨q, 0, none⟩ = some v' := by
  refine ⟨?_, ?_⟩
  · rw [World.cell?_setCell_other _ _ _ _ (by intro e; injection e with e; exact hpq e.symm)]
    exact World.cell?_setCell_same' _ _ _ (by rw [hu]; rfl)
  · refine World.cell?_setCell_same' _ _ _ ?_
    rw [World.cell?_setCell_other _ _ _ _ (by intro e; injection e with e; exact hpq e), hv]
    rfl
theorem add_plain (b o k : Nat) : (⟨b, o, none⟩ : Addr).add k = ⟨b, o + k, none⟩ := by unfold Addr.add; split <;> simp_all
theorem row_from_any {w : World} {A : Option Addr} {n : Nat} {f : Nat → Nat} (h : Row w A n f) (k : Nat) : ∀ A', (k < n → ∀ b o, A = some ⟨b, o, none⟩ → A' = some ⟨b, o + k, none⟩) → Row w A' (n - k) (fun i => f (k + i)) := fun _ hA => h.from hA

set_option maxRecDepth 100000 in
set_option maxHeartbeats 1000000 in
theorem numsZero_in (F : Fence) (m : Nat) (h7 : F.fn 7) (hT : F.fn 22) (hF : F.fn 28) (hG : F.fn 12) (hW : F.fn 29) (hA : F.fn 23) (hZ : F.fn 15) (hro : F.round = none) (hm : 3 ≤ m)
    (lift : ∀ (k g : Nat) (args : Array Value) (w : World) (R : Ending → World → Prop), Calls Try.prog g args w R → CallsIn F k Try.prog g args w R)
    (A : Option Addr) (n c : Nat) (f : Nat → Nat) (w : World) (hR : Row w A n f) (hcap : n ≤ c ∧ c ≤ 9223372036854775807) (hn : n ≤ 20000) :
    CallsIn F m Try.prog 7 #[.slice A n c] w fun e w' => e = .returned (.bool true) ∧ Below w.heap.size w w' := by
  have hm1 : 1 ≤ m := by omega
  have HR := Lib.hid hR
  have HL := Lib.hid lift
  clear hR lift
  have d1 : decide ((20000 : Int) < n) = false := by simp; omega
  have hnil := fn_ne_nil
  obtain ⟨A', hA'⟩ : ∃ A', (if c = n - n % 4 then A else Option.map (fun x => x.add (n - n % 4)) A) = A' := ⟨_, rfl⟩
  have hAA : n - n % 4 < n → ∀ b o, A = some ⟨b, o, none⟩ → A' = some ⟨b, o + (n - n % 4), none⟩ := by
    intro hlt b o e
    rw [← hA', if_neg (by omega), e]
    exact congrArg some (add_plain b o (n - n % 4))
  have HAA := Lib.hid hAA
  clear hAA
  refine callsIn_of_wp_marks Try.func7 rfl h7 ?_ hro
  simp only [Try.ntmps7, List.size_toArray, List.length_cons, List.length_nil, Nat.reduceAdd, Nat.reduceSub, Array.replicate_succ, Array.replicate_zero, List.push_toArray, List.append_toArray, List.nil_append, List.cons_append]
  gi_wp2_with (first
    | (gi_at_call 23; refine (HL.out _ _ _ _ _ (awake_any _)).mono ?_; rintro e w1 ⟨rfl, hB⟩; have HB1 := Lib.hid hB; have HR1 := Lib.hid (HR.out.below hB); clear hB)
    | (gi_at_call 22; refine (HL.out _ _ _ _ _ (tell_any _ _ _ _)).mono ?_; rintro e w2 ⟨rfl, rfl⟩; have HQ := Lib.hid (fun X => row_from_any (HR1.out.below ((Below.refl _ _).alloc (Nat.le_refl _) X)) (n - n % 4)))
    | (gi_at_call 15; refine (HL.out _ _ _ _ _ (Zero_any _ _ _ (fun i => f (n - n % 4 + i)) _ (by omega) (HQ.out _ _ HAA.out))).mono ?_; rintro e w3 ⟨rfl, rfl⟩))
  rw [show zb (n - (n - n % 4)) (fun i => f (n - n % 4 + i)) = accz n f [] from by simp [accz]]
  clear hA' hnil d1
  have bX := ((Boxed.new w1 22 (.slice A n c)).alloc (.cells #[.bool (accz n f [])] 4)).alloc (.cells #[.int .i64 0] 3)
  have bA := (Boxed.new (w1.alloc (.cells #[.slice A n c] 22)) 4 (.bool (accz n f []))).alloc (.cells #[.int .i64 0] 3)
  have bC := Boxed.new ((w1.alloc (.cells #[.slice A n c] 22)).alloc (.cells #[.bool (accz n f [])] 4)) 3 (.int .i64 0)
  rw [World.size_alloc] at bA
  rw [World.size_alloc, World.size_alloc] at bC
  have hB0 : Below w1.heap.size w1 (((w1.alloc (.cells #[.slice A n c] 22)).alloc (.cells #[.bool (accz n f [])] 4)).alloc (.cells #[.int .i64 0] 3)) := (((Below.refl _ w1).alloc (Nat.le_refl _) _).alloc (by simp) _).alloc (by simp; omega) _
  have hz0 : (((w1.alloc (.cells #[.slice A n c] 22)).alloc (.cells #[.bool (accz n f [])] 4)).alloc (.cells #[.int .i64 0] 3)).heap.size = w1.heap.size + 3 := by simp
  generalize ((w1.alloc (.cells #[.slice A n c] 22)).alloc (.cells #[.bool (accz n f [])] 4)).alloc (.cells #[.int .i64 0] 3) = W0 at bX bA bC hB0 hz0 ⊢
  refine wpIn_rangeFunc_ownG hro hm1 (gf := 28) (lb := #[.pointer (some ⟨w1.heap.size, 0, none⟩)]) rfl hF (enters_of Try.func28 (by kernel_rfl) rfl)
    (tell_stops F (m - 1) hF hG hW hro (by omega) HL.out w1.heap.size (w1.heap.size + 1) A n c f hn W0 (by omega) (fun W' h => (h.cell (p := ⟨w1.heap.size, 0, none⟩) (Nat.lt_succ_self _)).trans bX.cell) (fun W' h => HR1.out.below (hB0.trans (h.mono (by omega))))) belowK_t (belowK_b (by omega)) (Below.refl _ _) (fun _ => rfl)
    (fun pre W => ((W.cell? ⟨w1.heap.size + 1, 0, none⟩ = some (.bool (accz n f pre)) ∧ W.frozen? ⟨w1.heap.size + 1, 0, none⟩ = false) ∧ (W.cell? ⟨w1.heap.size + 1 + 1, 0, none⟩ = some (.int .i64 (pre.length : Int)) ∧ W.frozen? ⟨w1.heap.size + 1 + 1, 0, none⟩ = false)) ∧ Below w1.heap.size w1 W)
    (fun _ _ _ => False)
    (OwnFrom.and (_root_.Go.Own.from (fun s A B row hs hg hr => ⟨⟨cell_kept hs.1.1 hg hr, (frozen_kept hs.1.1 hg hr).trans hs.1.2⟩, ⟨cell_kept hs.2.1 hg hr, (frozen_kept hs.2.1 hg hr).trans hs.2.2⟩⟩) _) (ownFrom_below (Nat.le_refl _) (by omega)))
    (fun _ _ _ _ _ hs _ _ => hs)
    ⟨⟨⟨bA.cell, bA.frozen⟩, ⟨bC.cell, bC.frozen⟩⟩, hB0⟩
    (fun x => { tmps := #[.slice A n c, undef, .bool false, .func (.func 28) #[] #[.pointer (some ⟨w1.heap.size, 0, none⟩)], .pointer (some ⟨w1.heap.size + 1, 0, none⟩), .pointer (some ⟨w1.heap.size + 1 + 1, 0, none⟩), undef, .int .u32 ((g32 f (4 * x) : Nat) : Int), .bool true, .bool false, .slice A n c, .int .i64 n, .bool false, .slice A n c, .func (.func 28) #[] #[.pointer (some ⟨w1.heap.size, 0, none⟩)], .func (.func 28) #[] #[.pointer (some ⟨w1.heap.size, 0, none⟩)], .bool false, .slice A n c, .slice A n c, .int .i64 n, .slice A n c, .int .i64 n, .int .i64 ((n : Int) % 4), .int .i64 ((n : Int) - (n : Int) % 4), .slice A' (n - (n - n % 4)) (c - (n - n % 4)), .bool (accz n f []), .func (.func 28) #[] #[.pointer (some ⟨w1.heap.size, 0, none⟩)], .int .i64 (4 * (x : Int)), .int .u32 ((g32 f (4 * x) : Nat) : Int), undef, undef, undef, undef, undef, undef, undef, undef, undef, undef, undef, undef, undef, undef, undef, undef, undef, undef], defers := [] }) ?assign ?body ?done ?stop
  case assign =>
    intro l x W K hK
    gi_wp2
    exact hK
  case body =>
    rintro l pre x W ⟨⟨⟨ha, hfa⟩, ⟨hc, hfc⟩⟩, hB⟩ hlen
    have hl : (pre.length : Int) ≤ 20000 := by omega
    have HA := Lib.hid ha
    have HC := Lib.hid hc
    have HB := Lib.hid hB
    have HS := Lib.hid (accz_snoc n f pre x)
    clear hlen
    rcases Bool.eq_false_or_eq_true (accz n f pre) with hb | hb
    · rw [hb] at ha
      by_cases hz : g32 f (4 * x) = 0
      · have HZ : Hid (accz n f (pre ++ [x]) = true) := Lib.hid (by rw [HS.out, hb, hz]; rfl)
        rw [hz]
        clear hb hz
        gi_wp2
        obtain ⟨t1, t2⟩ := two_set (W := W) (p := w1.heap.size + 1) (q := w1.heap.size + 1 + 1) (by omega) (.bool true) (.int .i64 ((pre.length : Int) + 1)) HA.out HC.out
        exact ⟨((KeepsOthers.setCell _ _ _).trans (KeepsOthers.setCell _ _ _)).from _, ((Below.refl _ W).setCell (p := ⟨w1.heap.size + 1, 0, none⟩) (Nat.le_refl _) _).setCell (p := ⟨w1.heap.size + 1 + 1, 0, none⟩) (Nat.le_succ _) _,
          ⟨⟨⟨by rw [HZ.out]; exact t1, by rw [World.frozen?_setCell, World.frozen?_setCell]; exact hfa⟩, ⟨by rw [List.length_append]; exact t2, by rw [World.frozen?_setCell, World.frozen?_setCell]; exact hfc⟩⟩, (HB.out.setCell (p := ⟨w1.heap.size + 1, 0, none⟩) (Nat.le_succ _) _).setCell (p := ⟨w1.heap.size + 1 + 1, 0, none⟩) (by show w1.heap.size ≤ w1.heap.size + 1 + 1; omega) _⟩⟩
      · have HZ : Hid (accz n f (pre ++ [x]) = false) := Lib.hid (by rw [HS.out, hb]; simp [hz])
        have hp : (((g32 f (4 * x) : Nat) : Int) == 0) = false := by simp; omega
        clear hb hz
        gi_wp2
        obtain ⟨t1, t2⟩ := two_set (W := W) (p := w1.heap.size + 1) (q := w1.heap.size + 1 + 1) (by omega) (.bool false) (.int .i64 ((pre.length : Int) + 1)) HA.out HC.out
        exact ⟨((KeepsOthers.setCell _ _ _).trans (KeepsOthers.setCell _ _ _)).from _, ((Below.refl _ W).setCell (p := ⟨w1.heap.size + 1, 0, none⟩) (Nat.le_refl _) _).setCell (p := ⟨w1.heap.size + 1 + 1, 0, none⟩) (Nat.le_succ _) _,
          ⟨⟨⟨by rw [HZ.out]; exact t1, by rw [World.frozen?_setCell, World.frozen?_setCell]; exact hfa⟩, ⟨by rw [List.length_append]; exact t2, by rw [World.frozen?_setCell, World.frozen?_setCell]; exact hfc⟩⟩, (HB.out.setCell (p := ⟨w1.heap.size + 1, 0, none⟩) (Nat.le_succ _) _).setCell (p := ⟨w1.heap.size + 1 + 1, 0, none⟩) (by show w1.heap.size ≤ w1.heap.size + 1 + 1; omega) _⟩⟩
    · rw [hb] at ha
      have HZ : Hid (accz n f (pre ++ [x]) = false) := Lib.hid (by rw [HS.out, hb]; rfl)
      clear hb
      gi_wp2
      obtain ⟨t1, t2⟩ := two_set (W := W) (p := w1.heap.size + 1) (q := w1.heap.size + 1 + 1) (by omega) (.bool false) (.int .i64 ((pre.length : Int) + 1)) HA.out HC.out
      exact ⟨((KeepsOthers.setCell _ _ _).trans (KeepsOthers.setCell _ _ _)).from _, ((Below.refl _ W).setCell (p := ⟨w1.heap.size + 1, 0, none⟩) (Nat.le_refl _) _).setCell (p := ⟨w1.heap.size + 1 + 1, 0, none⟩) (Nat.le_succ _) _,
        ⟨⟨⟨by rw [HZ.out]; exact t1, by rw [World.frozen?_setCell, World.frozen?_setCell]; exact hfa⟩, ⟨by rw [List.length_append]; exact t2, by rw [World.frozen?_setCell, World.frozen?_setCell]; exact hfc⟩⟩, (HB.out.setCell (p := ⟨w1.heap.size + 1, 0, none⟩) (Nat.le_succ _) _).setCell (p := ⟨w1.heap.size + 1 + 1, 0, none⟩) (by show w1.heap.size ≤ w1.heap.size + 1 + 1; omega) _⟩⟩
  case done =>
    rintro D ys W hD rfl ⟨⟨⟨ha, hfa⟩, ⟨hc, hfc⟩⟩, hB⟩ hK
    rw [accz_all] at ha
    rw [List.length_range] at hc
    have HB := Lib.hid hB
    have HK := Lib.hid hK
    have HRW := Lib.hid (HR1.out.below hB)
    clear hK hB
    gi_wp2
    refine wpIn_region_quiet_lit hro (by kernel_rfl) (by kernel_rfl) ?_
    repeat (gi_big_quiet_step ((gi_at_call 15; exact (HL.out _ _ _ _ _ (Zero_any _ _ _ f _ (by omega) (by exact HRW.out))).mono (fun _ _ ⟨he, hw⟩ => ⟨he, _, hw.symm⟩))))
    refine wpQuietIn_nil ?_
    intro _ hw'
    obtain ⟨nq, hw''⟩ := hw'
    subst hw''
    gi_wp2
    refine ⟨by simp, .inl ⟨_, _, rfl, run_takeDeferred HK.out, ?_⟩⟩
    exact ⟨_, results_tmp rfl _ _ _, rfl, (HB1.out.trans ((HB.out.drewN nq).mono HB1.out.size)).trans (belowK_b (w := w) (Nat.le_refl _) (W.drewN nq) D _ _ (by have := HB1.out.size; omega) HK.out rfl rfl)⟩
  case stop =>
    rintro D c pre W _ _ h _
    exact h.elim

set_option maxHeartbeats 400000 in
theorem numsZero_any (A : Option Addr) (n c : Nat) (f : Nat → Nat) (w : World) (hR : Row w A n f) (hcap : n ≤ c ∧ c ≤ 9223372036854775807) :
    Calls Try.prog 7 #[.slice A n c] w fun e w' => e = .returned (.bool true) ∧ Below w.heap.size w w' := by
  by_cases hn : 20000 < n
  · have d1 : decide ((20000 : Int) < n) = true := by simp; omega
    clear hR
    go_enter Try.func7, Try.ntmps7
    go_wp2_with (go_at_call 23; refine (awake_any _).mono ?_; rintro e w1 ⟨rfl, hB⟩)
    go_ret
    exact ⟨rfl, hB⟩
  · exact callsIn_wide.1 (numsZero_in Fence.wide 3 trivial trivial trivial trivial trivial trivial trivial rfl (Nat.le_refl _) (fun _ _ _ _ _ h => callsIn_wide.2 h) A n c f w hR hcap (by omega))

end Go.Proofs.Ytogdjjanladghaa
