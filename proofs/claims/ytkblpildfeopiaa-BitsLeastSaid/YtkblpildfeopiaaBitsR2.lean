import Derived.Test.YtkblpildfeopiaaBitsR
import Derived.Test.YtkblpildfeopiaaFillR
namespace Go.Proofs.Ytkblpildfeopiaa
open Go.RowKit

theorem firstI_eq {X : Blk} {a b : Int} {k : Nat} (hk : k < 2048) (h1 : a ≤ k) (h2 : (k : Int) < b) (hc : bit X k = false) (hb : ∀ i : Nat, i < k → a ≤ i → (i : Int) < b → bit X i = true) : firstI X a b = k := by
  have hlo : lim a ≤ k := by unfold lim; omega
  have hhi : k < lim b := by unfold lim; omega
  have hge := firstN_ge X (lim b - lim a) (lim a)
  have hbef := firstN_before X (lim b - lim a) (lim a)
  unfold firstI
  generalize hr : firstN X (lim a) (lim b - lim a) = r at *
  by_cases e : r = -1
  · have := hbef k hlo (by omega) (.inl e)
    rw [hc] at this; cases this
  · obtain ⟨q1, q2, q3⟩ := hge.2 e
    rcases Int.lt_trichotomy r k with q | q | q
    · have h3 := hb r.toNat (by omega) (by unfold lim at q1; omega) (by omega)
      rw [q3] at h3; cases h3
    · exact q
    · have := hbef k hlo (by omega) (.inr q)
      rw [hc] at this; cases this
theorem firstI_none {X : Blk} {a b : Int} (hb : ∀ i : Nat, i < 2048 → a ≤ i → (i : Int) < b → bit X i = true) : firstI X a b = -1 := by
  have hge := firstN_ge X (lim b - lim a) (lim a)
  unfold firstI
  generalize hr : firstN X (lim a) (lim b - lim a) = r at *
  by_cases e : r = -1
  · exact e
  · obtain ⟨q1, q2, q3⟩ := hge.2 e
    have l1 := lim_le b
    have h3 := hb r.toNat (by omega) (by unfold lim at q1; omega) (by unfold lim at q1 q2; omega)
    rw [q3] at h3; cases h3
theorem rowcell {w : World} {g n k : Nat} {l : Nat → Bool} {t : TypeId} {fr : Nat × Nat} (h : w.heap[g]? = some (.cells (barr l n) t fr)) (hk : k < n) : w.cell? ⟨g, k, none⟩ = some (.bool (l k)) := by
  rw [cell_of_row w g k _ t fr h, barr_get hk]
/-- The world that Of leaves. -/
structure OfW (X : Blk) (w w' : World) (g : Nat) : Prop where
  row : w'.heap[g]? = some (.cells (barr (bit X) 2048) 4 (0, 0))
  below : Below w.heap.size w w'
  le : w.heap.size ≤ g
theorem rOf_w (X : Blk) (w : World) :
    Calls Try.prog 21 #[.agg (arr X)] w fun e w' => ∃ g, e = .returned (.slice (some ⟨g, 0, none⟩) 2048 2048) ∧ OfW X w w' g :=
  (rOf_any X w).mono fun e w' ⟨he, hw⟩ => ⟨w.heap.size + 1, he, by
    subst hw
    refine ⟨?_, ((Below.refl _ w).alloc (Nat.le_refl _) _).alloc (by simp) _, by omega⟩
    have e1 : (w.alloc (.cells (arr X) 23)).heap.size = w.heap.size + 1 := by simp
    rw [← e1, heap_alloc_new]⟩
set_option maxRecDepth 100000 in
theorem rHas_any (X : Blk) (i : Int) (w : World) :
    Calls Try.prog 12 #[.agg (arr X), .int .i64 i] w fun e w' => e = .returned (.bool (hasI X i)) ∧ Below w.heap.size w w' := by
  have B0 := Lib.hid ((Below.refl w.heap.size w).alloc (Nat.le_refl _) (.cells (arr X) 23))
  have hR := Lib.hid (At.row (heap_alloc_new w (.cells (arr X) 23)))
  by_cases h0 : i < 0
  · have E := Lib.hid (hasI_out (X := X) (.inl h0))
    have t0 : decide (0 ≤ i) = false := by simp; omega
    clear h0
    go_enter Try.func12, Try.ntmps12
    go_wp2_with fail
    go_ret
    exact ⟨by rw [E.out]; rfl, B0.out⟩
  · have t0 : decide (0 ≤ i) = true := by simp; omega
    by_cases h1 : i < 2048
    · have t1 : decide (i < 2048) = true := by simp; omega
      obtain ⟨k, rfl⟩ := Int.eq_ofNat_of_zero_le (show 0 ≤ i by omega)
      have t2 : decide (k < 2048) = true := by simp; omega
      have E := Lib.hid (hasI_nat (X := X) (i := k) (by omega))
      have hk : k < 2048 := by omega
      clear h0
      go_enter Try.func12, Try.ntmps12
      go_wp2_with (first
        | (refine load_blk_w (by rfl) (.tmp 2) rfl w.heap.size 0 rfl X hR.out ?_)
        | (refine load_blk rfl (.tmp 2) rfl w.heap.size 0 rfl X hR.out ?_))
      refine (rOf_w X _).mono ?_
      rintro e w1 ⟨g, rfl, hO⟩
      have HO := Lib.hid hO
      have c1 := rowcell hO.row hk
      clear hO
      go_wp2_with fail
      go_ret
      exact ⟨by rw [E.out]; rfl, B0.out.trans (HO.out.below.mono B0.out.size)⟩
    · have t1 : decide (i < 2048) = false := by simp; omega
      have E := Lib.hid (hasI_out (X := X) (.inr (by omega : 2048 ≤ i)))
      clear h0 h1
      go_enter Try.func12, Try.ntmps12
      go_wp2_with fail
      go_ret
      exact ⟨by rw [E.out]; rfl, B0.out⟩
set_option maxRecDepth 100000 in
theorem rFirst_any (X : Blk) (a b : Int) (w : World) :
    Calls Try.prog 14 #[.agg (arr X), .int .i64 a, .int .i64 b] w fun e w' => e = .returned (.int .i64 (firstI X a b)) ∧ Below w.heap.size w w' := by
  have B0 := Lib.hid ((Below.refl w.heap.size w).alloc (Nat.le_refl _) (.cells (arr X) 23))
  have hR := Lib.hid (At.row (heap_alloc_new w (.cells (arr X) 23)))
  go_enter Try.func14, Try.ntmps14
  go_wp2_with (refine load_blk rfl (.tmp 3) rfl w.heap.size 0 rfl X hR.out ?_)
  refine (rOf_w X _).mono ?_
  rintro e w1 ⟨g, rfl, hO⟩
  have HO := Lib.hid hO
  have B1 := Lib.hid (B0.out.trans (HO.out.below.mono B0.out.size))
  have RW := Lib.hid hO.row
  clear hO HO
  go_wp2_with fail
  go_loopw [8] (fun i wr => ∃ k : Nat, k ≤ 2048 ∧ i = .int .i64 k ∧ wr = w1 ∧ Hid (∀ j : Nat, j < k → a ≤ j → (j : Int) < b → bit X j = true)) (fun i _ => 2048 - (intOf i).toNat)
  case atStart => exact ⟨0, by omega, rfl, rfl, Lib.hid fun j h => absurd h (by omega)⟩
  case round =>
    obtain ⟨k, hk, rfl, rfl, HI⟩ := hrel
    have j1 : (0 : Int) ≤ k := by omega
    by_cases hlt : k < 2048
    · have c1 := rowcell RW.out hlt
      have j2 : (k : Int) < 2048 := by omega
      by_cases h1 : a ≤ k
      · have t1 : decide (a ≤ (k : Int)) = true := by simp; omega
        by_cases h2 : (k : Int) < b
        · have t2 : decide ((k : Int) < b) = true := by simp; omega
          cases hx : bit X k
          · rw [hx] at c1
            have E := Lib.hid (firstI_eq hlt h1 h2 hx HI.out)
            go_wp2_with fail
            go_ret
            exact ⟨by rw [E.out]; rfl, B1.out⟩
          · rw [hx] at c1
            have H2 : Hid (∀ j : Nat, j < k + 1 → a ≤ j → (j : Int) < b → bit X j = true) := Lib.hid fun j hj g1 g2 => by
              rcases Nat.lt_or_ge j k with q | q
              · exact HI.out j q g1 g2
              · obtain rfl : j = k := by omega
                exact hx
            clear hx
            go_wp2_with fail
            go_roundw
            case rel => exact ⟨k + 1, by omega, by go_num, by trivial, H2⟩
            case measure => simp [intOf]; omega
        · have t2 : decide ((k : Int) < b) = false := by simp; omega
          have H2 : Hid (∀ j : Nat, j < k + 1 → a ≤ j → (j : Int) < b → bit X j = true) := Lib.hid fun j hj g1 g2 => by
            rcases Nat.lt_or_ge j k with q | q
            · exact HI.out j q g1 g2
            · omega
          clear h2
          go_wp2_with fail
          go_roundw
          case rel => exact ⟨k + 1, by omega, by go_num, by trivial, H2⟩
          case measure => simp [intOf]; omega
      · have t1 : decide (a ≤ (k : Int)) = false := by simp; omega
        have H2 : Hid (∀ j : Nat, j < k + 1 → a ≤ j → (j : Int) < b → bit X j = true) := Lib.hid fun j hj g1 g2 => by
          rcases Nat.lt_or_ge j k with q | q
          · exact HI.out j q g1 g2
          · omega
        clear h1
        go_wp2_with fail
        go_roundw
        case rel => exact ⟨k + 1, by omega, by go_num, by trivial, H2⟩
        case measure => simp [intOf]; omega
    · obtain rfl : k = 2048 := by omega
      have E := Lib.hid (firstI_none HI.out)
      go_wp2_with fail
      go_ret
      exact ⟨by rw [E.out]; rfl, B1.out⟩
def cntTo (X : Blk) (n : Int) : Nat → Nat
  | 0 => 0
  | k + 1 => cntTo X n k + if (k : Int) < n ∧ bit X k = true then 1 else 0
theorem cntTo_le (X : Blk) (n : Int) : ∀ k, cntTo X n k ≤ k
  | 0 => Nat.le_refl _
  | k + 1 => by have := cntTo_le X n k; rw [cntTo]; split <;> omega
theorem cntTo_low (X : Blk) (n : Int) : ∀ k : Nat, k ≤ lim n → cntTo X n k = countN X k
  | 0, _ => rfl
  | k + 1, h => by
    rw [cntTo, countN, cntTo_low X n k (by omega)]
    have : (k : Int) < n := by unfold lim at h; omega
    simp [this]
theorem cntTo_all (X : Blk) (n : Int) : ∀ k : Nat, lim n ≤ k → k ≤ 2048 → cntTo X n k = countI X n
  | 0, h, _ => by unfold countI; rw [show lim n = 0 by omega]; rfl
  | k + 1, h, hk => by
    rcases Nat.eq_or_lt_of_le h with e | e
    · rw [← e]; exact cntTo_low X n _ (by omega)
    · rw [cntTo, cntTo_all X n k (by omega) (by omega)]
      have : ¬ (k : Int) < n := by unfold lim at e; omega
      simp [this]
set_option maxRecDepth 100000 in
theorem rCount_any (X : Blk) (n : Int) (w : World) :
    Calls Try.prog 16 #[.agg (arr X), .int .i64 n] w fun e w' => e = .returned (.int .i64 (countI X n : Nat)) ∧ Below w.heap.size w w' := by
  have B0 := Lib.hid ((Below.refl w.heap.size w).alloc (Nat.le_refl _) (.cells (arr X) 23))
  have hR := Lib.hid (At.row (heap_alloc_new w (.cells (arr X) 23)))
  go_enter Try.func16, Try.ntmps16
  go_wp2_with (refine load_blk rfl (.tmp 2) rfl w.heap.size 0 rfl X hR.out ?_)
  refine (rOf_w X _).mono ?_
  rintro e w1 ⟨g, rfl, hO⟩
  have HO := Lib.hid hO
  have B1 := Lib.hid (B0.out.trans (HO.out.below.mono B0.out.size))
  have RW := Lib.hid hO.row
  clear hO HO
  go_wp2_with fail
  go_loopw [6, 7] (fun c i wr => ∃ k : Nat, k ≤ 2048 ∧ i = .int .i64 k ∧ c = .int .i64 ((cntTo X n k : Nat) : Int) ∧ wr = w1) (fun _ i _ => 2048 - (intOf i).toNat)
  case atStart => exact ⟨0, by omega, rfl, rfl, rfl⟩
  case round =>
    obtain ⟨k, hk, rfl, rfl, rfl⟩ := hrel
    have j1 : (0 : Int) ≤ k := by omega
    have hc := cntTo_le X n k
    by_cases hlt : k < 2048
    · have c1 := rowcell RW.out hlt
      have j2 : (k : Int) < 2048 := by omega
      have CS : Hid (cntTo X n (k + 1) = cntTo X n k + if (k : Int) < n ∧ bit X k = true then 1 else 0) := Lib.hid rfl
      generalize cntTo X n k = s at hc CS ⊢
      by_cases h2 : (k : Int) < n
      · have t2 : decide ((k : Int) < n) = true := by simp; omega
        cases hx : bit X k
        · rw [hx] at c1
          have E : Hid (cntTo X n (k + 1) = s) := Lib.hid (by rw [CS.out, hx]; simp)
          clear hx
          go_wp2_with fail
          go_roundw
          case rel => exact ⟨k + 1, by omega, by go_num, by rw [E.out], by trivial⟩
          case measure => simp [intOf]; omega
        · rw [hx] at c1
          have E : Hid (cntTo X n (k + 1) = s + 1) := Lib.hid (by rw [CS.out, hx]; simp [h2])
          clear hx
          go_wp2_with fail
          go_roundw
          case rel => exact ⟨k + 1, by omega, by go_num, by rw [E.out]; congr 1, by trivial⟩
          case measure => simp [intOf]; omega
      · have t2 : decide ((k : Int) < n) = false := by simp; omega
        have E : Hid (cntTo X n (k + 1) = s) := Lib.hid (by rw [CS.out]; simp [h2])
        clear h2
        go_wp2_with fail
        go_roundw
        case rel => exact ⟨k + 1, by omega, by go_num, by rw [E.out], by trivial⟩
        case measure => simp [intOf]; omega
    · obtain rfl : k = 2048 := by omega
      have E := Lib.hid (cntTo_all X n 2048 (lim_le n) (by omega))
      go_wp2_with fail
      go_ret
      exact ⟨by rw [← E.out]; rfl, B1.out⟩
def bTo (l : Nat → Bool) (k : Nat) : Blk := .of (fun j => if j < k then byteTo l j 8 else 0) fun j _ => by split; exact byteTo_lt l j 8; omega
theorem bTo_zero (l : Nat → Bool) : bTo l 0 = .zero := Blk.same fun i hi => by unfold bTo; rw [Blk.of_f hi, if_neg (by omega)]; rfl
theorem bTo_succ (l : Nat → Bool) (k : Nat) : (bTo l k).set k (byteTo l k 8) (byteTo_lt l k 8) = bTo l (k + 1) := Blk.same fun i hi => by
  unfold bTo Blk.set
  rw [Blk.of_f hi, Blk.of_f hi, Blk.of_f hi]
  by_cases e : i = k
  · subst e; rw [if_pos rfl, if_pos (by omega)]
  · rw [if_neg e]
    by_cases q : i < k
    · rw [if_pos q, if_pos (by omega)]
    · rw [if_neg q, if_neg (by omega)]
theorem bTo_end (l : Nat → Bool) : bTo l 256 = mk l := Blk.same fun i hi => by unfold bTo mk; rw [Blk.of_f hi, Blk.of_f hi, if_pos hi]
set_option maxRecDepth 100000 in
set_option maxHeartbeats 1000000 in
theorem rBlock_any (l : Nat → Bool) (g : Nat) (w : World) (t : TypeId) (hg : w.heap[g]? = some (.cells (barr l 2048) t (0, 0))) :
    Calls Try.prog 25 #[.slice (some ⟨g, 0, none⟩) 2048 2048] w fun e w' => e = .returned (.agg (arr (mk l))) ∧ Below w.heap.size w w' := by
  have hz := fun W => zero_blk W
  have RW := Lib.hid hg
  have LG : Hid (g < w.heap.size) := Lib.hid (by
    rcases Nat.lt_or_ge g w.heap.size with q | q
    · exact q
    · rw [Array.getElem?_eq_none q] at hg; cases hg)
  clear hg
  go_enter Try.func25, Try.ntmps25
  go_wp2
  go_loopw [4] (fun i wr => ∃ k : Nat, k ≤ 256 ∧ i = .int .i64 k ∧ wr = (w.alloc (.cells (arr .zero) 23)).alloc (.cells (arr (bTo l k)) 23)) (fun i _ => 256 - (intOf i).toNat)
  case atStart => exact ⟨0, by omega, rfl, by rw [bTo_zero]⟩
  case round =>
    obtain ⟨k, hk, rfl, rfl⟩ := hrel
    have j1 : (0 : Int) ≤ k := by omega
    by_cases hlt : k < 256
    · have j2 : (k : Int) < 256 := by omega
      have RW2 : Hid (((w.alloc (.cells (arr .zero) 23)).alloc (.cells (arr (bTo l k)) 23)).heap[g]? = some (.cells (barr l 2048) t (0, 0))) := Lib.hid (by
        have := LG.out
        rw [heap_alloc_old _ _ (by simp; omega), heap_alloc_old _ _ (by omega)]; exact RW.out)
      have hga := arr_get (x := bTo l k) hlt
      have hset : (arr (bTo l k)).setIfInBounds k (.int .u8 ((byteTo l k 8 : Nat) : Int)) = arr (bTo l (k + 1)) := by rw [arr_set k _ (byteTo_lt l k 8), bTo_succ]
      have SE := Lib.hid hset
      clear hset
      go_wp2
      go_loopw [5, 6] (fun x i wr => ∃ q : Nat, q ≤ 8 ∧ i = .int .i64 (7 - (q : Int)) ∧ x = .int .i64 ((byteTo l k q : Nat) : Int) ∧ wr = (w.alloc (.cells (arr .zero) 23)).alloc (.cells (arr (bTo l k)) 23)) (fun _ i _ => (intOf i + 1).toNat)
      case atStart => exact ⟨0, by omega, rfl, rfl, rfl⟩
      case round =>
        obtain ⟨q, hq, rfl, rfl, rfl⟩ := hrel
        by_cases hql : q < 8
        · have c1 := rowcell RW2.out (k := 8 * k + (7 - q)) (by omega)
          have e1 : (8 * (k : Int) + (7 - (q : Int))).toNat = 8 * k + (7 - q) := by omega
          have j3 : (0 : Int) ≤ 7 - (q : Int) := by omega
          have j5 : (0 : Int) ≤ 8 * (k : Int) + (7 - (q : Int)) := by omega
          have j6 : 8 * (k : Int) + (7 - (q : Int)) < 2048 := by omega
          have hb := byteTo_lt l k q
          have hb2 : byteTo l k q < 256 := by
            have : 2 ^ q ≤ 2 ^ 8 := Nat.pow_le_pow_right (by omega) (by omega)
            omega
          have CS : Hid (byteTo l k (q + 1) = 2 * byteTo l k q + if l (8 * k + (7 - q)) then 1 else 0) := Lib.hid rfl
          clear hb
          generalize byteTo l k q = y at hb2 CS ⊢
          cases hx : l (8 * k + (7 - q))
          · rw [hx] at c1 CS
            have E : Hid (byteTo l k (q + 1) = 2 * y) := Lib.hid (by rw [CS.out]; simp)
            clear hx CS
            go_wp2_with fail
            go_roundw
            case rel => exact ⟨q + 1, by omega, by congr 1; omega, by rw [E.out]; congr 1, by trivial⟩
            case measure => simp [intOf]; omega
          · rw [hx] at c1 CS
            have E : Hid (byteTo l k (q + 1) = 2 * y + 1) := Lib.hid (by rw [CS.out]; simp)
            clear hx CS
            go_wp2_with fail
            go_roundw
            case rel => exact ⟨q + 1, by omega, by congr 1; omega, by rw [E.out]; congr 1, by trivial⟩
            case measure => simp [intOf]; omega
        · obtain rfl : q = 8 := by omega
          have hb2 := byteTo_lt l k 8
          have j7 : ¬ (0 : Int) ≤ 7 - ((8 : Nat) : Int) := by omega
          have hset := SE.out
          generalize byteTo l k 8 = y at hb2 hset ⊢
          go_wp2_with fail
          go_roundw
          case rel => exact ⟨k + 1, by omega, by go_num, by trivial⟩
          case measure => simp [intOf]; omega
    · obtain rfl : k = 256 := by omega
      rw [bTo_end]
      go_wp2_with (first
        | (refine load_blk rfl (.tmp 3) rfl (w.heap.size + 1) 0 rfl (mk l) ?c1 ?_)
        | (refine store_row rfl (.tmp 2) (.tmp 30) rfl w.heap.size (mk l) .zero 23 rfl rfl ?c2 ?_))
      case c1 => exact At.row (heap_alloc2_new w _ _)
      case c2 => exact heap_alloc2_old w _ _
      exact bodyPost_ret (v := .agg (arr (mk l))) (results_blk Try.results25 _ _ w.heap.size (mk l) _ rfl (setRow_heap _ _ _ _ _ _ (heap_alloc2_old w _ _))) rfl ⟨rfl, below_setRow (((Below.refl _ _).alloc (Nat.le_refl _) _).alloc (by simp) _) (Nat.le_refl _) _⟩
end Go.Proofs.Ytkblpildfeopiaa
