import Derived.Test.YtnneppkkmhjpbaaPaP5
import Derived.Test.YtnneppkkmhjpbaaRoundVals
import Derived.Test.YtnneppkkmhjpbaaPaW
import Derived.WalkMore
import Derived.ScopeJumps
namespace Go.Proofs.Ytnneppkkmhjpbaa
open Go.RowKit Go.Shelf Go.BigFrame
attribute [local go_sem] Oper.semAt_some

/-! Of. -/
theorem results_of {W : World} {b1 b2 b3 : Nat} {i p e : Int} {v : Value} {tmps : Array Value} (h : OC W b1 b2 b3 i p v) (ht2 : tmps[2]?.getD undef = .pointer (some ⟨b2, 0, none⟩) := by rfl) (ht3 : tmps[3]?.getD undef = .pointer (some ⟨b3, 0, none⟩) := by rfl) (ht4 : tmps[4]?.getD undef = .int .i64 e := by rfl) :
    (results Try.f14 tmps).run Try.prog W = .ok (.tuple #[.int .i64 p, v, .int .i64 e]) W := by
  have e2 := h.c2.cell
  have e3 := h.c3.cell
  simp [results, Try.f14, ht2, ht3, ht4, go_sem, e2, e3]
set_option maxRecDepth 100000 in
set_option maxHeartbeats 1000000 in
theorem of_no {i : Int} (h : ¬ MayI i) (w : World) : Calls Try.prog 14 #[.int .i64 i] w fun e w' => OfR i w.heap.size e w' ∧ Below w.heap.size w w' := by
  have C : Hid (∀ W, Calls Try.prog 29 #[.int .i64 i] W fun e w' => e = .returned (.bool false) ∧ w' = W) := Lib.hid fun W => by
    have := pIsIndex i W
    rwa [decide_eq_false h] at this
  have E := Lib.hid (ofN_no h)
  clear h
  obtain ⟨l0, l1, l2, lb, ls⟩ := lay3 w (.cells #[.int .i64 i] 3) (.cells #[.int .i64 0] 3) (.cells #[.slice none 0 0] 22)
  go_enter Try.func14, Try.ntmps14
  go_wp2
  go_step3
  go_wp2_with (go_at_call 29; with_reducible refine (C.out _).mono ?_; rintro e w2 ⟨rfl, rfl⟩)
  rw [Exit.noGoto_ret]
  have hoc : OC (((w.alloc (.cells #[.int .i64 i] 3)).alloc (.cells #[.int .i64 0] 3)).alloc (.cells #[.slice none 0 0] 22)) w.heap.size (w.heap.size + 1) (w.heap.size + 2) i 0 (.slice none 0 0) := ⟨l0, l1, l2⟩
  refine bodyPost_ret (results_of hoc) rfl ?_
  refine ⟨⟨_, by rw [E.out], ?_⟩, lb⟩
  rw [E.out]
  exact ⟨rfl, .inl ⟨rfl, rfl⟩⟩
theorem own_putD {W : World} {base n size r : Nat} {e : TypeId} {v : Value} {xs : List Value} {d : Option (List Deferred)} (o : Obj) (h : W.ownsRow base e size v n xs) (hr : W.heap[r]? = some (.deferred d)) : (W.putObj r o).ownsRow base e size v n xs := by
  refine ⟨h.1, ?_⟩
  rcases h.2 with h2 | ⟨g, cap, cur, h1, h2, h3, h4⟩
  · exact .inl h2
  · refine .inr ⟨g, cap, cur, h1, h2, (World.putObj_heap_other ?_).trans h3, h4⟩
    rintro rfl
    rw [hr] at h3
    cases h3
def ofD (i : Nat) : Tmp := i + 35
def ofV (v : Value) (r q : Int) (base : Nat) (i : Nat) (x : Value) (w : World) : Prop :=
  match i with
  | 0 => x = v
  | 1 => x = .int .i64 r
  | 2 => x = .int .i64 q
  | 3 => x = .int .i64 (r / q)
  | _ => ∃ g, x = .slice (some ⟨g, 0, none⟩) 1 1 ∧ base ≤ g ∧ w.heap[g]? = some (.cells (iC [r / q]).toArray 3)
theorem ofV_below (v : Value) (r q : Int) (base : Nat) (i : Nat) (x : Value) (w w' : World) (h : ofV v r q base i x w) (hb : Below w.heap.size w w') : ofV v r q base i x w' := by
  unfold ofV at h ⊢
  split at h <;> first | exact h | (obtain ⟨g, e, h1, h2⟩ := h; exact ⟨g, e, h1, (hb.block g (Array.getElem?_eq_some_iff.1 h2).1).trans h2⟩)
set_option maxRecDepth 100000 in
set_option maxHeartbeats 2000000 in
theorem of_in (F : Fence) (m : Nat) (hW : F = Fence.wide) (hF : ∀ f, F.fn f) (hro : F.round = none) (hm : 6 ≤ m) (i : Int) (hi : MayI i) (w : World) :
    CallsIn F m Try.prog 14 #[.int .i64 i] w fun e w' => OfR i w.heap.size e w' ∧ Below w.heap.size w w' := by
  have hm1 : 1 ≤ m := by omega
  have lift : Hid (∀ n f args W R, Calls Try.prog f args W R → CallsIn F n Try.prog f args W R) := Lib.hid fun _ _ _ _ _ h => by subst hW; exact callsIn_wide.2 h
  have IT : Hid (∀ W b0 m, IterSaysL F m Try.prog 30 #[] 11 (fun k => #[.agg (pcs (ptrN k))]) b0 W) := Lib.hid fun W b0 m => by subst hW; exact ptr_iterL W b0 m
  have HF := Lib.hid hF
  have HWD := Lib.hid hW
  clear hW
  have C : Hid (∀ W, Calls Try.prog 29 #[.int .i64 i] W fun e w' => e = .returned (.bool true) ∧ w' = W) := Lib.hid fun W => by
    have := pIsIndex i W
    rwa [decide_eq_true hi] at this
  have HI := Lib.hid hi
  have hi1 := hi.lo
  have hi2 := hi.hi
  clear hi
  obtain ⟨l0, l1, l2, lb, ls⟩ := lay3 w (.cells #[.int .i64 i] 3) (.cells #[.int .i64 0] 3) (.cells #[.slice none 0 0] 22)
  refine callsIn_of_wp_marks Try.func14 rfl (hF _) ?_ hro
  simp only [Try.ntmps14, List.size_toArray, List.length_cons, List.length_nil, Nat.reduceAdd, Nat.reduceSub, Array.replicate_succ, Array.replicate_zero, List.push_toArray, List.append_toArray, List.nil_append, List.cons_append]
  gi_wp2
  rw [HWD.out]
  refine wpIn_wide.2 ?_
  go_step3
  go_wp2_with (go_at_call 29; with_reducible refine (C.out _).mono ?_; rintro e w2 ⟨rfl, rfl⟩)
  go_step3
  go_wp2
  refine (wpIn_wide (n := m)).1 ?_
  rw [← HWD.out]
  generalize ((w.alloc (.cells #[.int .i64 i] 3)).alloc (.cells #[.int .i64 0] 3)).alloc (.cells #[.slice none 0 0] 22) = w2 at l0 l1 l2 lb ls ⊢
  obtain ⟨b1, hb1⟩ : ∃ bn, w.heap.size = bn := ⟨_, rfl⟩
  obtain ⟨b2, hb2⟩ : ∃ bn, b1 + 1 = bn := ⟨_, rfl⟩
  obtain ⟨b3, hb3⟩ : ∃ bn, b2 + 1 = bn := ⟨_, rfl⟩
  have C2 : Hid (OC w2 b1 b2 b3 i 0 (.slice none 0 0)) := Lib.hid ⟨by subst hb1; exact l0, by subst hb1 hb2; exact l1, by subst hb1 hb2 hb3; exact l2⟩
  have B2 : Hid (Below b1 w w2) := Lib.hid (by rw [← hb1]; exact lb)
  have HB1 := Lib.hid hb1
  have Z : Hid (b1 < b2 ∧ b2 < b3 ∧ b3 < w2.heap.size) := Lib.hid ⟨by omega, by omega, by rw [ls]; omega⟩
  rw [hb1, hb2, hb3]
  clear l0 l1 l2 lb ls hb1 hb2 hb3 C
  refine wpIn_range_iterL hro hm1 (gf := 30) (lb := #[]) rfl (HF.out _) (enters_of Try.func30 (by kernel_rfl) rfl)
    (IT.out w2 b1 _) (by have := Z.out; omega) (Below.refl _ _) (fun _ => rfl)
    (fun k W => OC W b1 b2 b3 i 0 (.slice none 0 0) ∧ Below b1 w W ∧ begN k ≤ i)
    (fun c k W => c = .exit 0 ∧ ∃ v, OC W b1 b2 b3 i (wayN i).1 v ∧ W.ownsRow (w2.heap.size + 2) 3 1 v (wayN i).2.length (iC (wayN i).2) ∧ Below b1 w W)
    (fun k A B h hb => ⟨h.1.below hb (by have := Z.out; omega) (by have := Z.out; omega) (by have := Z.out; omega), h.2.1.trans (hb.mono (by have := Z.out; omega)), h.2.2⟩)
    (fun c k W o h => ⟨h.1, by
      obtain ⟨v, h1, h2, h3⟩ := h.2
      exact ⟨v, h1.put o (by have := Z.out; omega) (by have := Z.out; omega) (by have := Z.out; omega), own_put o h2 (by omega), h3.trans (below_putObj W (by have := Z.out; omega) o)⟩⟩)
    ⟨C2.out, B2.out, hi1⟩
    (fun k a W => ∃ bx, w2.heap.size + 2 ≤ bx ∧ W.heap[bx]? = some (.cells (pcs (ptrN k)) 42 (0, 0)) ∧ a = { tmps := #[.int .i64 i, .pointer (some ⟨b1, 0, none⟩), .pointer (some ⟨b2, 0, none⟩), .pointer (some ⟨b3, 0, none⟩), .int .i64 0, .pointer (some ⟨bx, 0, none⟩), undef, undef, undef, .int .i64 i, .bool true, .bool false, .agg (pcs (ptrN k)), undef, undef, undef, undef, undef, undef, undef, undef, undef, undef, undef, undef, undef, undef, undef, undef, undef, undef, undef, undef, undef, undef, undef, undef, undef, undef, undef, undef, undef, undef, undef, undef, undef], defers := [] } ∧ OC W b1 b2 b3 i 0 (.slice none 0 0) ∧ Below b1 w W ∧ begN k ≤ i)
    (fun k a W o ⟨bx, h1, h2, h3, h4, h5, h6⟩ => ⟨bx, h1, (World.putObj_heap_other (by omega)).trans h2, h3, h4.put o (by have := Z.out; omega) (by have := Z.out; omega) (by have := Z.out; omega), h5.trans (below_putObj W (by have := Z.out; omega) o), h6⟩) ?assign ?body ?done ?stop
  case assign =>
    rintro l k W K hk hsz ⟨hn, hB, hno⟩ hK
    have hb := below_newI W (.cells (pcs (ptrN k)) 42)
    have HK := Lib.hid (hK _ _ ⟨W.heap.size, hsz, heap_alloc_new W _, rfl, hn.below hb hn.c1.lt hn.c2.lt hn.c3.lt, hB.trans (hb.mono (by have := Z.out; omega)), hno⟩ hb)
    clear hK hn hB hno hb
    generalize ptrN k = p at HK ⊢
    obtain ⟨nm, lv, fs, sp⟩ := p
    unfold pcs at HK ⊢
    gi_wp2
    exact HK.out
  case body =>
    rintro l k a W hk ⟨bx, hbx, hp, rfl, hn, hB, hno⟩
    have hm2 : 1 ≤ m - 1 - 1 := by omega
    have HN := Lib.hid hn
    have HB := Lib.hid hB
    have HX := Lib.hid hbx
    have HSZ : Hid (w2.heap.size + 2 ≤ W.heap.size) := Lib.hid (by have := (Array.getElem?_eq_some_iff.1 hp).1; omega)
    have HNO := Lib.hid hno
    have HK := Lib.hid hk
    have hne := beg_next hk
    have hfit := ptr_fits hk
    have x0 : W.cell? ⟨bx, 0, none⟩ = some (.int .i64 (ptrN k).num) := (cell_of_row W bx 0 _ _ _ hp).trans rfl
    have x1 : W.cell? ⟨bx, 1, none⟩ = some (.int .i64 (ptrN k).lev) := (cell_of_row W bx 1 _ _ _ hp).trans rfl
    have x2 : W.cell? ⟨bx, 2, none⟩ = some (.int .i64 (ptrN k).fst) := (cell_of_row W bx 2 _ _ _ hp).trans rfl
    have x3 : W.cell? ⟨bx, 3, none⟩ = some (.int .i64 (ptrN k).spn) := (cell_of_row W bx 3 _ _ _ hp).trans rfl
    have hbg : (ptrN k).fst = begN k := rfl
    have d1 := hn.c1.cell
    have d2 := hn.c2.cell
    have f2 := hn.c2.frozen
    have ny2 : bx ≠ b2 := by have := Z.out; omega
    have ny1 : b1 ≠ b2 := by have := Z.out; omega
    clear hn hB hbx
    by_cases hge : begN (k + 1) ≤ i
    · have t1 : decide ((ptrN k).fst + (ptrN k).spn ≤ i) = true := decide_eq_true (by rw [hbg, hne]; exact hge)
      have HG := Lib.hid hge
      clear hge hne hbg hno hk hp
      generalize ptrN k = p at *
      obtain ⟨nm, lv, fs, sp⟩ := p
      simp only at x0 x1 x2 x3 t1 hfit
      obtain ⟨-, g1, g2, g3, g4, g5, g6⟩ := hfit
      unfold pcs
      gi_wp2
      exact ⟨Kept.refl _ _ _, HN.out, HB.out, HG.out⟩
    · have t1 : decide ((ptrN k).fst + (ptrN k).spn ≤ i) = false := decide_eq_false (by rw [hbg, hne]; exact hge)
      have WO := Lib.hid (way_of HI.out hk hno (by omega))
      have hnm := hfit.1
      rw [hnm] at x0
      have hle : begN k ≤ i := hno
      clear hge hne hno hk hp HNO
      generalize ptrN k = p at *
      obtain ⟨nm, lv, fs, sp⟩ := p
      simp only at x0 x1 x2 x3 t1 hfit hbg hnm WO
      obtain ⟨-, g1, g2, g3, g4, g5, g6⟩ := hfit
      subst hnm
      rw [← hbg] at WO hle
      clear hbg
      obtain ⟨L, rfl⟩ : ∃ L : Nat, lv = L := ⟨lv.toNat, by omega⟩
      rw [Int.toNat_natCast] at WO
      unfold pcs
      gi_wp2
      have hr0 : 0 ≤ i - fs := by omega
      have hr1 : i - fs ≤ 262144 := by omega
      have hL3 : L ≤ 3 := by omega
      have hRF := Lib.hid fun j (hj : j ≤ L) => rest_fits hr0 hr1 hL3 j hj
      have R0 : Hid (∃ v, RI W (W.setCell ⟨b2, 0, none⟩ (.int .i64 k)) b1 w2.heap.size b1 b2 b3 w i k [] v) := Lib.hid ⟨_, HN.out.set2 _ (by have := Z.out; omega) (by have := Z.out; omega), ⟨rfl, .inl ⟨rfl, rfl⟩⟩, Kept.setCell W (by have := Z.out; show b2 ≠ b1; omega) (by have := Z.out; show b2 < w2.heap.size; omega) _, HB.out.setCell (p := ⟨b2, 0, none⟩) (by have := Z.out; show b1 ≤ b2; omega) _⟩
      clear x0 x1 x2 x3 d1 d2 f2 ny1 ny2 t1 hr0 hr1 HN HB
      generalize W.setCell ⟨b2, 0, none⟩ (.int .i64 k) = wa at R0 ⊢
      generalize i - fs = r0 at hRF WO ⊢
      gi_loopw [6, 7] (fun rv lv wr => ∃ j : Nat, j ≤ L ∧ rv = .int .i64 (restN r0 L j) ∧ lv = .int .i64 ((L : Int) - j) ∧ Hid (∃ v, RI W wr b1 w2.heap.size b1 b2 b3 w i k (digs r0 L j) v)) (fun _ lv _ => (intOf lv).toNat)
      case atStart => exact ⟨0, by omega, rfl, by simp, R0⟩
      case round =>
        clear R0
        obtain ⟨j, hj, rfl, rfl, RI⟩ := hrel
        by_cases hlt : j < L
        rotate_left
        · obtain rfl : j = L := by omega
          rw [Int.sub_self]
          gi_wp2
          obtain ⟨v, hr⟩ := RI.out
          refine ⟨hr.kp, rfl, v, ?_, ?_, hr.bl⟩
          · rw [WO.out]; exact hr.oc
          · rw [WO.out]; exact own_monoI hr.own HSZ.out
        · have t2 : ((L : Int) - j == 0) = false := by simp; omega
          obtain ⟨n, hn⟩ : ∃ n : Nat, L - j - 1 = n := ⟨_, rfl⟩
          have CS : Hid (∀ W', Calls Try.prog 18 #[.int .i64 ((L : Int) - j - 1)] W' fun e w' => e = .returned (.int .i64 (spanN n)) ∧ w' = W') := Lib.hid fun W' => by
            have := pSpan ((L : Int) - j - 1) W'
            rwa [show (L : Int) - j - 1 = (n : Int) by omega] at this ⊢
          have HQ := span_pos (n := n) (by omega)
          have HR := hRF.out j hj
          have HDG : Hid (digs r0 L (j + 1) = digs r0 L j ++ [restN r0 L j / spanN n] ∧ restN r0 L (j + 1) = restN r0 L j % spanN n) := Lib.hid (by subst hn; exact ⟨rfl, rfl⟩)
          have HDL : Hid ((digs r0 L j).length = j) := Lib.hid (digs_len r0 L j)
          obtain ⟨v, hr⟩ := RI.out
          have RI0 := Lib.hid hr
          clear RI hr hRF hn
          generalize digs r0 L j = ds at HDG HDL RI0
          generalize restN r0 L j = r at HDG HR ⊢
          generalize spanN (n : Int) = q at HDG HQ CS
          gi_wp2_with (gi_at_call 18; with_reducible refine (CallsIn.inRound l (lift.out _ _ _ _ _ (CS.out _))).mono ?_; rintro e w4 ⟨rfl, rfl⟩)
          obtain ⟨it, hit, hzz⟩ := Option.map_eq_some_iff.1 int_info3
          simp only [Prod.mk.injEq] at hzz
          obtain ⟨hz0, hz1, hz2⟩ := hzz
          have TZ := Lib.hid (And.intro hit (And.intro hz0 (And.intro hz1 hz2)))
          clear hz0 hz1 hz2 hit
          have hWd := HWD.out
          subst hWd
          refine round_vals (n := 5) ofD (ofV v r q W.heap.size) (by kernel_rfl) (by kernel_rfl) ?_ (by kernel_rfl) (by kernel_rfl) (by kernel_rfl) (by kernel_rfl) (ofV_below v r q W.heap.size) ?_ ?_
          · rintro ⟨_, _, h⟩
            exact h
          · intro z o a w5 hz ho hk hb hdep
            have hb5 : Below w4.heap.size w4 w5 := ⟨hb.os, hb.tape, hb.output, hb.size, hb.block⟩
            have p3 : a.eval (.tmp 3) = .pointer (some ⟨b3, 0, none⟩) := (hk.eval (by decide)).trans rfl
            have p6 : a.eval (.tmp 6) = .int .i64 r := (hk.eval (by decide)).trans rfl
            have p8 : a.eval (.tmp 8) = .int .i64 q := (hk.eval (by decide)).trans rfl
            match z, ho with
            | 0, ho =>
              cases ho
              have c3 : w5.cell? ⟨b3, 0, none⟩ = some v := (hb5.cell (p := ⟨b3, 0, none⟩) RI0.out.oc.c3.lt).trans RI0.out.oc.c3.cell
              refine wp_value (v := v) (w' := w5) ?_ ⟨_, rfl, rfl, Below.refl _ _⟩
              clear hdep hk
              generalize a.eval = ev at p3 ⊢
              go_simp
            | 1, ho =>
              cases ho
              refine wp_value (v := .int .i64 r) (w' := w5) ?_ ⟨_, rfl, rfl, Below.refl _ _⟩
              clear hdep hk
              generalize a.eval = ev at p6 ⊢
              go_simp
            | 2, ho =>
              cases ho
              refine wp_value (v := .int .i64 q) (w' := w5) ?_ ⟨_, rfl, rfl, Below.refl _ _⟩
              clear hdep hk
              generalize a.eval = ev at p8 ⊢
              go_simp
            | 3, ho =>
              cases ho
              have e1 : a.eval (.tmp 36) = .int .i64 r := hdep ⟨1, .data⟩ (by simp) rfl
              have e2 : a.eval (.tmp 37) = .int .i64 q := hdep ⟨2, .data⟩ (by simp) rfl
              refine wp_value (v := .int .i64 (r / q)) (w' := w5) ?_ ⟨_, rfl, rfl, Below.refl _ _⟩
              have hq1 := HQ.1
              have hr0 := HR.1
              have hr1 := HR.2
              have hd0 : 0 ≤ r / q := Int.ediv_nonneg hr0 (by omega)
              have hd1 : r / q ≤ r := Int.ediv_le_self _ hr0
              clear hdep hk
              generalize a.eval = ev at e1 e2 ⊢
              go_simp
              have hwr : IntKind.i64.wrap (r / q) = r / q := by rw [IntKind.wrap_i64]; omega
              rw [if_neg (by omega), Int.tdiv_eq_ediv_of_nonneg hr0, hwr]
            | 4, ho =>
              cases ho
              have e1 : a.eval (.tmp 38) = .int .i64 (r / q) := hdep ⟨3, .data⟩ (by simp) rfl
              obtain ⟨ti, i1, i2⟩ := Option.map_eq_some_iff.1 int_two
              simp only [Prod.mk.injEq] at i2
              obtain ⟨hz, hs⟩ := i2
              have hsz : W.heap.size ≤ w5.heap.size := Nat.le_trans RI0.out.kp.size hb5.size
              refine wp_buildSlice 22 3 1 _ rfl (iC [r / q]).toArray ti _ Try.underlying22 i1 hz (by rw [hs]; decide) (by rw [hs]; decide) ?_ ⟨_, rfl, ⟨w5.heap.size, rfl, hsz, heap_alloc_new _ _⟩, below_newI _ _⟩
              rw [hs]
              simp only [List.map_toArray, List.map_cons, List.map_nil, e1]
              exact int_fill1 _
          · intro a w5 hk hb hv
            obtain ⟨x, hx, ea⟩ := hk.lit2 46 rfl
            have hb5 : Below w4.heap.size w4 w5 := ⟨hb.os, hb.tape, hb.output, hb.size, hb.block⟩
            have h0 : a.eval (.tmp 35) = v := hv 0 (by decide)
            obtain ⟨g, h4, hg1, hg2⟩ : ∃ g, a.eval (.tmp 39) = .slice (some ⟨g, 0, none⟩) 1 1 ∧ W.heap.size ≤ g ∧ w5.heap[g]? = some (.cells (iC [r / q]).toArray 3) := hv 4 (by decide)
            rw [hx] at h0 h4
            replace ea : a = { tmps := #[.int .i64 i, .pointer (some ⟨b1, 0, none⟩), .pointer (some ⟨b2, 0, none⟩), .pointer (some ⟨b3, 0, none⟩), .int .i64 0, .pointer (some ⟨bx, 0, none⟩), .int .i64 r, .int .i64 ((L : Int) - j), .int .i64 q, .int .i64 i, .bool true, .bool false, .agg #[.int .i64 k, .int .i64 L, .int .i64 fs, .int .i64 sp], .int .i64 i, .pointer (some ⟨bx, 2, none⟩), .int .i64 fs, .pointer (some ⟨bx, 3, none⟩), .int .i64 sp, .int .i64 (fs + sp), .bool false, .pointer (some ⟨bx, 0, none⟩), .int .i64 k, .int .i64 i, .pointer (some ⟨bx, 2, none⟩), .int .i64 fs, .int .i64 r0, .pointer (some ⟨bx, 1, none⟩), .int .i64 L, u28, u29, .int .i64 ((L : Int) - j), .bool false, .int .i64 ((L : Int) - j), .int .i64 ((L : Int) - j - 1), .int .i64 q, x 35, x 36, x 37, x 38, x 39, u40, u41, u42, u43, undef, undef], defers := [] } := ea
            rw [h0, h4] at ea
            subst ea
            have ho5 := own_keepI RI0.out.own hb5
            have hsz : W.heap.size ≤ w5.heap.size := Nat.le_trans RI0.out.kp.size hb5.size
            have HV := Lib.hid (And.intro hb5 hsz)
            have hdl := HDL.out
            clear hk hb hv hx h0 h4
            obtain ⟨t1', t2', t3', t4'⟩ := TZ.out
            refine at_append_list _ rfl (.tmp 35) (.tmp 39) 22 rfl W.heap.size 3 it _ 1 8 Try.underlying22 t1' t2' t3' t4' (by rfl) (by omega) (by omega) v ds.length (iC ds) (by rfl) ho5 (some ⟨g, 0, none⟩) 1 1 (iC [r / q]) (by rfl) (by rfl) (fun _ => ⟨g, 0, rfl, fun jj u hu => (cell_of_row w5 g _ _ _ _ hg2).trans (by rw [Nat.zero_add]; simpa using hu)⟩) (iC_one _) (by omega) hsz ?_
            intro v' w6 hown hgrow
            obtain ⟨A', n', c', rfl⟩ : ∃ A' n' c', v' = .slice A' n' c' := by
              rcases hown.2 with ⟨e, _⟩ | ⟨g', cap, cur, e, _⟩
              · exact ⟨_, _, _, e⟩
              · exact ⟨_, _, _, e⟩
            have hoc5 := (RI0.out.oc.below hb5 RI0.out.oc.c1.lt RI0.out.oc.c2.lt RI0.out.oc.c3.lt)
            have hob := own_block ho5
            have hoc6 := hoc5.grown (s := w2.heap.size) hgrow (fun g e => by have := hob g e; have := HSZ.out; omega) (by have := Z.out; omega) (by have := Z.out; omega) (by have := Z.out; omega)
            have hk6 := (RI0.out.kp.trans (Kept.of_below hb5)).grown hgrow hob
            have hl6 := (RI0.out.bl.trans (hb5.mono (by have := HSZ.out; have := Z.out; have := RI0.out.kp.size; omega))).grown hgrow (by have := HSZ.out; have := Z.out; omega) (fun g e => by have := hob g e; have := HSZ.out; have := Z.out; omega)
            have c6 := hoc6.c3.cell
            have f6 := hoc6.c3.frozen
            have R6 : Hid (∃ u, RI W (w6.setCell ⟨b3, 0, none⟩ (.slice A' n' c')) b1 w2.heap.size b1 b2 b3 w i k (ds ++ [r / q]) u) := Lib.hid ⟨_, hoc6.set3 (.slice A' n' c') (by have := Z.out; omega) (by have := Z.out; omega), by
              have h := own_set (r := b3) (.slice A' n' c') hown (by have := HSZ.out; have := Z.out; omega)
              rw [List.length_append]
              show World.ownsRow _ _ _ _ _ _ ((ds ++ [r / q]).map _)
              rw [List.map_append]
              exact h, hk6.trans (Kept.setCell _ (by have := Z.out; show b3 ≠ b1; omega) (by have := Z.out; show b3 < w2.heap.size; omega) _), hl6.setCell (p := ⟨b3, 0, none⟩) (by have := Z.out; show b1 ≤ b3; omega) _⟩
            clear hoc5 hoc6 hk6 hl6 hown hgrow ho5 hob hg1 hg2 RI0
            simp only [Act.put]
            go_wp2_with fail
            have hq0 : ¬ q = 0 := by have := HQ.1; omega
            have hr0 : 0 ≤ r := HR.1
            have hr1 : r ≤ 262144 := HR.2
            have hm0 : 0 ≤ r % q := Int.emod_nonneg _ hq0
            have hm1' : r % q ≤ r := by
              rcases (by omega : r < q ∨ q ≤ r) with h | h
              · rw [Int.emod_eq_of_lt hr0 h]; omega
              · have := Int.emod_lt_of_pos r HQ.1; omega
            have htm : r.tmod q = r % q := Int.tmod_eq_emod_of_nonneg hr0
            gi_wp2
            refine ⟨?_, ?_⟩
            · repeat apply Exists.intro
              exact ⟨⟨j + 1, by omega, by rw [HDG.out.2], by congr 1; omega, by rw [HDG.out.1]; exact R6⟩, rfl⟩
            · show ((L : Int) - j - 1).toNat < ((L : Int) - j).toNat
              omega
  case done =>
    rintro D W hD ⟨hn, hB, hno⟩ hK
    exfalso
    rw [show begN 11 = 266312 from rfl] at hno
    omega
  case stop =>
    rintro D k c W hD hk ⟨rfl, v, hn, ho, hB⟩ hK
    have HN := Lib.hid hn
    have HO := Lib.hid ho
    have HB := Lib.hid hB
    have HK := Lib.hid hK
    have HD := Lib.hid hD
    have c2 := hn.c2.cell
    have c3 := hn.c3.cell
    have f2 := hn.c2.frozen
    have f3 := hn.c3.frozen
    have ne : b2 ≠ b3 := by have := Z.out; omega
    obtain ⟨A', n', c', rfl⟩ : ∃ A' n' c', v = .slice A' n' c' := by
      rcases ho.2 with ⟨e, _⟩ | ⟨g', cap, cur, e, _⟩
      · exact ⟨_, _, _, e⟩
      · exact ⟨_, _, _, e⟩
    clear hn ho hB hK hD
    gi_wp2
    go_wp2
    go_region
    have hd : OC ((W.setCell ⟨b2, 0, none⟩ (.int .i64 (wayN i).1)).setCell ⟨b3, 0, none⟩ (.slice A' n' c')).drew b1 b2 b3 i (wayN i).1 (.slice A' n' c') :=
      have h := (HN.out.set2 (wayN i).1 (by have := Z.out; omega) (by have := Z.out; omega)).set3 (.slice A' n' c') (by have := Z.out; omega) (by have := Z.out; omega)
      ⟨h.c1, h.c2, h.c3⟩
    have ho : World.ownsRow ((W.setCell ⟨b2, 0, none⟩ (.int .i64 (wayN i).1)).setCell ⟨b3, 0, none⟩ (.slice A' n' c')).drew (w2.heap.size + 2) 3 1 (.slice A' n' c') (wayN i).2.length (iC (wayN i).2) :=
      own_set (r := b3) (.slice A' n' c') (own_set (r := b2) (.int .i64 (wayN i).1) HO.out (by have := Z.out; omega)) (by have := Z.out; omega)
    have hb : Below b1 w ((W.setCell ⟨b2, 0, none⟩ (.int .i64 (wayN i).1)).setCell ⟨b3, 0, none⟩ (.slice A' n' c')).drew :=
      ((HB.out.setCell (p := ⟨b2, 0, none⟩) (by have := Z.out; show b1 ≤ b2; omega) _).setCell (p := ⟨b3, 0, none⟩) (by have := Z.out; show b1 ≤ b3; omega) _).trans (Below.drewN (Below.refl _ _) 1)
    have hk : ((W.setCell ⟨b2, 0, none⟩ (.int .i64 (wayN i).1)).setCell ⟨b3, 0, none⟩ (.slice A' n' c')).drew.heap[D]? = some (.deferred (some [])) := (Below.heap_setCell _ _ _ _ (by have := Z.out; have := HD.out; show D ≠ b3; omega)).trans ((Below.heap_setCell _ _ _ _ (by have := Z.out; have := HD.out; show D ≠ b2; omega)).trans HK.out)
    have hsz : b1 ≤ w2.heap.size + 2 := by have := Z.out; omega
    generalize ((W.setCell ⟨b2, 0, none⟩ (.int .i64 (wayN i).1)).setCell ⟨b3, 0, none⟩ (.slice A' n' c')).drew = W3 at hd ho hb hk ⊢
    have HC := Lib.hid (And.intro hd (And.intro ho (And.intro hb hk)))
    clear hd ho hb hk c2 c3 f2 f3
    go_wp2
    rw [Exit.noGoto_ret]
    have hlD : b3 < D := by have := Z.out; have := HD.out; omega
    have h12 := Z.out
    have hbb : Below b1 w (W3.putObj D (.deferred none)) := HC.out.2.2.1.trans (below_putObj W3 (by omega) _)
    refine leave_mark HC.out.2.2.2 (results_of (HC.out.1.put _ (by omega) (by omega) (by omega))) ⟨⟨.slice A' n' c', by rw [ofN_yes HI.out], ?_⟩, by rw [HB1.out]; exact hbb⟩
    rw [ofN_yes HI.out, HB1.out]
    exact own_monoI (own_putD _ HC.out.2.1 HC.out.2.2.2) hsz
theorem pOf (i : Int) (w : World) : Calls Try.prog 14 #[.int .i64 i] w fun e w' => OfR i w.heap.size e w' ∧ Below w.heap.size w w' := by
  by_cases h : MayI i
  · exact callsIn_wide.1 (of_in Fence.wide 6 rfl (fun _ => trivial) rfl (Nat.le_refl _) i h w)
  · exact of_no h w
end Go.Proofs.Ytnneppkkmhjpbaa
