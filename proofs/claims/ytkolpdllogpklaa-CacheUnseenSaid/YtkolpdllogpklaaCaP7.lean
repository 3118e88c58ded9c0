import Derived.Test.YtkolpdllogpklaaCaP6
namespace Go.Proofs.Ytkolpdllogpklaa
open Go.RowKit Go.Maps

/-! The landed cache: New, Writeback, Evict, Sync. -/
def CS.fresh (a : Addr) (s : DS) : CS := ⟨a, s, fun _ => none, fun _ => false⟩
def CS.wb (c : CS) (k : Int) : CS := if c.dirty = [] then c else c.back (pickAt c.dirty k)
def CS.ev (c : CS) (k : Int) : CS := if c.clean = [] then c else c.cut (pickAt c.clean k)
def wbV (c : CS) (k : Int) : Value := if c.dirty = [] then .tuple #[.int .i64 0, .bool false, .int .i64 0] else .tuple #[.int .i64 (pickAt c.dirty k), .bool true, .int .i64 (c.backE (pickAt c.dirty k))]
def evV (c : CS) (k : Int) : Value := if c.clean = [] then .tuple #[.int .i64 0, .bool false] else .tuple #[.int .i64 (pickAt c.clean k), .bool true]
theorem owns_fresh {w : World} {g : Nat} (R : Value → Option (DataW Value × List MemPlace)) (h : w.heap[g]? = some (.map #[] 0)) : w.ownsMap Try.prog 3 R g 0 (.map []) := by
  obtain ⟨es, clock, h1, h2⟩ := World.ownsMap_made w Try.prog 3 R
  rw [heap_alloc_new] at h1
  cases h1
  exact ⟨#[], 0, h, h2⟩
section
variable (w : World)
set_option maxRecDepth 100000 in
theorem cNew (a : Addr) (s : DS) (av : Av) (h : LD w a s av) : Calls Try.prog 9 #[.pointer (some a)] w fun e w' => (∃ p, e = .returned (.tuple #[.pointer (some p), .int .i64 0]) ∧ CA w' p (.fresh a s) av) ∧ Below w.heap.size w w' := by
  have K := Lib.hid (dk_blocks0 a s _ w h)
  have HO := Lib.hid (dk_ok h)
  have H := Lib.hid h
  have t0 : decide ((s.safe.length : Int) = 0) = false := decide_eq_false (by have := HO.out.1; omega)
  have t1 : decide (s.safe.length = 0) = false := decide_eq_false (by have := HO.out.1; omega)
  have t2 : ((s.safe.length : Int) == 0) = false := by simp; have := HO.out.1; intro e; rw [e] at this; simp at this
  have hmm := @run_makeMap Try.prog
  generalize s.safe.length = N at K t0 t1 t2
  clear h
  go_enter Try.func9, Try.ntmps9
  go_wp2_with (go_at_call 32; refine K.out.mono ?_; rintro e w1 ⟨rfl, hw1⟩; obtain rfl := hw1.symm)
  refine bodyPost_ret (results_tmp2 Try.results9 _ _ _) rfl ?_
  have B1 := below_newI w (.map #[] 0)
  have B2 : Below w.heap.size w ((w.alloc (.map #[] 0)).alloc (.map #[] 0)) := B1.alloc B1.size _
  have B3 := B2.alloc B2.size (.cells #[.pointer (some a), .map (some w.heap.size), .map (some (w.heap.size + 1))] 38 (0, 0))
  have z1 : (w.alloc (.map #[] 0)).heap.size = w.heap.size + 1 := by simp
  have z2 : ((w.alloc (.map #[] 0)).alloc (.map #[] 0)).heap.size = w.heap.size + 1 + 1 := by simp
  have g1 : (((w.alloc (.map #[] 0)).alloc (.map #[] 0)).alloc (.cells #[.pointer (some a), .map (some w.heap.size), .map (some (w.heap.size + 1))] 38 (0, 0))).heap[w.heap.size]? = some (.map #[] 0) := by
    rw [heap_alloc_old _ _ (by omega), heap_alloc_old _ _ (by omega), heap_alloc_new]
  have g2 : (((w.alloc (.map #[] 0)).alloc (.map #[] 0)).alloc (.cells #[.pointer (some a), .map (some w.heap.size), .map (some (w.heap.size + 1))] 38 (0, 0))).heap[w.heap.size + 1]? = some (.map #[] 0) := by
    rw [heap_alloc_old _ _ (by omega), ← z1, heap_alloc_new]
  have g3 : (((w.alloc (.map #[] 0)).alloc (.map #[] 0)).alloc (.cells #[.pointer (some a), .map (some w.heap.size), .map (some (w.heap.size + 1))] 38 (0, 0))).heap[w.heap.size + 1 + 1]? = some (.cells #[.pointer (some a), .map (some w.heap.size), .map (some (w.heap.size + 1))] 38 (0, 0)) := by
    rw [← z2, heap_alloc_new]
  have hbd := dk_bound H.out
  refine ⟨⟨_, rfl, _, _, _, rfl, g3, HMap.of (owns_fresh _ g1) (Reads.none _ _), PMap.of (owns_fresh _ g2) ?_, ?_, ⟨by omega, by omega, by omega⟩, fun q => ?_, fun q => ?_, fun q => ?_⟩, B3⟩
  · have : pinO (CS.fresh a s).pin = fun _ => none := by funext b; rfl
    rw [this]
    exact Reads.none _ _
  · refine dk_frame H.out B3.size (fun i hi _ => B3.block i hi) fun i hi => ?_
    rw [show (((w.alloc (.map #[] 0)).alloc (.map #[] 0)).alloc (.cells #[.pointer (some a), .map (some w.heap.size), .map (some (w.heap.size + 1))] 38 (0, 0))).heap.size = w.heap.size + 3 by simp]
    rcases hi with hi | hi | hi | hi
    · exact .inl hi
    · exact .inr (by omega)
    · exact .inr (by omega)
    · exact .inr (by omega)
  · have := hbd _ q; omega
  · have := hbd _ q; omega
  · have := hbd _ q; omega
end
/-! Over any cache in memory. -/
theorem ints_keep {w w' : World} {A : Option Addr} {l : List Int} {av : Av} (h : IntsAt w A l) (hk : Keep av w w') (ha : ∀ b o, A = some ⟨b, o, none⟩ → av b) : IntsAt w' A l := fun h0 => by
  obtain ⟨b, o, e, hlt, hc⟩ := h h0
  exact ⟨b, o, e, Nat.lt_of_lt_of_le hlt hk.size, fun i v hv => (hk.cell (p := ⟨b, o + i, none⟩) (ha b o e)).trans (hc i v hv)⟩
section
variable (w : World) (cb bm pm : Nat) (c : CS) (av : Av)
theorem dirty_le (h : CAt w cb bm pm c av) : c.dirty.length ≤ 2048 := Nat.le_trans (pickL_length _ _) (dk_ok h.disk).2.1
theorem clean_le (h : CAt w cb bm pm c av) : c.clean.length ≤ 2048 := Nat.le_trans (pickL_length _ _) (dk_ok h.disk).2.1
set_option maxRecDepth 100000 in
set_option maxHeartbeats 1000000 in
theorem cWriteback (k : Int) (h : CAt w cb bm pm c av) (ha : c.d.acts < 1000000) : Calls Try.prog 12 #[.pointer (some ⟨cb, 0, none⟩), .int .i64 k] w fun e w' => e = .returned (wbV c k) ∧ CaW w cb bm pm (c.wb k) av w' := by
  have M := Lib.hid (cMade w cb bm pm c av h)
  have DD := Lib.hid (cDirty w cb bm pm c av h)
  have LN := Lib.hid (dirty_le w cb bm pm c av h)
  have H0 := Lib.hid h
  have HA := Lib.hid ha
  clear h ha
  by_cases hl : c.dirty = []
  · have EV : Hid (wbV c k = .tuple #[.int .i64 0, .bool false, .int .i64 0]) := Lib.hid (if_pos hl)
    have EW : Hid (c.wb k = c) := Lib.hid (if_pos hl)
    rw [EV.out]
    rw [hl] at DD
    clear hl EV
    go_enter Try.func12, Try.ntmps12
    go_wp2_with (first
      | (go_at_call 34; refine M.out.mono ?_; rintro e w1 ⟨rfl, hw1⟩; obtain rfl := hw1.symm; clear M)
      | (go_at_call 15; refine DD.out.mono ?_; rintro e w2 ⟨⟨v, rfl, ho⟩, hb⟩; obtain ⟨A, cp, rfl, hcp, hA⟩ := own_ints ho rfl; clear DD)
      | (go_at_call 35; refine (pick_none A cp k _).mono ?_; rintro e w3 ⟨rfl, hw3⟩; obtain rfl := hw3.symm))
    refine bodyPost_ret (results_tmp3 Try.results12 _ _ _) rfl ⟨rfl, by rw [EW.out]; exact CaW.of_below H0.out hb⟩
  · have EV : Hid (wbV c k = .tuple #[.int .i64 (pickAt c.dirty k), .bool true, .int .i64 (c.backE (pickAt c.dirty k))]) := Lib.hid (if_neg hl)
    have EW : Hid (c.wb k = c.back (pickAt c.dirty k)) := Lib.hid (if_neg hl)
    have HL := Lib.hid hl
    rw [EV.out]
    clear hl EV
    have BK := Lib.hid (fun (W : World) (h : CAt W cb bm pm c av) => cBack W cb bm pm c av (pickAt c.dirty k) h HA.out)
    have PK := Lib.hid (fun (W : World) (A : Option Addr) (cp : Nat) (h : IntsAt W A c.dirty) => pick_some A c.dirty.length cp c.dirty k W rfl HL.out (by have := LN.out; omega) h)
    generalize pickAt c.dirty k = b at BK PK EW ⊢
    go_enter Try.func12, Try.ntmps12
    go_wp2_with (first
      | (go_at_call 34; refine M.out.mono ?_; rintro e w1 ⟨rfl, hw1⟩; obtain rfl := hw1.symm; clear M)
      | (go_at_call 15; refine DD.out.mono ?_; rintro e w2 ⟨⟨v, rfl, ho⟩, hb⟩; obtain ⟨A, cp, rfl, hcp, hA⟩ := own_ints ho rfl; clear DD)
      | (go_at_call 35; refine (PK.out w2 A cp hA).mono ?_; rintro e w3 ⟨rfl, hw3⟩; obtain rfl := hw3.symm)
      | (go_at_call 18; refine (BK.out w2 (H0.out.below hb)).mono ?_; rintro e w4 ⟨rfl, hc4⟩))
    refine bodyPost_ret (results_tmp3 Try.results12 _ _ _) rfl ⟨rfl, by rw [EW.out]; exact ⟨hc4.1, ((Keep.of_below hb).mono H0.out.bound).trans hc4.2⟩⟩
set_option maxRecDepth 100000 in
set_option maxHeartbeats 1000000 in
theorem cEvict (k : Int) (h : CAt w cb bm pm c av) : Calls Try.prog 13 #[.pointer (some ⟨cb, 0, none⟩), .int .i64 k] w fun e w' => e = .returned (evV c k) ∧ CaW w cb bm pm (c.ev k) av w' := by
  have DD := Lib.hid (cClean w cb bm pm c av h)
  have LN := Lib.hid (clean_le w cb bm pm c av h)
  have HNN : Hid (c.n ≤ 2048) := Lib.hid (dk_ok h.disk).2.1
  have H0 := Lib.hid h
  clear h
  by_cases hl : c.clean = []
  · have EV : Hid (evV c k = .tuple #[.int .i64 0, .bool false]) := Lib.hid (if_pos hl)
    have EW : Hid (c.ev k = c) := Lib.hid (if_pos hl)
    rw [EV.out]
    rw [hl] at DD
    clear hl EV
    go_enter Try.func13, Try.ntmps13
    go_wp2_with (first
      | (go_at_call 16; refine DD.out.mono ?_; rintro e w2 ⟨⟨v, rfl, ho⟩, hb⟩; obtain ⟨A, cp, rfl, hcp, hA⟩ := own_ints ho rfl; clear DD)
      | (go_at_call 35; refine (pick_none A cp k _).mono ?_; rintro e w3 ⟨rfl, hw3⟩; obtain rfl := hw3.symm))
    refine bodyPost_ret (results_tmp2 Try.results13 _ _ _) rfl ⟨rfl, by rw [EW.out]; exact CaW.of_below H0.out hb⟩
  · have EV : Hid (evV c k = .tuple #[.int .i64 (pickAt c.clean k), .bool true]) := Lib.hid (if_neg hl)
    have EW : Hid (c.ev k = c.cut (pickAt c.clean k)) := Lib.hid (if_neg hl)
    have HB : Hid (I64 (pickAt c.clean k)) := Lib.hid (by have h1 : 0 ≤ pickAt c.clean k ∧ pickAt c.clean k < c.n := (mem_pickL.1 (pickAt_mem (k := k) hl)).1; have := HNN.out; unfold I64; omega)
    have HL := Lib.hid hl
    rw [EV.out]
    clear hl EV
    have PK := Lib.hid (fun (W : World) (A : Option Addr) (cp : Nat) (h : IntsAt W A c.clean) => pick_some A c.clean.length cp c.clean k W rfl HL.out (by have := LN.out; omega) h)
    generalize pickAt c.clean k = b at HB PK EW ⊢
    go_enter Try.func13, Try.ntmps13
    go_wp2_with (first
      | (go_at_call 16; refine DD.out.mono ?_; rintro e w2 ⟨⟨v, rfl, ho⟩, hb⟩; obtain ⟨A, cp, rfl, hcp, hA⟩ := own_ints ho rfl; clear DD; have H2 := Lib.hid (H0.out.below hb); have c1 := H2.out.c1)
      | (go_at_call 35; refine (PK.out w2 A cp hA).mono ?_; rintro e w3 ⟨rfl, hw3⟩; obtain rfl := hw3.symm)
      | (refine del_held rfl (.tmp 19) (.tmp 20) rfl rfl H2.out.has HB.out rfl ?_; intro w4 hm ht))
    refine bodyPost_ret (results_tmp2 Try.results13 _ _ _) rfl ⟨rfl, by rw [EW.out]; exact ⟨H2.out.remap hm ht, ((Keep.of_below hb).mono H0.out.bound).trans (keep_turned ht H0.out.out.2.1)⟩⟩
end
end Go.Proofs.Ytkolpdllogpklaa
