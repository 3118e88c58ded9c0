import Derived.Test.YtaipcciokhkmnaaRDisk2
namespace Go.Proofs.Ytaipcciokhkmnaa
open Go.RowKit

theorem results_blk_tmp {fn : Func} {p u : Tmp} (h : fn.results = #[.cell p 26, .tmp u]) (tmps : Array Value) (w : World) (g : Nat) (X : Blk) (t : TypeId) (hp : tmps.getD p undef = .pointer (some ⟨g, 0, none⟩)) (hg : w.heap[g]? = some (.cells (arr X) t (0, 0))) :
    (results fn tmps).run Try.prog w = .ok (.tuple #[.agg (arr X), tmps.getD u undef]) w := by
  have hp' : tmps[p]?.getD undef = .pointer (some ⟨g, 0, none⟩) := by simpa using hp
  simp [results, h, hp', asAddr, run_loadVar_row w g t 26 (arr X) (0, 0) _ hg Try.underlying26 rfl (by rw [arr_size]; exact blk_size)]
theorem RDq.below {w w' : World} {b : Nat} {s : DS} {av : Av} {q : Nat} (h : RDq w b s av q) (hb : Below w.heap.size w w') : RDq w' b s av q := h.frame hb.size (fun i hi _ => hb.block i hi) fun _ h => .inl h
theorem RDq.drew {w : World} {b : Nat} {s : DS} {av : Av} {q : Nat} (h : RDq w b s av q) : RDq w.drew b s av q := h.frame (Nat.le_refl _) (fun _ _ _ => rfl) fun _ h => .inl h
theorem RDq.mono {w : World} {b : Nat} {s : DS} {av av' : Av} {q : Nat} (h : RDq w b s av q) (hv : ∀ i, av' i → av i) : RDq w b s av' q := h.frame (Nat.le_refl _) (fun _ _ _ => rfl) fun i hi => .inl (hv i hi)
theorem DS.err_dead {s : DS} {p : Int} (h : s.dead = true) : s.err p = 30 := by unfold DS.err; rw [if_pos h]
theorem DS.err_out {s : DS} {p : Int} (h : s.dead = false) (hp : p < 0 ∨ (s.safe.length : Int) ≤ p) : s.err p = 2 := by unfold DS.err; rw [if_neg (by simp [h]), if_pos hp]
theorem DS.err_in {s : DS} {p : Int} (h : s.dead = false) (hp : ¬ (p < 0 ∨ (s.safe.length : Int) ≤ p)) : s.err p = 0 := by unfold DS.err; rw [if_neg (by simp [h]), if_neg hp]
theorem DS.read_bad {s : DS} {p : Int} (h : s.err p ≠ 0) : s.read p = .zero := by unfold DS.read; rw [if_neg h]
theorem DS.read_ok {s : DS} {p : Int} (h : s.err p = 0) : s.read p = s.now.getD p.toNat .zero := by unfold DS.read; rw [if_pos h]
set_option maxRecDepth 100000 in
set_option maxHeartbeats 1000000 in
theorem rRead_any (w : World) (b : Nat) (s : DS) (av : Av) (p : Int) (h : RD w b s av) :
    Calls Try.prog 35 #[.pointer (some ⟨b, 0, none⟩), .int .i64 p] w fun e w' => e = .returned (.tuple #[.agg (arr (s.read p)), .int .i64 (s.err p)]) ∧ Below w.heap.size w w' := by
  have hz := fun W => zero_blk W
  have B0 := (Below.refl w.heap.size w).alloc (Nat.le_refl _) (.cells (arr .zero) 26)
  have H := Lib.hid h
  have H1 := Lib.hid (h.below B0)
  have B1 := Lib.hid B0
  clear h B0
  obtain ⟨g, o, n, c, v, h1⟩ := H1.out
  have c0 := (cell_of_row _ b 0 _ _ (0, 0) h1.cells).trans (by rfl : _ = some (Value.slice (some ⟨g, o, none⟩) n c))
  have HN := Lib.hid h1.len
  clear h1
  cases hd : s.dead
  · have HE := Lib.hid hd
    clear hd
    by_cases h0 : p < 0
    · have t0 : decide (p < 0) = true := by simp; omega
      have E1 := Lib.hid (DS.err_out HE.out (.inl h0))
      have E2 := Lib.hid (DS.read_bad (s := s) (p := p) (by rw [E1.out]; decide))
      clear h0
      go_enter Try.func35, Try.ntmps35
      go_wp2_with fail
      refine (rDead_any _ b s av H1.out).mono ?_
      rintro e w1 ⟨rfl, rfl⟩
      rw [HE.out]
      go_wp2_with (first
        | (refine build_zero_w rfl rfl ?_)
        | (refine store_row rfl (.tmp 4) (.tmp 20) rfl w.heap.size .zero .zero 26 rfl rfl (heap_alloc_new w _) ?_))
      exact bodyPost_ret (v := .tuple #[.agg (arr .zero), .int .i64 2]) (results_blk_tmp Try.results35 _ _ w.heap.size .zero _ rfl (setRow_heap _ _ _ _ _ _ (heap_alloc_new w _))) rfl ⟨by rw [E1.out, E2.out], below_setRow B1.out (Nat.le_refl _) _⟩
    · have t0 : decide (p < 0) = false := by simp; omega
      by_cases h1 : (n : Int) ≤ p
      · have t1 : decide ((n : Int) ≤ p) = true := by simp; omega
        have E1 := Lib.hid (DS.err_out HE.out (p := p) (.inr (by rw [← HN.out]; exact h1)))
        have E2 := Lib.hid (DS.read_bad (s := s) (p := p) (by rw [E1.out]; decide))
        clear h0 h1
        go_enter Try.func35, Try.ntmps35
        go_wp2_with fail
        refine (rDead_any _ b s av H1.out).mono ?_
        rintro e w1 ⟨rfl, rfl⟩
        rw [HE.out]
        go_wp2_with (first
          | (refine build_zero_w rfl rfl ?_)
          | (refine store_row rfl (.tmp 4) (.tmp 20) rfl w.heap.size .zero .zero 26 rfl rfl (heap_alloc_new w _) ?_))
        exact bodyPost_ret (v := .tuple #[.agg (arr .zero), .int .i64 2]) (results_blk_tmp Try.results35 _ _ w.heap.size .zero _ rfl (setRow_heap _ _ _ _ _ _ (heap_alloc_new w _))) rfl ⟨by rw [E1.out, E2.out], below_setRow B1.out (Nat.le_refl _) _⟩
      · have t1 : decide ((n : Int) ≤ p) = false := by simp; omega
        obtain ⟨k, rfl⟩ := Int.eq_ofNat_of_zero_le (show 0 ≤ p by omega)
        have t2 : decide (n ≤ k) = false := by simp; omega
        have E1 := Lib.hid (DS.err_in HE.out (p := k) (by rw [← HN.out]; omega))
        have E2 : Hid (s.read k = s.now.getD k .zero) := Lib.hid (DS.read_ok (s := s) (p := k) E1.out)
        have hk : k < s.safe.length := by rw [← HN.out]; omega
        clear h0 h1
        go_enter Try.func35, Try.ntmps35
        go_wp2_with fail
        refine (rDead_any _ b s av H1.out).mono ?_
        rintro e w1 ⟨rfl, rfl⟩
        rw [HE.out]
        go_wp2_with fail
        refine (rLast_any _ b s av k H1.out hk).mono ?_
        rintro e w2 ⟨rfl, hb⟩
        have X2 := Lib.hid ((hb.block w.heap.size (by simp)).trans (heap_alloc_new w (.cells (arr .zero) 26)))
        have B2 := Lib.hid (B1.out.trans (hb.mono B1.out.size))
        clear hb
        generalize s.now.getD k .zero = X at E2 ⊢
        go_wp2_with (refine store_row rfl (.tmp 4) (.tmp 23) rfl w.heap.size X .zero 26 rfl rfl X2.out ?_)
        exact bodyPost_ret (v := .tuple #[.agg (arr X), .int .i64 0]) (results_blk_tmp Try.results35 _ _ w.heap.size X _ rfl (setRow_heap _ _ _ _ _ _ X2.out)) rfl ⟨by rw [E1.out, E2.out], below_setRow B2.out (Nat.le_refl _) _⟩
  · have HE := Lib.hid hd
    clear hd
    have E1 := Lib.hid (DS.err_dead (p := p) HE.out)
    have E2 := Lib.hid (DS.read_bad (s := s) (p := p) (by rw [E1.out]; decide))
    go_enter Try.func35, Try.ntmps35
    go_wp2_with fail
    refine (rDead_any _ b s av H1.out).mono ?_
    rintro e w1 ⟨rfl, rfl⟩
    rw [HE.out]
    go_wp2_with (first
      | (refine build_zero_w rfl rfl ?_)
      | (refine store_row rfl (.tmp 4) (.tmp 8) rfl w.heap.size .zero .zero 26 rfl rfl (heap_alloc_new w _) ?_))
    exact bodyPost_ret (v := .tuple #[.agg (arr .zero), .int .i64 30]) (results_blk_tmp Try.results35 _ _ w.heap.size .zero _ rfl (setRow_heap _ _ _ _ _ _ (heap_alloc_new w _))) rfl ⟨by rw [E1.out, E2.out], below_setRow B1.out (Nat.le_refl _) _⟩
end Go.Proofs.Ytaipcciokhkmnaa
