import Derived.Test.YtaipcciokhkmnaaRDisk3
import Derived.Deep.RegionLaw
namespace Go.Proofs.Ytaipcciokhkmnaa
open Go.RowKit

theorem RDAt.append {w w5 : World} {b : Nat} {s : DS} {g o n c : Nat} {v : Value} {av : Av} (h : RDAt w b s g o n c v av 0) {gg m cap k : Nat} {X : Blk} (hgrow : w.grownBy w5 v.ownBlock) (hat : v.ownBlock = some gg ∨ gg = w.heap.size)
    (hm : m = s.wait.length + 1) (hown : w5.ownsRow 0 59 257 (.slice (some ⟨gg, 0, none⟩) m cap) m (wcells s.wait ++ (wcell (k : Int) X).toList)) (hk : k < s.safe.length) :
    RDAt (w5.setCell ⟨b, 1, none⟩ (.slice (some ⟨gg, 0, none⟩) m cap)) b { s with wait := s.wait ++ [(k, X)] } g o n c (.slice (some ⟨gg, 0, none⟩) m cap) av 1 := by
  obtain ⟨a1, a2, a3, a4, a5, a6⟩ := h.apart
  have lb := h.lt
  have lg := h.img.lt
  have hb5 : w5.heap[b]? = w.heap[b]? := hgrow.block b lb (fun e => a2 e.symm)
  have hg5 : w5.heap[g]? = w.heap[g]? := hgrow.block g lg (fun e => a3 e.symm)
  have hgb : gg ≠ b := by rintro rfl; rcases hat with e | e; exact a2 e; omega
  have hgg : gg ≠ g := by rintro rfl; rcases hat with e | e; exact a3 e; omega
  have hav : ¬ av gg := by
    intro q
    rcases hat with e | e
    · exact a6 _ e q
    · have := h.bound _ q; omega
  have hsz := hgrow.size
  refine ⟨?_, h.len, h.img.keep ((setCell_other _ _ _ _ _ (Ne.symm a1)).trans hg5), ?_, ⟨a1, ?_, ?_, a4, a5, ?_⟩, fun i hi => ?_, ?_, h.lo⟩
  · rw [heap_setCell_same _ b 1 _ _ _ (hb5.trans h.cells)]; rfl
  · refine WOwn.keep (w := w5) ?_ (fun i e => setCell_other _ _ _ _ _ ?_)
    · subst hm
      unfold WOwn
      rw [List.length_append, wcells_snoc]
      exact hown
    · have : gg = i := by simpa [Value.ownBlock] using e
      rw [← this]; exact hgb
  · simp [Value.ownBlock]; exact hgb
  · simp [Value.ownBlock]; exact hgg
  · intro i e
    have : gg = i := by simpa [Value.ownBlock] using e
    rw [← this]; exact hav
  · have := h.bound i hi; rw [setCell_size]; omega
  · obtain ⟨o1, o2, o3, o4, o5⟩ := h.ok
    refine ⟨o1, o2, fun p hp => ?_, by simp; omega, o5⟩
    rcases List.mem_append.1 hp with hp | hp
    · exact o3 p hp
    · rw [List.mem_singleton] at hp; subst hp; exact hk
/-! A block's load, behind a name that the walk does not open. -/
def doLoad (u : Value) : Sem Value := Instr.loadAt 26 u
theorem exec_load (ρ : Operand → Value) (dst : Option Tmp) (x : Operand) (ty : TypeId) (pos : String) (after : Array Edge) (guard : Option (Nat × Bool)) :
    execOp ρ { dst, op := .load 26 x, type := ty, pos, after, guard } = (do pure (.value (← doLoad (ρ x)))) := by unfold execOp doLoad; simp
attribute [local go_sem ↓] exec_load
theorem doLoad_run {w : World} {b off : Nat} {X : Blk} (hc : At w b off X) : (doLoad (.pointer (some ⟨b, off, none⟩))).run Try.prog w = .ok (.agg (arr X)) w := by
  have hl := run_loadAt_mid (P := Try.prog) w b off 26 (arr X).toList _ hc Try.underlying26 rfl (by rw [arr_length]; exact blk_size)
  simpa [doLoad] using hl
theorem RDAt.below {w w' : World} {b : Nat} {s : DS} {g o n c : Nat} {v : Value} {av : Av} {q : Nat} (h : RDAt w b s g o n c v av q) (hb : Below w.heap.size w w') : RDAt w' b s g o n c v av q := h.frame hb.size (fun i hi _ => hb.block i hi) fun _ h => .inl h
set_option maxRecDepth 100000 in
set_option maxHeartbeats 1000000 in
theorem rWrite_any (w : World) (b : Nat) (s : DS) (av : Av) (p : Int) (X : Blk) (h : RD w b s av) (ha : s.acts < 1000000) :
    Calls Try.prog 38 #[.pointer (some ⟨b, 0, none⟩), .int .i64 p, .agg (arr X)] w fun e w' => e = .returned (.int .i64 (s.err p)) ∧ RD w' b (s.write p X) av ∧ Keep av w w' := by
  have B0 := (Below.refl w.heap.size w).alloc (Nat.le_refl _) (.cells (arr X) 26)
  have H := Lib.hid h
  have H1 := Lib.hid (h.below B0)
  have B1 := Lib.hid B0
  have HB : Hid (∀ i, av i → i < w.heap.size) := Lib.hid (by obtain ⟨g, o, n, c, v, h⟩ := h; exact h.bound)
  clear h B0
  obtain ⟨g, o, n, c, v, h0⟩ := H.out
  have LV : Hid (∀ i, v.ownBlock = some i → i < w.heap.size) := Lib.hid fun i e => (h0.wait.base_le i e).2
  have LB := Lib.hid h0.lt
  have h1 := h0.frame B1.out.size (fun i hi _ => B1.out.block i hi) (av' := av) fun _ h => .inl h
  have c0 := (cell_of_row _ b 0 _ _ (0, 0) h1.cells).trans (by rfl : _ = some (Value.slice (some ⟨g, o, none⟩) n c))
  have HN := Lib.hid h1.len
  have HA := Lib.hid h1
  clear h1 h0
  cases hd : s.dead
  · have HE := Lib.hid hd
    clear hd
    by_cases h0 : p < 0
    · have t0 : decide (p < 0) = true := by simp; omega
      have E1 := Lib.hid (DS.err_out HE.out (.inl h0))
      have E2 : Hid (s.write p X = s) := Lib.hid (by unfold DS.write; rw [if_neg (by rw [E1.out]; decide)])
      clear h0
      go_enter Try.func38, Try.ntmps38
      go_wp2_with fail
      refine (rDead_any _ b s av H1.out).mono ?_
      rintro e w1 ⟨rfl, rfl⟩
      rw [HE.out]
      go_wp2_with fail
      go_ret
      exact ⟨by rw [E1.out]; rfl, by rw [E2.out]; exact H1.out, (Keep.of_below B1.out).mono HB.out⟩
    · have t0 : decide (p < 0) = false := by simp; omega
      by_cases h1 : (n : Int) ≤ p
      · have t1 : decide ((n : Int) ≤ p) = true := by simp; omega
        have E1 := Lib.hid (DS.err_out HE.out (p := p) (.inr (by rw [← HN.out]; exact h1)))
        have E2 : Hid (s.write p X = s) := Lib.hid (by unfold DS.write; rw [if_neg (by rw [E1.out]; decide)])
        clear h0 h1
        go_enter Try.func38, Try.ntmps38
        go_wp2_with fail
        refine (rDead_any _ b s av H1.out).mono ?_
        rintro e w1 ⟨rfl, rfl⟩
        rw [HE.out]
        go_wp2_with fail
        go_ret
        exact ⟨by rw [E1.out]; rfl, by rw [E2.out]; exact H1.out, (Keep.of_below B1.out).mono HB.out⟩
      · have t1 : decide ((n : Int) ≤ p) = false := by simp; omega
        obtain ⟨k, rfl⟩ := Int.eq_ofNat_of_zero_le (show 0 ≤ p by omega)
        have t2 : decide (n ≤ k) = false := by simp; omega
        have E1 := Lib.hid (DS.err_in HE.out (p := k) (by rw [← HN.out]; omega))
        have E2 : Hid (s.write k X = { s.act with wait := s.wait ++ [(k, X)] }) := Lib.hid (by unfold DS.write; rw [if_pos E1.out, Int.toNat_natCast])
        have hk : k < s.safe.length := by rw [← HN.out]; omega
        clear h0 h1
        have hR := Lib.hid (At.row (heap_alloc_new w (.cells (arr X) 26)))
        have c1 := (cell_of_row _ b 1 _ _ (0, 0) HA.out.cells).trans (by rfl : _ = some v)
        have f1 := row_frozen (k := 1) HA.out.cells
        obtain ⟨i0, hi0, hzz⟩ := Option.map_eq_some_iff.1 wait_info
        simp only [Prod.mk.injEq] at hzz
        obtain ⟨hz0, hz1, hz2⟩ := hzz
        have HZ0 := Lib.hid hz0
        have HZ1 := Lib.hid hz1
        have HZ2 := Lib.hid hz2
        have HI0 := Lib.hid hi0
        clear hz0 hz1 hz2 hi0
        go_enter Try.func38, Try.ntmps38
        go_wp2_with fail
        refine (rDead_any _ b s av H1.out).mono ?_
        rintro e w1 ⟨rfl, rfl⟩
        rw [HE.out]
        go_wp2_with fail
        have GN : Hid (some w.heap.size ≠ v.ownBlock) := Lib.hid (fun e => by have := LV.out _ e.symm; omega)
        have BN : Hid (some b ≠ v.ownBlock) := Lib.hid (fun e => HA.out.apart.2.1 e.symm)
        generalize w.alloc (.cells (arr X) 26) = w2 at *
        have HA2 := Lib.hid (HA.out.below (w' := w2.drew) ⟨rfl, rfl, rfl, Nat.le_refl _, fun _ _ => rfl⟩)
        have hld := doLoad_run (w := w2.drew) hR.out
        have c1d : w2.drew.cell? ⟨b, 1, none⟩ = some v := c1
        have c1a := alloc1_cell c1d (.cells (wcell (k : Int) X) 59)
        have c1e := alloc1_cell c1 (.cells (wcell (k : Int) X) 59)
        have BA : Hid (Below w2.drew.heap.size w2.drew (w2.drew.alloc (.cells (wcell (k : Int) X) 59))) := Lib.hid ((Below.refl _ _).alloc (Nat.le_refl _) _)
        have HA3 := Lib.hid (HA2.out.below BA.out)
        have HWL : Hid (s.wait.length ≤ 1000000) := Lib.hid (by have := HA.out.ok.2.2.2; omega)
        go_region_law (refine step_append_lies _ (by rfl) _ _ _ (by rfl) 0 59 i0 _ 257 264 Try.underlying57 HI0.out HZ0.out HZ1.out HZ2.out wait_zero_cells (by omega) v s.wait.length _ (by rfl) HA3.out.wait ⟨w2.heap.size, 0, none⟩ 1 1 (wcell (k : Int) X).toList (by rfl) (wcell_list_len _ _) (World.news_of_block (cs := wcell (k : Int) X) (t := 59) (fr := (0, 0)) (heap_alloc_new w2.drew _)) (wcell_list_one _ _) (by omega) (by have := HWL.out; simp only [maxLen]; omega) (by have := HWL.out; omega) (by omega) (w2.heap.size + 1) (by simp) ?_; intro gg cap w5 hown1 hgrow hat hltg; have hB5 := (hgrow.block b HA3.out.lt (by exact BN.out)).trans HA3.out.cells; have c1b := (cell_of_row _ b 1 _ _ (0, 0) hB5).trans (by rfl : _ = some v); have f1b := row_frozen (k := 1) hB5)
        all_goals
          have HQ := Lib.hid (HA3.out.append (gg := gg) (cap := cap) (k := k) (X := X) hgrow (hat.imp id fun e => by rw [e]; simp) rfl hown1 hk)
          have KQ : Hid (Keep av w (w5.setCell ⟨b, 1, none⟩ (.slice (some ⟨gg, 0, none⟩) (s.wait.length + 1) cap))) := Lib.hid (by
            have hB := BA.out
            refine Keep.trans ?_ (rKeep HA3.out.apart.2.2.2.1 _ _)
            refine ⟨hgrow.os.trans (hB.os.trans B1.out.os), hgrow.tape.trans (hB.tape.trans B1.out.tape), hgrow.output.trans (hB.output.trans B1.out.output), Nat.le_trans B1.out.size (Nat.le_trans hB.size hgrow.size), fun i hi => ?_⟩
            have l1 := HB.out i hi
            have l2 := Nat.lt_of_lt_of_le l1 B1.out.size
            exact (hgrow.block i (Nat.lt_of_lt_of_le l2 hB.size) (fun e => HA3.out.apart.2.2.2.2.2 i e.symm hi)).trans ((hB.block i l2).trans (B1.out.block i l1)))
          generalize w5.setCell ⟨b, 1, none⟩ (.slice (some ⟨gg, 0, none⟩) (s.wait.length + 1) cap) = w6 at HQ KQ ⊢
          clear hown1 hgrow hat hltg hB5 c1b f1b HA3 BA c1a c1e HA2
          go_wp2_with fail
          refine (rAct_any w6 b { s with wait := s.wait ++ [(k, X)] } av ⟨_, _, _, _, _, HQ.out⟩ HE.out ha).mono ?_
          rintro e w7 ⟨rfl, hd7, hk7⟩
          have D7 := Lib.hid hd7
          have K7 := Lib.hid (KQ.out.trans hk7)
          clear hd7 hk7
          go_wp2_with fail
          go_ret
          exact ⟨by rw [E1.out]; rfl, by rw [E2.out]; exact D7.out, K7.out⟩
  · have HE := Lib.hid hd
    clear hd
    have E1 := Lib.hid (DS.err_dead (p := p) HE.out)
    have E2 : Hid (s.write p X = s) := Lib.hid (by unfold DS.write; rw [if_neg (by rw [E1.out]; decide)])
    go_enter Try.func38, Try.ntmps38
    go_wp2_with fail
    refine (rDead_any _ b s av H1.out).mono ?_
    rintro e w1 ⟨rfl, rfl⟩
    rw [HE.out]
    go_wp2_with fail
    go_ret
    exact ⟨by rw [E1.out]; rfl, by rw [E2.out]; exact H1.out, (Keep.of_below B1.out).mono HB.out⟩
end Go.Proofs.Ytaipcciokhkmnaa
