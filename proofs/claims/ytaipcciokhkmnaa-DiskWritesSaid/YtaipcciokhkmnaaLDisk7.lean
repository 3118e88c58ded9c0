import Derived.Test.YtaipcciokhkmnaaLDisk6
namespace Go.Proofs.Ytaipcciokhkmnaa
open Go.RowKit

theorem LDAt.append {w w5 : World} {b : Nat} {s : LS} {g o g2 o2 n c c2 : Nat} {v : Value} {av : Av} (h : LDAt w b s g o g2 o2 n c c2 v av) {gg m cap k : Nat} {X : Blk} (hgrow : w.grownBy w5 v.ownBlock) (hat : v.ownBlock = some gg ∨ gg = w.heap.size)
    (hm : m = s.wait.length + 1) (hown : w5.ownsRow 0 80 257 (.slice (some ⟨gg, 0, none⟩) m cap) m (wcells s.wait ++ (wcell (k : Int) X).toList)) (hk : k < n) (hwl : s.wait.length < 1000000) :
    LDAt (w5.setCell ⟨b, 2, none⟩ (.slice (some ⟨gg, 0, none⟩) m cap)) b { s with wait := s.wait ++ [(k, X)] } g o g2 o2 n c c2 (.slice (some ⟨gg, 0, none⟩) m cap) av := by
  obtain ⟨a1, a2, a3, a4, a5, a6⟩ := h.apart
  obtain ⟨u1, u2, u3, u4⟩ := h.out
  have lb := h.lt
  have lg := h.img.lt
  have lg2 := h.img2.lt
  have hb5 : w5.heap[b]? = w.heap[b]? := hgrow.block b lb (fun e => a4 e.symm)
  have hg5 : w5.heap[g]? = w.heap[g]? := hgrow.block g lg (fun e => a5 e.symm)
  have hg25 : w5.heap[g2]? = w.heap[g2]? := hgrow.block g2 lg2 (fun e => a6 e.symm)
  have hgb : gg ≠ b := by rintro rfl; rcases hat with e | e; exact a4 e; omega
  have hgg : gg ≠ g := by rintro rfl; rcases hat with e | e; exact a5 e; omega
  have hgg2 : gg ≠ g2 := by rintro rfl; rcases hat with e | e; exact a6 e; omega
  have hav : ¬ av gg := by
    intro q
    rcases hat with e | e
    · exact u4 _ e q
    · have := h.bound _ q; omega
  have hsz := hgrow.size
  refine ⟨?_, h.len, h.len2, h.img.keep ((setCell_other _ _ _ _ _ (Ne.symm a1)).trans hg5), h.img2.keep ((setCell_other _ _ _ _ _ (Ne.symm a2)).trans hg25), ?_, ⟨a1, a2, a3, ?_, ?_, ?_⟩, ⟨u1, u2, u3, ?_⟩, fun i hi => ?_, ?_, h.lo⟩
  · rw [heap_setCell_same _ b 2 _ _ _ (hb5.trans h.cells)]; rfl
  · refine LOwn.keep (w := w5) ?_ (fun i e => setCell_other _ _ _ _ _ ?_)
    · subst hm
      unfold LOwn
      rw [List.length_append, wcells_snoc]
      exact hown
    · have : gg = i := by simpa [Value.ownBlock] using e
      rw [← this]; exact hgb
  · simp [Value.ownBlock]; exact hgb
  · simp [Value.ownBlock]; exact hgg
  · simp [Value.ownBlock]; exact hgg2
  · intro i e
    have : gg = i := by simpa [Value.ownBlock] using e
    rw [← this]; exact hav
  · have := h.bound i hi; rw [setCell_size]; omega
  · obtain ⟨o1, o2, o3, o4, o5⟩ := h.ok
    refine ⟨o1, o2, fun p hp => ?_, by simp; omega, o5⟩
    rcases List.mem_append.1 hp with hp | hp
    · exact o3 p hp
    · rw [List.mem_singleton] at hp; subst hp; exact hk
attribute [local go_sem ↓] exec_load
section
variable (w : World) (b : Nat) (s : LS) (g o g2 o2 n c c2 : Nat) (v : Value) (av : Av)
theorem lWrite_no (p : Int) (X : Blk) (h : LDAt w b s g o g2 o2 n c c2 v av) (he : errOf s p ≠ 0) :
    Calls Try.prog 18 #[.pointer (some ⟨b, 0, none⟩), .int .i64 p, .agg (arr X)] w fun e w' => e = .returned (.int .i64 (errOf s p)) ∧ Below w.heap.size w w' := by
  have B0 := (Below.refl w.heap.size w).alloc (Nat.le_refl _) (.cells (arr X) 26)
  have H1 := Lib.hid (h.below B0)
  have B1 := Lib.hid B0
  clear h B0
  have R := Lib.hid (lRefusal_any _ b s g o g2 o2 n c c2 v av p H1.out)
  obtain ⟨q, hq⟩ : ∃ q, errOf s p = q := ⟨_, rfl⟩
  rw [hq] at R he
  have t0 : (q != 0) = true := by rw [bne_iff_ne]; exact he
  have t1 : (q == 0) = false := by rw [beq_eq_false_iff_ne]; exact he
  have HE := Lib.hid hq
  clear he hq
  go_enter Try.func18, Try.ntmps18
  go_wp2_with fail
  refine R.out.mono ?_
  rintro e w1 ⟨rfl, rfl⟩
  go_wp2_with fail
  go_ret
  exact ⟨by rw [HE.out]; rfl, B1.out⟩
set_option maxRecDepth 100000 in
set_option maxHeartbeats 2000000 in
theorem lWrite_yes (k : Nat) (X : Blk) (h : LDAt w b s g o g2 o2 n c c2 v av) (he : errOf s k = 0) (ha : s.acts < 1000000) (hwl : s.wait.length < 1000000) :
    Calls Try.prog 18 #[.pointer (some ⟨b, 0, none⟩), .int .i64 (k : Int), .agg (arr X)] w fun e w' => e = .returned (.int .i64 0) ∧ (∃ v', LDAt w' b ⟨s.safe, s.now.set k X, s.wait ++ [(k, X)], s.acts + 1, s.left.map (· - 1)⟩ g o g2 o2 n c c2 v' av) ∧ Keep av w w' := by
  have hp : s.left ≠ some 0 ∧ k < n := by
    have := h.len
    unfold errOf at he
    split at he
    · omega
    · split at he
      · omega
      · exact ⟨by assumption, by omega⟩
  obtain ⟨hL, hk⟩ := hp
  have HL := Lib.hid hL
  have B0 := (Below.refl w.heap.size w).alloc (Nat.le_refl _) (.cells (arr X) 26)
  have H1 := Lib.hid (h.below B0)
  have B1 := Lib.hid B0
  have HB := Lib.hid h.bound
  have LV : Hid (∀ i, v.ownBlock = some i → i < w.heap.size) := Lib.hid fun i e => (h.wait.base_le i e).2
  have LB := Lib.hid h.lt
  have LG2 := Lib.hid h.img2.lt
  have R := Lib.hid (lRefusal_any _ b s g o g2 o2 n c c2 v av k H1.out)
  rw [he] at R
  clear h B0 he hL
  have hR := Lib.hid (At.row (heap_alloc_new w (.cells (arr X) 26)))
  obtain ⟨i0, hi0, hzz⟩ := Option.map_eq_some_iff.1 lwrite_info
  simp only [Prod.mk.injEq] at hzz
  obtain ⟨hz0, hz1, hz2⟩ := hzz
  have HZ0 := Lib.hid hz0
  have HZ1 := Lib.hid hz1
  have HZ2 := Lib.hid hz2
  have HI0 := Lib.hid hi0
  clear hz0 hz1 hz2 hi0
  have j1 : (0 : Int) ≤ k := by omega
  have j2 : (k : Int) < n := by omega
  go_enter Try.func18, Try.ntmps18
  go_wp2_with fail
  refine R.out.mono ?_
  rintro e w1 ⟨rfl, rfl⟩
  go_wp2_with fail
  have GN : Hid (some w.heap.size ≠ v.ownBlock) := Lib.hid (fun e => by have := LV.out _ e.symm; omega)
  have BN : Hid (some b ≠ v.ownBlock) := Lib.hid (fun e => H1.out.apart.2.2.2.1 e.symm)
  have XN : Hid (w.heap.size ≠ b) := Lib.hid (by have := LB.out; omega)
  have SZ : Hid ((w.alloc (.cells (arr X) 26)).heap.size = w.heap.size + 1) := Lib.hid (by simp)
  generalize w.alloc (.cells (arr X) 26) = w2 at *
  clear R
  have HA2 := Lib.hid H1.out.drew
  have hld := doLoad_run (w := w2.drew) hR.out
  have c1d : w2.drew.cell? ⟨b, 2, none⟩ = some v := H1.out.c2'
  have c1 : w2.cell? ⟨b, 2, none⟩ = some v := H1.out.c2'
  have c1a := alloc1_cell c1d (.cells (wcell (k : Int) X) 80)
  have c1e := alloc1_cell c1 (.cells (wcell (k : Int) X) 80)
  have BA : Hid (Below w2.drew.heap.size w2.drew (w2.drew.alloc (.cells (wcell (k : Int) X) 80))) := Lib.hid ((Below.refl _ _).alloc (Nat.le_refl _) _)
  have HA3 := Lib.hid (HA2.out.below BA.out)
  have HWL := Lib.hid hwl
  clear hwl
  go_region_law (refine step_append_lies _ (by rfl) _ _ _ (by rfl) 0 80 i0 _ 257 264 Try.underlying43 HI0.out HZ0.out HZ1.out HZ2.out wait_zero_cells (by omega) v s.wait.length _ (by rfl) HA3.out.wait ⟨w2.heap.size, 0, none⟩ 1 1 (wcell (k : Int) X).toList (by rfl) (wcell_list_len _ _) (World.news_of_block (cs := wcell (k : Int) X) (t := 80) (fr := (0, 0)) (heap_alloc_new w2.drew _)) (wcell_list_one _ _) (by omega) (by have := HWL.out; simp only [maxLen]; omega) (by have := HWL.out; omega) (by omega) (w2.heap.size + 1) (by simp) ?_; intro gg cap w5 hown1 hgrow hat hltg; have hB5 := (hgrow.block b HA3.out.lt (by exact BN.out)).trans HA3.out.cells; have c1b := (cell_of_row _ b 2 _ _ (0, 0) hB5).trans (by rfl : _ = some v); have f1b := row_frozen (k := 2) hB5)
  all_goals
    have HQ := Lib.hid (HA3.out.append (gg := gg) (cap := cap) (k := k) (X := X) hgrow (hat.imp id fun e => by rw [e]; simp) rfl hown1 hk HWL.out)
    have hR6 := Lib.hid (hR.out.keep (w' := w5.setCell ⟨b, 2, none⟩ (.slice (some ⟨gg, 0, none⟩) (s.wait.length + 1) cap)) ((setCell_other _ _ _ _ _ XN.out).trans ((hgrow.block w.heap.size (by simp; have := SZ.out; omega) GN.out).trans (BA.out.block w.heap.size (by show w.heap.size < w2.heap.size; have := SZ.out; omega)))))
    have KQ : Hid (Keep av w (w5.setCell ⟨b, 2, none⟩ (.slice (some ⟨gg, 0, none⟩) (s.wait.length + 1) cap))) := Lib.hid (by
      have hB := BA.out
      refine Keep.trans ?_ (rKeep HA3.out.out.1 _ _)
      refine ⟨hgrow.os.trans (hB.os.trans B1.out.os), hgrow.tape.trans (hB.tape.trans B1.out.tape), hgrow.output.trans (hB.output.trans B1.out.output), Nat.le_trans B1.out.size (Nat.le_trans hB.size hgrow.size), fun i hi => ?_⟩
      have l1 := HB.out i hi
      have l2 := Nat.lt_of_lt_of_le l1 B1.out.size
      exact (hgrow.block i (Nat.lt_of_lt_of_le l2 hB.size) (fun e => HA3.out.out.2.2.2 i e.symm hi)).trans ((hB.block i l2).trans (B1.out.block i l1)))
    generalize w5.setCell ⟨b, 2, none⟩ (.slice (some ⟨gg, 0, none⟩) (s.wait.length + 1) cap) = w6 at HQ KQ hR6 ⊢
    clear hown1 hgrow hat hltg hB5 c1b f1b HA3 BA c1a c1e HA2 hld
    obtain ⟨cl, hcl⟩ : ∃ cl : List Value, arr X = cl.toArray := ⟨(arr X).toList, by simp⟩
    have hcl2 : (arr X).toList = cl := by rw [hcl]
    have wc2 : w6.rangeAt w.heap.size 0 cl := by have := hR6.out; unfold At at this; rw [hcl2] at this; exact this
    have hcll : cl.length = 256 := by have := arr_length X; rw [hcl2] at this; exact this
    have hc1 : ∀ v ∈ cl, v.oneCell' = true := by
      have := arr_one X
      rw [Array.all_eq_true_iff_forall_mem] at this
      intro v hv
      exact this v (by rw [hcl]; simpa using hv)
    have hu := Try.underlying26
    have hi : (Try.prog.info? 26).map (·.size) = some cl.length := by rw [hcll]; exact blk_size
    have THERE : w6.there g2 (o2 + k * 256) 256 := HQ.out.img2.there (i := k) (by rw [← HQ.out.len2]; exact hk)
    have HCL := Lib.hid hcl2
    have THB : b ≠ g2 := HQ.out.apart.2.1
    have THX : w.heap.size ≠ g2 := by have := LG2.out; omega
    have c6 := HQ.out.c1
    clear hcl hcl2 c1 c1d
    go_wp2_with fail
    go_region_held3 (fun w' => w'.cell? ⟨b, 1, none⟩ = some (Value.slice (some ⟨g2, o2, none⟩) n c2) ∧ w'.rangeAt w.heap.size 0 cl ∧ w'.there g2 (o2 + k * 256) 256)
      (first
        | go_keep_ranges
        | (go_split_ands; exact ⟨(cell_out THB).trans (by assumption), World.rangeAt_setCells_apart (by assumption) _ _ _ (.inl THX), World.there_setCells (by assumption) _ _ _⟩))
      (fail)
    have R2 : Hid (LDAt (w6.drew.setCells g2 (o2 + k * 256) cl) b ⟨s.safe, s.now.set k X, s.wait ++ [(k, X)], s.acts, s.left⟩ g o g2 o2 n c c2 (.slice (some ⟨gg, 0, none⟩) (s.wait.length + 1) cap) av) := Lib.hid (by
      have h := HQ.out.drew.set2 (i := k) hk X
      rw [HCL.out] at h
      exact h)
    have K2 : Hid (Keep av w (w6.drew.setCells g2 (o2 + k * 256) cl)) := Lib.hid ((KQ.out.trans (c := w6.drew) ⟨rfl, rfl, rfl, Nat.le_refl _, fun _ _ => rfl⟩).cells HQ.out.out.2.2.1 _ _)
    generalize w6.drew.setCells g2 (o2 + k * 256) cl = w7 at R2 K2 ⊢
    clear HQ KQ wc2 THERE
    go_wp2_with fail
    refine (lActed_any w7 b _ g o g2 o2 n c c2 _ av R2.out HL.out ha).mono ?_
    rintro e w8 ⟨rfl, h8, k8⟩
    have D8 := Lib.hid h8
    have K8 := Lib.hid (K2.out.trans k8)
    clear h8 k8
    go_wp2_with fail
    go_ret
    exact ⟨rfl, ⟨_, D8.out⟩, K8.out⟩
end
end Go.Proofs.Ytaipcciokhkmnaa
