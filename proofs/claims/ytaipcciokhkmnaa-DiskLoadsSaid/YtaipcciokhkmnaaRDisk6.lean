import Derived.Test.YtaipcciokhkmnaaRDisk5
namespace Go.Proofs.Ytaipcciokhkmnaa
open Go.RowKit

theorem DS.flush_live {s : DS} (h : s.dead = false) : s.flush = { s.act with safe := s.now, wait := [] } := by unfold DS.flush; rw [if_neg (by simp [h])]
theorem DS.now_length (s : DS) : s.now.length = s.safe.length := by unfold DS.now; exact over_length _ _
set_option maxRecDepth 100000 in
set_option maxHeartbeats 1000000 in
theorem rFlush_any (w : World) (b : Nat) (s : DS) (av : Av) (h : RD w b s av) (ha : s.acts < 1000000) :
    Calls Try.prog 34 #[.pointer (some ⟨b, 0, none⟩)] w fun e w' => e = .returned (.int .i64 (s.err 0)) ∧ RD w' b s.flush av ∧ Keep av w w' := by
  have H := Lib.hid h
  clear h
  cases hd : s.dead
  · have HE := Lib.hid hd
    have E2 := Lib.hid (DS.flush_live hd)
    clear hd
    obtain ⟨g, o, n, c, v, h⟩ := H.out
    have HA := Lib.hid h
    have HN := Lib.hid h.len
    have E1 : Hid (s.err 0 = 0) := Lib.hid (DS.err_in HE.out (by have := h.ok.1; omega))
    clear h
    go_enter Try.func34, Try.ntmps34
    go_wp2_with fail
    refine (rDead_any _ b s av H.out).mono ?_
    rintro e w1 ⟨rfl, rfl⟩
    rw [HE.out]
    go_wp2_with fail
    refine (rImage_any _ b s av H.out).mono ?_
    rintro e w2 ⟨⟨gg, cap, rfl, hI, hG⟩, hB⟩
    have I2 := Lib.hid hI
    have G2 := Lib.hid hG
    have B2 := Lib.hid hB
    clear hI hG hB
    have H2 := Lib.hid (HA.out.below B2.out)
    have c0 := (cell_of_row _ b 0 _ _ (0, 0) H2.out.cells).trans (by rfl : _ = some (Value.slice (some ⟨g, o, none⟩) n c))
    have c1 := (cell_of_row _ b 1 _ _ (0, 0) H2.out.cells).trans (by rfl : _ = some v)
    have f0 := row_frozen (k := 0) H2.out.cells
    have f1 := row_frozen (k := 1) H2.out.cells
    have hgb : b ≠ gg := by have := HA.out.lt; have := G2.out; omega
    have R3 : Hid (RDq ((w2.setCell ⟨b, 0, none⟩ (.slice (some ⟨gg, 0, none⟩) s.safe.length cap)).setCell ⟨b, 1, none⟩ (.slice none 0 0)) b { s with safe := s.now, wait := [] } av 1) := Lib.hid (by
      have hav : ¬ av gg := fun q => by have := HA.out.bound gg q; have := G2.out; omega
      obtain ⟨o1, o2, o3, o4, o5⟩ := HA.out.ok
      refine ⟨gg, 0, s.safe.length, cap, .slice none 0 0, ?_, (DS.now_length s).symm, I2.out.keep ?_, WOwn.nil _ _, ⟨hgb, by simp [Value.ownBlock], by simp [Value.ownBlock], HA.out.apart.2.2.2.1, hav, by simp [Value.ownBlock]⟩, fun i hi => ?_, ⟨by rw [DS.now_length]; exact o1, by rw [DS.now_length]; exact o2, by simp, by simp, o5⟩, HA.out.lo⟩
      · rw [heap_setCell_same _ b 1 _ _ _ (heap_setCell_same _ b 0 _ _ _ H2.out.cells)]; rfl
      · rw [setCell_other _ _ _ _ _ (Ne.symm hgb), setCell_other _ _ _ _ _ (Ne.symm hgb)]
      · rw [setCell_size, setCell_size]; exact H2.out.bound i hi)
    have K3 : Hid (Keep av w1 ((w2.setCell ⟨b, 0, none⟩ (.slice (some ⟨gg, 0, none⟩) s.safe.length cap)).setCell ⟨b, 1, none⟩ (.slice none 0 0))) := Lib.hid ((((Keep.of_below B2.out).mono HA.out.bound).trans (rKeep HA.out.apart.2.2.2.1 _ _)).trans (rKeep HA.out.apart.2.2.2.1 _ _))
    go_wp2_with fail
    generalize (w2.setCell ⟨b, 0, none⟩ (.slice (some ⟨gg, 0, none⟩) s.safe.length cap)).setCell ⟨b, 1, none⟩ (.slice none 0 0) = w3 at R3 K3 ⊢
    clear c0 c1 f0 f1 H2 B2 I2 G2
    refine (rAct_any w3 b { s with safe := s.now, wait := [] } av R3.out HE.out ha).mono ?_
    rintro e w7 ⟨rfl, hd7, hk7⟩
    have D7 := Lib.hid hd7
    have K7 := Lib.hid (K3.out.trans hk7)
    clear hd7 hk7
    go_wp2_with fail
    go_ret
    exact ⟨by rw [E1.out]; rfl, by rw [E2.out]; exact D7.out, K7.out⟩
  · have HE := Lib.hid hd
    have E2 : Hid (s.flush = s) := Lib.hid (by unfold DS.flush; rw [if_pos hd])
    clear hd
    have E1 := Lib.hid (DS.err_dead (p := 0) HE.out)
    go_enter Try.func34, Try.ntmps34
    go_wp2_with fail
    refine (rDead_any _ b s av H.out).mono ?_
    rintro e w1 ⟨rfl, rfl⟩
    rw [HE.out]
    go_wp2_with fail
    go_ret
    exact ⟨by rw [E1.out]; rfl, by rw [E2.out]; exact H.out, Keep.refl _ _⟩
theorem RDAt.set {w : World} {b : Nat} {s : DS} {g o n c : Nat} {v : Value} {av : Av} {q : Nat} (h : RDAt w b s g o n c v av q) {i : Nat} (hi : i < s.safe.length) (X : Blk) : RDAt (w.setCells g (o + i * 256) (arr X).toList) b { s with safe := s.safe.set i X } g o n c v av q := by
  obtain ⟨a1, a2, a3, a4, a5, a6⟩ := h.apart
  obtain ⟨o1, o2, o3, o4, o5⟩ := h.ok
  exact ⟨(setCells_heap_ne g _ _ _ b a1).trans h.cells, by rw [List.length_set]; exact h.len, h.img.set hi X, h.wait.keep fun i e => setCells_heap_ne g _ _ _ i (fun q => a3 (q ▸ e)), h.apart, fun i hi => by rw [setCells_size]; exact h.bound i hi, ⟨by rw [List.length_set]; exact o1, by rw [List.length_set]; exact o2, by rw [List.length_set]; exact o3, o4, o5⟩, h.lo⟩
end Go.Proofs.Ytaipcciokhkmnaa
