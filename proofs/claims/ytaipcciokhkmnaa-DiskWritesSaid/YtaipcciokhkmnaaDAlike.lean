import Derived.Test.YtaipcciokhkmnaaDBoth
namespace Go.Proofs.Ytaipcciokhkmnaa
open Go.RowKit

section
variable {D : World → Addr → DS → Av → Prop}
theorem Both.drewN (hD : DiskSays D) {w : World} {a : Addr} {b : Nat} {sd sr : DS} {G : Av} (h : Both D w a b sd sr G) (q : Nat) : Both D (w.drewN q) a b sd sr G := h.below hD ⟨rfl, rfl, rfl, Nat.le_refl _, fun _ _ => rfl⟩
theorem Both.drew (hD : DiskSays D) {w : World} {a : Addr} {b : Nat} {sd sr : DS} {G : Av} (h : Both D w a b sd sr G) : Both D w.drew a b sd sr G := h.below hD ⟨rfl, rfl, rfl, Nat.le_refl _, fun _ _ => rfl⟩
/-- What the document's disk says of its own fields. -/
theorem Both.fields {w : World} {a : Addr} {b : Nat} {sd sr : DS} {G : Av} (h : Both D w a b sd sr G) : ∃ A c A' c', w.cell? ⟨b, 0, none⟩ = some (.slice A sr.safe.length c) ∧ w.cell? ⟨b, 1, none⟩ = some (.slice A' sr.wait.length c') ∧ w.cell? ⟨b, 2, none⟩ = some (.int .i64 (sr.acts : Nat)) := by
  obtain ⟨F, h⟩ := h
  obtain ⟨g, o, n, c, v, r⟩ := h.r
  obtain ⟨A, cv, rfl⟩ := r.wait.shape
  have c0 := (cell_of_row w b 0 _ _ (0, 0) r.cells).trans (by rfl : _ = some (Value.slice (some ⟨g, o, none⟩) n c))
  rw [r.len] at c0
  exact ⟨_, _, A, cv, c0, (cell_of_row w b 1 _ _ (0, 0) r.cells).trans (by rfl), (cell_of_row w b 2 _ _ (0, 0) r.cells).trans (by rfl)⟩
theorem Both.imgL {w : World} {a : Addr} {b n c : Nat} {A : Option Addr} {sd sr : DS} {G : Av} (h : Both D w a b sd sr G) (hc : w.cell? ⟨b, 0, none⟩ = some (.slice A n c)) : Img w A sr.safe := by
  obtain ⟨F, h⟩ := h
  obtain ⟨g, o, n', c', v, r⟩ := h.r
  have c0 := (cell_of_row w b 0 _ _ (0, 0) r.cells).trans (by rfl : _ = some (Value.slice (some ⟨g, o, none⟩) n' c'))
  rw [hc] at c0
  injection c0 with c0
  injection c0 with c0
  rw [c0]
  exact r.img.img
theorem Both.ok (hD : DiskSays D) {w : World} {a : Addr} {b : Nat} {sd sr : DS} {G : Av} (h : Both D w a b sd sr G) : sd.ok := by
  obtain ⟨F, h⟩ := h
  exact hD.ok h.d
theorem Both.blt {w : World} {a : Addr} {b : Nat} {sd sr : DS} {G : Av} (h : Both D w a b sd sr G) : b < w.heap.size := by
  obtain ⟨F, h⟩ := h
  exact h.r.out.1
set_option maxRecDepth 100000 in
set_option maxHeartbeats 4000000 in
theorem alike_any (hD : DiskSays D) (w : World) (a : Addr) (b : Nat) (s : DS) (G : Av) (hT : Both D w a b s s G) (hG : ∀ i, G i → i < w.heap.size) :
    Calls Try.prog 15 #[.pointer (some a), .pointer (some ⟨b, 0, none⟩)] w fun e w' => e = .returned (.bool true) ∧ Both D w' a b s s G ∧ Keep G w w' := by
  have HD := Lib.hid hD
  have OK := Lib.hid (hT.ok hD)
  have T0 := Lib.hid (hT.drew hD)
  have HG := Lib.hid hG
  have NL := Lib.hid (DS.now_length s)
  obtain ⟨A0, e0, A1, e1, c0, c1, c2⟩ := T0.out.fields
  clear hD hT hG
  have tok1 : True := trivial
  have tok2 : True := trivial
  go_enter Try.func15, Try.ntmps15
  go_wp2_with fail
  go_region_held3 (fun w' => w'.cell? ⟨b, 0, none⟩ = some (.slice A0 s.safe.length e0) ∧ w'.cell? ⟨b, 1, none⟩ = some (.slice A1 s.wait.length e1) ∧ w'.cell? ⟨b, 2, none⟩ = some (.int .i64 (s.acts : Nat)))
    (first
      | go_keep
      | (go_split_ands; exact ⟨(World.cell?_of_block hhb).trans (by assumption), (World.cell?_of_block hhb).trans (by assumption), (World.cell?_of_block hhb).trans (by assumption)⟩)
      | fail "KEEP")
    (first
      | (go_at_call 23; refine (T0.out.callD fun av h => HD.out.blocks a s av _ h).mono ?_; rintro e w1 ⟨rfl, ht, hk, hhb⟩; have T1 := Lib.hid ht; have K1 : Hid (Keep G w w1) := Lib.hid (Keep.trans (b := w.drew) ⟨rfl, rfl, rfl, Nat.le_refl _, fun _ _ => rfl⟩ hk); clear ht hk)
      | (go_at_call 24; refine (T1.out.callD fun av h => HD.out.waiting a s av _ h).mono ?_; rintro e w2 ⟨rfl, ht, hk, hhb⟩; have T2 := Lib.hid ht; have K2 := Lib.hid (K1.out.trans hk); clear ht hk T1 K1)
      | (go_at_call 25; refine (T2.out.callD fun av h => HD.out.acts a s av _ h).mono ?_; rintro e w3 ⟨rfl, ht, hk, hhb⟩; have T3 := Lib.hid ht; have K3 := Lib.hid (K2.out.trans hk); clear ht hk T2 K2)
      | (go_at_call 22; refine (T3.out.callD fun av h => HD.out.dead a s av _ h).mono ?_; rintro e w4 ⟨rfl, ht, hk, hhb⟩; have T4 := Lib.hid ht; have K4 := Lib.hid (K3.out.trans hk); clear ht hk T3 K3)
      | (go_at_call 32; refine (T4.out.callRDead).mono ?_; rintro e w5 ⟨rfl, rfl⟩)
      | (go_at_call 13; refine (T4.out.callI HD.out fun av h => HD.out.image a s av _ h).mono ?_; rintro e w6 ⟨⟨g6, o6, k6, rfl, hi, _, ht⟩, hk, hhb⟩; have T6 := Lib.hid ht; have I6 := Lib.hid hi; have K6 := Lib.hid (K4.out.trans hk); clear ht hk hi)
      | (go_at_call 33; refine (T6.out.callRI HD.out).mono ?_; rintro e w7 ⟨⟨g7, k7, rfl, hi, ht⟩, hb⟩; have hhb := hb.block b T6.out.blt; have T7 := Lib.hid ht; have I7 := Lib.hid hi; have J7 := Lib.hid (I6.out.keep (hb.block _ I6.out.lt)); have K7 : Hid (Keep G w w7) := Lib.hid (K6.out.trans ((Keep.of_below hb).mono fun i hi => Nat.lt_of_lt_of_le (HG.out i hi) K6.out.size)); clear ht hb hi)
      | (go_at_call 28; have _t := tok1; refine (same_true _ _ _ _ _ s.now _ NL.out.symm (by have := OK.out.2.1; omega) J7.out.img I7.out.img).mono ?_; rintro e w8 ⟨rfl, q8, hw8⟩; have hhb : w8.heap[b]? = w7.heap[b]? := (by subst hw8; rfl); have T8 := Lib.hid (T7.out.drewN HD.out q8); rw [← hw8] at T8; have K8 : Hid (Keep G w w8) := Lib.hid (by subst hw8; exact K7.out.trans ⟨rfl, rfl, rfl, Nat.le_refl _, fun _ _ => rfl⟩); clear hw8 tok1)
      | (go_at_call 14; refine (T8.out.callI HD.out fun av h => HD.out.safe a s av _ h).mono ?_; rintro e w9 ⟨⟨g9, o9, k9, rfl, hi, _, ht⟩, hk, hhb⟩; have T9 := Lib.hid ht; have I9 := Lib.hid hi; have K9 := Lib.hid (K8.out.trans (hk.mono fun i hi => .inl (.inl hi))); clear ht hk hi)
      | (go_at_call 28; have _t := tok2; go_split_ands; refine (same_true _ _ _ _ _ s.safe _ rfl (by have := OK.out.2.1; omega) I9.out.img (T9.out.imgL (by assumption))).mono ?_; rintro e w10 ⟨rfl, q10, hw10⟩; have hhb : w10.heap[b]? = w9.heap[b]? := (by subst hw10; rfl); have T10 := Lib.hid (T9.out.drewN HD.out q10); rw [← hw10] at T10; have K10 : Hid (Keep G w w10) := Lib.hid (by subst hw10; exact K9.out.trans ⟨rfl, rfl, rfl, Nat.le_refl _, fun _ _ => rfl⟩); clear hw10 tok2)
      | fail "ARM")
  all_goals
    go_wp2
    go_ret
    exact ⟨rfl, T10.out.mono HD.out fun i h => .inl (.inl (.inl h)), K10.out⟩
end
end Go.Proofs.Ytaipcciokhkmnaa
