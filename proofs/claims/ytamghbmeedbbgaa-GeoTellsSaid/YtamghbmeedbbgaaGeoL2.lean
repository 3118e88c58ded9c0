import Derived.Test.YtamghbmeedbbgaaGeoM2
import Derived.Test.YtamghbmeedbbgaaGeoL1
namespace Go.Proofs.Ytamghbmeedbbgaa
open Go.RowKit

/-- What is held on the way: memory only came, and the geometry stands where it stood. -/
def GP (w : World) (g : GeoV) (a : World) : Prop := Below w.heap.size w a ∧ GVar a w.heap.size g
theorem GP.step {w a b : World} {g : GeoV} (h : GP w g a) (hb : Below a.heap.size a b) : GP w g b := ⟨h.1.trans (hb.mono h.1.size), h.2.below hb⟩

set_option maxRecDepth 100000 in
set_option maxHeartbeats 1000000 in
theorem geoStarts_any (hS : GeoSays) (g : GeoV) (k : Int) (w : World) (h1 : g.Fits) (h2 : I64 k) : Calls Try.prog 9 #[.agg (gcs g), .int .i64 k] w fun e w' => e = .returned (.bool true) ∧ Below w.heap.size w w' := by
  have HS := Lib.hid hS
  have H1 := Lib.hid h1
  have H2 := Lib.hid h2
  clear hS h1 h2
  have P0 : Hid (GP w g (w.alloc (.cells (gcs g) 23))) := Lib.hid ⟨(Below.refl w.heap.size w).alloc (Nat.le_refl _) (.cells (gcs g) 23), heap_alloc_new w _⟩
  go_enter Try.func9, Try.ntmps9
  go_wp2_with fail
  generalize w.alloc (.cells (gcs g) 23) = w1 at P0 ⊢
  refine (gAwake_any HS.out w1).mono ?_
  rintro e w2 ⟨rfl, hb⟩
  have P := Lib.hid (P0.out.step hb)
  clear hb P0
  by_cases hg : May g ∧ 0 ≤ k ∧ k < g.gr
  · have M : Hid (mayB g = true) := Lib.hid (by unfold mayB; exact decide_eq_true hg.1)
    have G : Hid (inGroup g k = true) := Lib.hid (by unfold inGroup; exact decide_eq_true hg)
    have ES : Hid (startG g k = 2 + g.jr + k * g.sz) := Lib.hid (by unfold startG; rw [G.out]; rfl)
    have W0 : Hid (whatG g (2 + g.jr + k * g.sz) = (4, k, 0)) := Lib.hid (by
      have := what_at hg.1 (a := 0) hg.2.1 hg.2.2 (by omega) (by have := hg.1.2.2.1; omega)
      rw [Int.add_zero] at this
      exact this)
    have W1 : Hid (whatG g (2 + g.jr + k * g.sz + g.sz - 1) = (7, k, g.sz - 1)) := Lib.hid (by
      have := what_at hg.1 (a := g.sz - 1) hg.2.1 hg.2.2 (by have := hg.1.2.2.1; omega) (by omega)
      rw [kind_last hg.1] at this
      rw [show 2 + g.jr + k * g.sz + g.sz - 1 = 2 + g.jr + k * g.sz + (g.sz - 1) by omega]
      exact this)
    have W2 := Lib.hid (what_next hg.1 hg.2.1 hg.2.2)
    have eb : Hid (blocksG g = 2 + g.jr + g.gr * g.sz) := Lib.hid (if_pos hg.1)
    obtain ⟨⟨m1, m2, m3, m4, m5, m6, m7, m8, m9, m10, m11⟩, n1, n2⟩ := hg
    have p1 : 0 ≤ k * g.sz := Int.mul_nonneg (by omega) (by omega)
    have p2 := group_below (sz := g.sz) (a := g.sz - 1) n2 (by omega) (by omega)
    have CW : Hid (∀ (b : Int) W, 0 ≤ b → b ≤ 4096 → Calls Try.prog 12 #[.agg (gcs g), .int .i64 b] W fun e w' => e = .returned (.tuple #[.int .u8 (whatG g b).1, .int .i64 (whatG g b).2.1, .int .i64 (whatG g b).2.2]) ∧ Below W.heap.size W w') := Lib.hid fun b W h1 h2 => HS.out.what g b W H1.out (by unfold I64; omega)
    have t1 : (2 + g.jr + k * g.sz != 2 + g.jr + k * g.sz) = false := by simp
    have t2 : (k != k) = false := by simp
    by_cases hk : k = g.gr - 1
    · have t3 : (k == g.gr - 1) = true := by simp [hk]
      have EB : Hid (blocksG g = 2 + g.jr + k * g.sz + g.sz) := Lib.hid (by
        have e : k * g.sz + g.sz = g.gr * g.sz := by rw [show g.gr = k + 1 by omega, Int.add_mul, Int.one_mul]
        rw [eb.out]; omega)
      have t4 : (2 + g.jr + k * g.sz + g.sz == 2 + g.jr + k * g.sz + g.sz) = true := by simp
      have W3 : Hid ((whatG g (2 + g.jr + k * g.sz + g.sz)).1 = 0) := Lib.hid (by rw [W2.out, if_pos hk])
      clear hk
      go_wp2_with (first
        | (refine load_geo rfl (.tmp 2) rfl w.heap.size 0 rfl g P.out.2.at ?_)
        | (refine load_geo_w (by rfl) (.tmp 2) rfl w.heap.size 0 rfl g P.out.2.at ?_)
        | (go_at_call 14; refine (HS.out.may g _ H1.out).mono ?_; rintro e wn ⟨rfl, hb⟩; have P := Lib.hid (P.out.step hb); clear hb; rw [M.out]; have c0 := P.out.2.c0; have c1 := P.out.2.c1; have c3 := P.out.2.c3)
        | (go_at_call 10; refine (HS.out.start g k _ H1.out H2.out).mono ?_; rintro e wn ⟨rfl, hb⟩; have P := Lib.hid (P.out.step hb); clear hb; rw [ES.out, G.out])
        | (go_at_call 12; refine (CW.out _ _ (by omega) (by omega)).mono ?_; rintro e wn ⟨rfl, hb⟩; have P := Lib.hid (P.out.step hb); clear hb; have c0 := P.out.2.c0; have c1 := P.out.2.c1; have c3 := P.out.2.c3; first | rw [W0.out] | rw [W1.out] | rw [W3.out]))
      have CB : Hid (∀ W, Calls Try.prog 16 #[.agg (gcs g)] W fun e w' => e = .returned (.int .i64 (2 + g.jr + k * g.sz + g.sz)) ∧ Below W.heap.size W w') := Lib.hid fun W => (HS.out.blocks g W H1.out).mono fun e w' q => ⟨by rw [q.1, EB.out], q.2⟩
      have hlt := P.out.2.lt
      refine wp_region_class (More _) (by kernel_rfl) (by kernel_rfl) (More.drew _) ?_
      repeat (first | go_big_quiet_skip | (go_big_quiet_want; first | (refine quiet_geo _ rfl _ _ rfl g (by intro w' hw'; exact (P.out.2.below hw').at) ?_; simp only [Act.put, List.setIfInBounds_toArray, List.set_cons_zero, List.set_cons_succ]; go_big_quiet_on) | (refine quiet_int _ rfl _ rfl _ (by intro w' hw'; exact (hw'.cell (p := ⟨_, _, none⟩) hlt).trans c1) ?_; simp only [Act.put, List.setIfInBounds_toArray, List.set_cons_zero, List.set_cons_succ]; go_big_quiet_on) | (go_big_quiet_op; first | go_big_quiet_on | (apply Exists.intro; refine ⟨fun _ _ => ?_, ?_⟩; (with_reducible exact rfl); go_big_quiet_on) | go_big_quiet_call ((intro hC; (with_reducible refine (CB.out _).mono ?_); exact fun e w' h => ⟨h.1, hC.on h.2⟩)))))
      refine wpQuiet_nil ?_
      intro w4 hw4
      have P4 := Lib.hid (P.out.step hw4)
      clear hw4
      go_wp2
      go_ret
      exact ⟨rfl, P4.out.1⟩
    · have t3 : (k == g.gr - 1) = false := by simp [hk]
      have W3 : Hid ((whatG g (2 + g.jr + k * g.sz + g.sz)).1 = 4) := Lib.hid (by rw [W2.out, if_neg hk])
      clear hk
      go_wp2_with (first
        | (refine load_geo rfl (.tmp 2) rfl w.heap.size 0 rfl g P.out.2.at ?_)
        | (refine load_geo_w (by rfl) (.tmp 2) rfl w.heap.size 0 rfl g P.out.2.at ?_)
        | (go_at_call 14; refine (HS.out.may g _ H1.out).mono ?_; rintro e wn ⟨rfl, hb⟩; have P := Lib.hid (P.out.step hb); clear hb; rw [M.out]; have c0 := P.out.2.c0; have c1 := P.out.2.c1; have c3 := P.out.2.c3)
        | (go_at_call 10; refine (HS.out.start g k _ H1.out H2.out).mono ?_; rintro e wn ⟨rfl, hb⟩; have P := Lib.hid (P.out.step hb); clear hb; rw [ES.out, G.out])
        | (go_at_call 12; refine (CW.out _ _ (by omega) (by omega)).mono ?_; rintro e wn ⟨rfl, hb⟩; have P := Lib.hid (P.out.step hb); clear hb; have c0 := P.out.2.c0; have c1 := P.out.2.c1; have c3 := P.out.2.c3; first | rw [W0.out] | rw [W1.out] | rw [W3.out]))
      go_ret
      exact ⟨rfl, P.out.1⟩
  · have G : Hid (inGroup g k = false) := Lib.hid (by unfold inGroup; exact decide_eq_false hg)
    have ES : Hid (startG g k = 0) := Lib.hid (by unfold startG; rw [G.out]; rfl)
    by_cases hm : May g
    · have M : Hid (mayB g = true) := Lib.hid (by unfold mayB; exact decide_eq_true hm)
      by_cases hk : k < 0
      · have t1 : decide (k < 0) = true := decide_eq_true hk
        clear hg hk hm
        go_wp2_with (first
          | (refine load_geo rfl (.tmp 2) rfl w.heap.size 0 rfl g P.out.2.at ?_)
          | (refine load_geo_w (by rfl) (.tmp 2) rfl w.heap.size 0 rfl g P.out.2.at ?_)
          | (go_at_call 14; refine (HS.out.may g _ H1.out).mono ?_; rintro e wn ⟨rfl, hb⟩; have P := Lib.hid (P.out.step hb); clear hb; rw [M.out]; have c0 := P.out.2.c0)
          | (go_at_call 10; refine (HS.out.start g k _ H1.out H2.out).mono ?_; rintro e wn ⟨rfl, hb⟩; have P := Lib.hid (P.out.step hb); clear hb; rw [ES.out, G.out]))
        go_ret
        exact ⟨rfl, P.out.1⟩
      · have t1 : decide (k < 0) = false := decide_eq_false hk
        have t2 : decide (g.gr ≤ k) = true := decide_eq_true (by
          rcases Int.lt_or_le k g.gr with h | h
          · exact absurd ⟨hm, by omega, h⟩ hg
          · exact h)
        clear hg hk hm
        go_wp2_with (first
          | (refine load_geo rfl (.tmp 2) rfl w.heap.size 0 rfl g P.out.2.at ?_)
          | (refine load_geo_w (by rfl) (.tmp 2) rfl w.heap.size 0 rfl g P.out.2.at ?_)
          | (go_at_call 14; refine (HS.out.may g _ H1.out).mono ?_; rintro e wn ⟨rfl, hb⟩; have P := Lib.hid (P.out.step hb); clear hb; rw [M.out]; have c0 := P.out.2.c0)
          | (go_at_call 10; refine (HS.out.start g k _ H1.out H2.out).mono ?_; rintro e wn ⟨rfl, hb⟩; have P := Lib.hid (P.out.step hb); clear hb; rw [ES.out, G.out]))
        go_ret
        exact ⟨rfl, P.out.1⟩
    · have M : Hid (mayB g = false) := Lib.hid (by unfold mayB; exact decide_eq_false hm)
      clear hg hm
      go_wp2_with (first
        | (refine load_geo rfl (.tmp 2) rfl w.heap.size 0 rfl g P.out.2.at ?_)
        | (refine load_geo_w (by rfl) (.tmp 2) rfl w.heap.size 0 rfl g P.out.2.at ?_)
        | (go_at_call 14; refine (HS.out.may g _ H1.out).mono ?_; rintro e wn ⟨rfl, hb⟩; have P := Lib.hid (P.out.step hb); clear hb; rw [M.out])
        | (go_at_call 10; refine (HS.out.start g k _ H1.out H2.out).mono ?_; rintro e wn ⟨rfl, hb⟩; have P := Lib.hid (P.out.step hb); clear hb; rw [ES.out, G.out]))
      go_ret
      exact ⟨rfl, P.out.1⟩
end Go.Proofs.Ytamghbmeedbbgaa
