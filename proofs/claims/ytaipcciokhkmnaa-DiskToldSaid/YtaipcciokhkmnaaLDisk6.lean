import Derived.Test.YtaipcciokhkmnaaLDisk5
namespace Go.Proofs.Ytaipcciokhkmnaa
open Go.RowKit

theorem enter_fn {f : Nat} {fn : Func} {c : Code} (hf : Try.prog.funcs[f]? = some fn) (hname : (fn.name == "runtime.NumGoroutine") = false) (hb : fn.body = some c) (args : Array Value) (w : World) :
    (callFunc f args).run Try.prog w = .ok (.enter f args) w := by
  have h1 : fn.name ≠ "runtime.NumGoroutine" := by simpa using hname
  simp [callFunc, hf, h1, hb]
theorem kept_true : ∀ (W : Waits), kept W (List.replicate W.length true) = W
  | [] => rfl
  | p :: W => by rw [List.length_cons, List.replicate_succ, kept, if_pos rfl, kept_true W]
theorem flush1_any (k : Int) (w : World) : Calls Try.prog 43 #[.int .i64 k] w fun e w' => e = .returned (.bool true) ∧ w' = w := by
  go_enter Try.func43, Try.ntmps43
  go_wp2
  go_ret
  exact ⟨rfl, rfl⟩
theorem crash1_any (B : Nat) (K : Option Addr) (km kc : Nat) (kl : List Bool) (k : Nat) (w : World) (hkm : km = kl.length) (hK : Bools w K kl) (hB : w.cell? ⟨B, 0, none⟩ = some (.slice K km kc)) (hk : k ≤ 1000000) :
    Calls Try.prog 44 #[.int .i64 (k : Int), .pointer (some ⟨B, 0, none⟩)] w fun e w' => e = .returned (.bool (decide (kl[k]? = some true))) ∧ w' = w := by
  by_cases hrk : k < km
  · obtain ⟨bK, oK, rfl, lK, hcK⟩ := hK (by omega)
    have hgK : kl[k]? = some (kl[k]'(by omega)) := List.getElem?_eq_getElem _
    have cK := hcK k _ hgK
    generalize kl[k]'(by omega) = x at hgK cK
    have E : Hid (decide (kl[k]? = some true) = x) := Lib.hid (by rw [hgK]; cases x <;> simp)
    have j1 : (0 : Int) ≤ k := by omega
    have j3 : (k : Int) < km := by omega
    have t4 : decide (k < km) = true := by simp; omega
    clear hcK hgK hK hkm
    go_enter Try.func44, Try.ntmps44
    go_wp2
    go_ret
    exact ⟨by rw [E.out]; rfl, rfl⟩
  · have E : Hid (decide (kl[k]? = some true) = false) := Lib.hid (by rw [List.getElem?_eq_none (by omega)]; simp)
    have t4 : decide (k < km) = false := by simp; omega
    have j3 : ¬ (k : Int) < km := by omega
    clear hK hkm hrk
    go_enter Try.func44, Try.ntmps44
    go_wp2
    go_ret
    exact ⟨by rw [E.out]; rfl, rfl⟩
section
variable (w : World) (b : Nat) (s : LS) (g o g2 o2 n c c2 : Nat) (v : Value) (av : Av)
theorem lFlush_any (h : LDAt w b s g o g2 o2 n c c2 v av) (hnow : s.now = over s.safe s.wait) (ha : s.acts < 1000000) :
    Calls Try.prog 19 #[.pointer (some ⟨b, 0, none⟩)] w fun e w' => e = .returned (.int .i64 (if s.left = some 0 then 30 else 0)) ∧ (∃ v', LDAt w' b (if s.left = some 0 then s else ⟨s.now, s.now, [], s.acts + 1, s.left.map (· - 1)⟩) g o g2 o2 n c c2 v' av) ∧ Keep av w w' := by
  have H := Lib.hid h
  clear h
  by_cases hl : s.left = some 0
  · have P := Lib.hid ((lPowerless_any w b s g o g2 o2 n c c2 v av H.out).mono fun e w' h => show e = .returned (.int .i64 30) ∧ w' = w by rw [if_pos hl] at h; exact h)
    rw [if_pos hl, if_pos hl]
    clear hl hnow
    go_enter Try.func19, Try.ntmps19
    go_wp2_with fail
    refine P.out.mono ?_
    rintro e w1 ⟨rfl, rfl⟩
    go_wp2_with fail
    go_ret
    exact ⟨rfl, ⟨_, H.out⟩, Keep.refl _ _⟩
  · have P := Lib.hid ((lPowerless_any w b s g o g2 o2 n c c2 v av H.out).mono fun e w' h => show e = .returned (.int .i64 0) ∧ w' = w by rw [if_neg hl] at h; exact h)
    rw [if_neg hl, if_neg hl]
    have HL := Lib.hid hl
    have HN := Lib.hid hnow
    clear hl hnow
    go_enter Try.func19, Try.ntmps19
    go_wp2_with fail
    refine P.out.mono ?_
    rintro e w1 ⟨rfl, rfl⟩
    go_wp2_with fail
    refine (lSettle_any w1 b s g o g2 o2 n c c2 v av 43 #[] (List.replicate s.wait.length true) (enter_fn Try.func43 (by kernel_rfl) rfl) H.out (fun k w' hk _ => by
      rw [List.getElem?_replicate, if_pos hk]
      exact flush1_any _ _)).mono ?_
    rintro e w2 ⟨rfl, h2, k2⟩
    have H2 : Hid (LDAt w2 b ⟨s.now, s.now, [], s.acts, s.left⟩ g o g2 o2 n c c2 (.slice none 0 0) av) := Lib.hid (by
      have h := h2
      rw [kept_true, ← HN.out] at h
      have e2 : settleN s.now s.wait s.now = s.now := by
        have := settle_now s.safe s.wait (List.replicate s.wait.length true)
        rw [kept_true, ← HN.out] at this
        exact this
      rw [e2] at h
      exact h)
    have K2 := Lib.hid k2
    clear h2 k2
    go_wp2_with fail
    refine (lActed_any w2 b ⟨s.now, s.now, [], s.acts, s.left⟩ g o g2 o2 n c c2 _ av H2.out HL.out ha).mono ?_
    rintro e w3 ⟨rfl, h3, k3⟩
    have H3 := Lib.hid h3
    have K3 := Lib.hid (K2.out.trans k3)
    clear h3 k3
    go_wp2_with fail
    go_ret
    exact ⟨rfl, ⟨_, H3.out⟩, K3.out⟩
theorem Bools.keep {w w' : World} {K : Option Addr} {kl : List Bool} (h : Bools w K kl) (hs : w.heap.size ≤ w'.heap.size) (hk : 0 < kl.length → ∀ b o, K = some ⟨b, o, none⟩ → w'.heap[b]? = w.heap[b]?) : Bools w' K kl := fun h0 => by
  obtain ⟨b, o, e, hb, hc⟩ := h h0
  refine ⟨b, o, e, Nat.lt_of_lt_of_le hb hs, fun i x hx => ?_⟩
  rw [← hc i x hx]; simp [World.cell?, hk h0 b o e]
theorem lCrash_any (K : Option Addr) (km kc : Nat) (kl : List Bool) (h : LDAt w b s g o g2 o2 n c c2 v av) (hkm : km = kl.length) (hK : Bools w K kl) (hKb : 0 < kl.length → ∀ g o, K = some ⟨g, o, none⟩ → av g) :
    Calls Try.prog 21 #[.pointer (some ⟨b, 0, none⟩), .slice K km kc] w fun e w' => e = .returned noResult ∧ LDAt w' b ⟨over s.safe (kept s.wait kl), settleN (over s.safe (kept s.wait kl)) s.wait s.now, [], s.acts, none⟩ g o g2 o2 n c c2 (.slice none 0 0) av ∧ Keep av w w' := by
  have HKM := Lib.hid hkm
  have HK := Lib.hid hK
  have HKB := Lib.hid hKb
  have LB := Lib.hid h.bound
  have B0 := (Below.refl w.heap.size w).alloc (Nat.le_refl _) (.cells #[.slice K km kc] 39)
  have H : Hid (LDAt (w.alloc (.cells #[.slice K km kc] 39)) b s g o g2 o2 n c c2 v (fun i => av i ∨ i = w.heap.size)) := Lib.hid (h.frame B0.size (fun i hi _ => B0.block i hi) (fun i hi => by
    rcases hi with q | rfl
    · exact .inl q
    · exact .inr ⟨Nat.le_refl _, by simp⟩))
  have B1 := Lib.hid B0
  have CB := Lib.hid (cell_of_row _ w.heap.size 0 _ _ (0, 0) (heap_alloc_new w (.cells #[.slice K km kc] 39)))
  have BK : Hid (Bools (w.alloc (.cells #[.slice K km kc] 39)) K kl) := Lib.hid (hK.keep B0.size fun h0 g o e => B0.block g (h.bound g (hKb h0 g o e)))
  clear h hkm hK hKb B0
  go_enter Try.func21, Try.ntmps21
  go_wp2_with fail
  generalize w.alloc (.cells #[.slice K km kc] 39) = w1 at *
  refine (lMade_any w1 b s g o g2 o2 n c c2 v _ H.out).mono ?_
  rintro e w1 ⟨rfl, rfl⟩
  go_wp2_with fail
  refine (lSettle_any w1 b s g o g2 o2 n c c2 v _ 44 #[.pointer (some ⟨w.heap.size, 0, none⟩)] kl (enter_fn Try.func44 (by kernel_rfl) rfl) H.out (fun k w' hk hkp =>
    crash1_any w.heap.size K km kc kl k w' HKM.out (BK.out.keep hkp.size fun h0 g o e => hkp.block g (.inl (HKB.out h0 g o e))) ((hkp.cell (p := ⟨w.heap.size, 0, none⟩) (.inr rfl)).trans (by rw [CB.out]; rfl)) (by have := H.out.ok.2.2.2.1; omega))).mono ?_
  rintro e w2 ⟨rfl, h2, k2⟩
  have H2 := Lib.hid h2
  have K2 := Lib.hid k2
  have f4 := row_frozen (k := 4) h2.cells
  have c4 := h2.c4
  clear h2 k2
  go_wp2_with fail
  have X := Lib.hid (H2.out.upd s.acts none (w' := w2.setCell ⟨b, 4, none⟩ (.int .i64 (-1))) (by rw [heap_setCell_same _ b 4 _ _ _ H2.out.cells]; rfl) (setCell_size _ _ _ _) (fun i hi => setCell_other _ _ _ _ _ hi) H2.out.ok.2.2.2.2 (by simp))
  refine bodyPost_end (results_none Try.results21 _ _ _) rfl ⟨rfl, ?_, ?_⟩
  · exact X.out.frame (Nat.le_refl _) (fun _ _ _ => rfl) fun i hi => .inl (.inl hi)
  · exact (((Keep.of_below B1.out).mono LB.out).trans (K2.out.mono fun i hi => .inl hi)).trans (rKeep (fun q => H2.out.out.1 (.inl q)) _ _)
end
end Go.Proofs.Ytaipcciokhkmnaa
