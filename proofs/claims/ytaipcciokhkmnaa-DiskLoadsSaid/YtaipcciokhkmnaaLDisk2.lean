import Derived.Test.YtaipcciokhkmnaaLDisk
namespace Go.Proofs.Ytaipcciokhkmnaa
open Go.RowKit

theorem ldisk_under : Try.prog.underlying 45 = some (.struct (Try.prog.fieldsOf 45)) := by kernel_rfl
section
variable (w : World) (b : Nat) (s : LS) (g o g2 o2 n c c2 : Nat) (v : Value) (av : Av)
theorem LDAt.c0 {w : World} {b : Nat} {s : LS} {g o g2 o2 n c c2 : Nat} {v : Value} {av : Av} (h : LDAt w b s g o g2 o2 n c c2 v av) : w.cell? ⟨b, 0, none⟩ = some (.slice (some ⟨g, o, none⟩) n c) := (cell_of_row w b 0 _ _ (0, 0) h.cells).trans (by rfl)
theorem LDAt.c1 {w : World} {b : Nat} {s : LS} {g o g2 o2 n c c2 : Nat} {v : Value} {av : Av} (h : LDAt w b s g o g2 o2 n c c2 v av) : w.cell? ⟨b, 1, none⟩ = some (.slice (some ⟨g2, o2, none⟩) n c2) := (cell_of_row w b 1 _ _ (0, 0) h.cells).trans (by rfl)
theorem LDAt.c2' {w : World} {b : Nat} {s : LS} {g o g2 o2 n c c2 : Nat} {v : Value} {av : Av} (h : LDAt w b s g o g2 o2 n c c2 v av) : w.cell? ⟨b, 2, none⟩ = some v := (cell_of_row w b 2 _ _ (0, 0) h.cells).trans (by rfl)
theorem LDAt.c3 {w : World} {b : Nat} {s : LS} {g o g2 o2 n c c2 : Nat} {v : Value} {av : Av} (h : LDAt w b s g o g2 o2 n c c2 v av) : w.cell? ⟨b, 3, none⟩ = some (.int .i64 (s.acts : Nat)) := (cell_of_row w b 3 _ _ (0, 0) h.cells).trans (by rfl)
theorem LDAt.c4 {w : World} {b : Nat} {s : LS} {g o g2 o2 n c c2 : Nat} {v : Value} {av : Av} (h : LDAt w b s g o g2 o2 n c c2 v av) : w.cell? ⟨b, 4, none⟩ = some (.int .i64 (leftOf s.left)) := (cell_of_row w b 4 _ _ (0, 0) h.cells).trans (by rfl)
theorem lMade_any (h : LDAt w b s g o g2 o2 n c c2 v av) :
    Calls Try.prog 30 #[.pointer (some ⟨b, 0, none⟩)] w fun e w' => e = .returned (.bool true) ∧ w' = w := by
  have c0 := h.c0
  have h1 : (0 : Int) < n := by have := h.ok.1; omega
  have t0 : decide ((0 : Int) < n) = true := by simp; omega
  have t1 : decide (0 < n) = true := by simp; omega
  clear h
  go_enter Try.func30, Try.ntmps30
  go_wp2
  go_ret
  exact ⟨rfl, rfl⟩
theorem lDead_any (h : LDAt w b s g o g2 o2 n c c2 v av) :
    Calls Try.prog 22 #[.pointer (some ⟨b, 0, none⟩)] w fun e w' => e = .returned (.bool (s.left == some 0)) ∧ w' = w := by
  have H := Lib.hid h
  have c4 := h.c4
  have E : Hid ((leftOf s.left == 0) = (s.left == some 0)) := Lib.hid (left_dead ⟨[], [], 0, s.left⟩)
  clear h
  go_enter Try.func22, Try.ntmps22
  go_wp2_with fail
  refine (lMade_any w b s g o g2 o2 n c c2 v av H.out).mono ?_
  rintro e w1 ⟨rfl, rfl⟩
  go_wp2_with fail
  go_ret
  exact ⟨by show Ending.returned (.bool (leftOf s.left == 0)) = _; rw [E.out], rfl⟩
theorem lPowerless_any (h : LDAt w b s g o g2 o2 n c c2 v av) :
    Calls Try.prog 41 #[.pointer (some ⟨b, 0, none⟩)] w fun e w' => e = .returned (.int .i64 (if s.left = some 0 then 30 else 0)) ∧ w' = w := by
  have H := Lib.hid h
  clear h
  by_cases hl : s.left = some 0
  · have E : Hid ((s.left == some 0) = true) := Lib.hid (by rw [hl]; rfl)
    rw [if_pos hl]
    clear hl
    go_enter Try.func41, Try.ntmps41
    go_wp2_with fail
    refine (lMade_any w b s g o g2 o2 n c c2 v av H.out).mono ?_
    rintro e w1 ⟨rfl, rfl⟩
    go_wp2_with fail
    refine (lDead_any w1 b s g o g2 o2 n c c2 v av H.out).mono ?_
    rintro e w1 ⟨rfl, rfl⟩
    rw [E.out]
    go_wp2_with fail
    go_ret
    exact ⟨rfl, rfl⟩
  · have E : Hid ((s.left == some 0) = false) := Lib.hid (by simp [hl])
    rw [if_neg hl]
    clear hl
    go_enter Try.func41, Try.ntmps41
    go_wp2_with fail
    refine (lMade_any w b s g o g2 o2 n c c2 v av H.out).mono ?_
    rintro e w1 ⟨rfl, rfl⟩
    go_wp2_with fail
    refine (lDead_any w1 b s g o g2 o2 n c c2 v av H.out).mono ?_
    rintro e w1 ⟨rfl, rfl⟩
    rw [E.out]
    go_wp2_with fail
    go_ret
    exact ⟨rfl, rfl⟩
def errOf (s : LS) (p : Int) : Int := if s.left = some 0 then 30 else if p < 0 ∨ (s.safe.length : Int) ≤ p then 2 else 0
theorem errOf_ls (s : DS) (p : Int) : errOf (lsOf s) p = s.err p := by
  unfold errOf DS.err DS.dead lsOf
  cases h : s.left with
  | none => simp
  | some k => cases k <;> simp
theorem lRefusal_any (p : Int) (h : LDAt w b s g o g2 o2 n c c2 v av) :
    Calls Try.prog 39 #[.pointer (some ⟨b, 0, none⟩), .int .i64 p] w fun e w' => e = .returned (.int .i64 (errOf s p)) ∧ w' = w := by
  have H := Lib.hid h
  have c0 := h.c0
  have HN := Lib.hid h.len
  clear h
  by_cases hl : s.left = some 0
  · have E : Hid (errOf s p = 30) := Lib.hid (by unfold errOf; rw [if_pos hl])
    have P := Lib.hid ((lPowerless_any w b s g o g2 o2 n c c2 v av H.out).mono fun e w' h => show e = .returned (.int .i64 30) ∧ w' = w by rw [if_pos hl] at h; exact h)
    clear hl
    go_enter Try.func39, Try.ntmps39
    go_wp2_with fail
    refine P.out.mono ?_
    rintro e w1 ⟨rfl, rfl⟩
    go_wp2_with fail
    go_ret
    exact ⟨by rw [E.out]; rfl, rfl⟩
  · have P := Lib.hid ((lPowerless_any w b s g o g2 o2 n c c2 v av H.out).mono fun e w' h => show e = .returned (.int .i64 0) ∧ w' = w by rw [if_neg hl] at h; exact h)
    by_cases h0 : p < 0
    · have t0 : decide (p < 0) = true := by simp; omega
      have E : Hid (errOf s p = 2) := Lib.hid (by unfold errOf; rw [if_neg hl, if_pos (.inl h0)])
      clear hl h0
      go_enter Try.func39, Try.ntmps39
      go_wp2_with fail
      refine P.out.mono ?_
      rintro e w1 ⟨rfl, rfl⟩
      go_wp2_with fail
      go_ret
      exact ⟨by rw [E.out]; rfl, rfl⟩
    · have t0 : decide (p < 0) = false := by simp; omega
      by_cases h1 : (n : Int) ≤ p
      · have t1 : decide ((n : Int) ≤ p) = true := by simp; omega
        have E : Hid (errOf s p = 2) := Lib.hid (by unfold errOf; rw [if_neg hl, if_pos (.inr (by rw [← HN.out]; exact h1))])
        clear hl h0 h1
        go_enter Try.func39, Try.ntmps39
        go_wp2_with fail
        refine P.out.mono ?_
        rintro e w1 ⟨rfl, rfl⟩
        go_wp2_with fail
        go_ret
        exact ⟨by rw [E.out]; rfl, rfl⟩
      · have t1 : decide ((n : Int) ≤ p) = false := by simp; omega
        have E : Hid (errOf s p = 0) := Lib.hid (by unfold errOf; rw [if_neg hl, if_neg (by rw [← HN.out]; omega)])
        obtain ⟨k, rfl⟩ := Int.eq_ofNat_of_zero_le (show 0 ≤ p by omega)
        have t2 : decide (n ≤ k) = false := by simp; omega
        clear hl h0 h1
        go_enter Try.func39, Try.ntmps39
        go_wp2_with fail
        refine P.out.mono ?_
        rintro e w1 ⟨rfl, rfl⟩
        go_wp2_with fail
        go_ret
        exact ⟨by rw [E.out]; rfl, rfl⟩
theorem lBlocks_any (h : LDAt w b s g o g2 o2 n c c2 v av) :
    Calls Try.prog 23 #[.pointer (some ⟨b, 0, none⟩)] w fun e w' => e = .returned (.int .i64 (n : Nat)) ∧ w' = w := by
  have H := Lib.hid h
  have c0 := h.c0
  clear h
  go_enter Try.func23, Try.ntmps23
  go_wp2_with fail
  refine (lMade_any w b s g o g2 o2 n c c2 v av H.out).mono ?_
  rintro e w1 ⟨rfl, rfl⟩
  go_wp2_with fail
  go_ret
  exact ⟨rfl, rfl⟩
theorem lWaiting_any (A : Option Addr) (cv : Nat) (h : LDAt w b s g o g2 o2 n c c2 (.slice A s.wait.length cv) av) :
    Calls Try.prog 24 #[.pointer (some ⟨b, 0, none⟩)] w fun e w' => e = .returned (.int .i64 (s.wait.length : Nat)) ∧ w' = w := by
  have H := Lib.hid h
  have c2 := h.c2'
  clear h
  go_enter Try.func24, Try.ntmps24
  go_wp2_with fail
  refine (lMade_any w b s g o g2 o2 n c _ _ av H.out).mono ?_
  rintro e w1 ⟨rfl, rfl⟩
  go_wp2_with fail
  go_ret
  exact ⟨rfl, rfl⟩
theorem lActs_any (h : LDAt w b s g o g2 o2 n c c2 v av) :
    Calls Try.prog 25 #[.pointer (some ⟨b, 0, none⟩)] w fun e w' => e = .returned (.int .i64 (s.acts : Nat)) ∧ w' = w := by
  have H := Lib.hid h
  have c3 := h.c3
  clear h
  go_enter Try.func25, Try.ntmps25
  go_wp2_with fail
  refine (lMade_any w b s g o g2 o2 n c c2 v av H.out).mono ?_
  rintro e w1 ⟨rfl, rfl⟩
  go_wp2_with fail
  go_ret
  exact ⟨rfl, rfl⟩
theorem lPower_any (p : Int) (h : LDAt w b s g o g2 o2 n c c2 v av) (hp : p ≤ 9223372036854775807) :
    Calls Try.prog 20 #[.pointer (some ⟨b, 0, none⟩), .int .i64 p] w fun e w' => e = .returned noResult ∧ LDAt w' b { s with left := if p < 0 then none else some p.toNat } g o g2 o2 n c c2 v av ∧ Keep av w w' := by
  have H := Lib.hid h
  have f4 := row_frozen (k := 4) h.cells
  have c4 := h.c4
  clear h
  have E : Hid ((if -1 > p then -1 else p) = leftOf (if p < 0 then none else some p.toNat)) := Lib.hid (by
    by_cases h0 : p < 0
    · rw [if_pos h0]; unfold leftOf; dsimp only; split <;> omega
    · rw [if_neg h0, if_neg (by omega)]; unfold leftOf; dsimp only; omega)
  have E2 : Hid (∀ k, (if p < 0 then none else some p.toNat) = some k → k ≤ 9223372036854775807) := Lib.hid (by
    intro k; split
    · simp
    · intro h; cases h; omega)
  generalize (if p < 0 then none else some p.toNat) = L at E E2 ⊢
  obtain ⟨q, hq⟩ : ∃ q, (if -1 > p then (-1 : Int) else p) = q := ⟨_, rfl⟩
  have HQ := Lib.hid (hq.symm.trans E.out)
  clear E
  go_enter Try.func20, Try.ntmps20
  go_wp2_with fail
  refine (lMade_any w b s g o g2 o2 n c c2 v av H.out).mono ?_
  rintro e w1 ⟨rfl, rfl⟩
  go_wp2_with fail
  all_goals
    refine bodyPost_end (results_none Try.results20 _ _ _) rfl ⟨rfl, ?_, rKeep H.out.out.1 _ _⟩
    refine H.out.upd s.acts L ?_ ?_ ?_ H.out.ok.2.2.2.2 E2.out
    · rw [heap_setCell_same _ b 4 _ _ _ H.out.cells, ← HQ.out, ← hq]; first | rfl | (rw [if_pos (by omega)]; rfl) | (rw [if_neg (by omega)]; rfl)
    · rw [setCell_size]
    · intro i hi; rw [setCell_other _ _ _ _ _ hi]
theorem lActed_any (h : LDAt w b s g o g2 o2 n c c2 v av) (hd : s.left ≠ some 0) (ha : s.acts < 1000000) :
    Calls Try.prog 40 #[.pointer (some ⟨b, 0, none⟩)] w fun e w' => e = .returned noResult ∧ LDAt w' b { s with acts := s.acts + 1, left := s.left.map (· - 1) } g o g2 o2 n c c2 v av ∧ Keep av w w' := by
  have c3 := h.c3
  have c4 := h.c4
  have f3 := row_frozen (k := 3) h.cells
  have f4 := row_frozen (k := 4) h.cells
  have H := Lib.hid h
  clear h
  cases hl : s.left with
  | none =>
    rw [hl] at c4
    clear hd
    have c5 : leftOf none = -1 := rfl
    rw [c5] at c4
    have HL := Lib.hid hl
    clear hl
    go_enter Try.func40, Try.ntmps40
    go_wp2
    refine bodyPost_end (results_none Try.results40 _ _ _) rfl ⟨rfl, ?_, rKeep H.out.out.1 _ _⟩
    refine H.out.upd (s.acts + 1) none ?_ ?_ ?_ (by omega) (by simp)
    · rw [heap_setCell_same _ b 3 _ _ _ H.out.cells, HL.out]; rfl
    · rw [setCell_size]
    · intro i hi; rw [setCell_other _ _ _ _ _ hi]
  | some k =>
    rw [hl] at c4
    have hk : 0 < k := by rcases Nat.eq_zero_or_pos k with q | q; subst q; exact absurd hl hd; exact q
    have hk2 := H.out.lo k hl
    have HL := Lib.hid hl
    clear hl hd
    have c5 : leftOf (some k) = (k : Nat) := rfl
    have c6 : leftOf (some (k - 1)) = (k : Int) - 1 := by unfold leftOf; dsimp only; omega
    rw [c5] at c4
    have t0 : ((k : Int) != -1) = true := by rw [bne_iff_ne]; omega
    have t1 : ((k : Int) == -1) = false := by rw [beq_eq_false_iff_ne]; omega
    go_enter Try.func40, Try.ntmps40
    go_wp2
    refine bodyPost_end (results_none Try.results40 _ _ _) rfl ⟨rfl, ?_, (rKeep H.out.out.1 _ _).trans (rKeep H.out.out.1 _ _)⟩
    refine H.out.upd (s.acts + 1) (some (k - 1)) ?_ ?_ ?_ (by omega) (by intro q hq; cases hq; omega)
    · rw [heap_setCell_same _ b 4 _ _ _ (heap_setCell_same _ b 3 _ _ _ H.out.cells), c6]; rfl
    · rw [setCell_size, setCell_size]
    · intro i hi; rw [setCell_other _ _ _ _ _ hi, setCell_other _ _ _ _ _ hi]
end
end Go.Proofs.Ytaipcciokhkmnaa
