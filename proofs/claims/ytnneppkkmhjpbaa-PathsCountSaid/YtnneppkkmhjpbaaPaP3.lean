import Derived.Test.YtnneppkkmhjpbaaPaP2
namespace Go.Proofs.Ytnneppkkmhjpbaa
open Go.RowKit Go.Shelf Go.BigFrame

/-! Level, First, Index, and what they stand on. -/
theorem found_yes {n : Int} {p : PtrV} {b : Bool} (h : Found n p b) (h0 : 0 ≤ n ∧ n < 11) : b = true ∧ p = ptrN n.toNat := by
  rcases h with ⟨hb, k, hk, rfl, rfl⟩ | ⟨_, _, hn⟩
  · exact ⟨hb, by simp⟩
  · exact absurd h0 hn
theorem found_no {n : Int} {p : PtrV} {b : Bool} (h : Found n p b) (h0 : ¬ (0 ≤ n ∧ n < 11)) : b = false ∧ p = zeroP := by
  rcases h with ⟨_, k, hk, rfl, _⟩ | ⟨hb, hp, _⟩
  · exact absurd ⟨by omega, by omega⟩ h0
  · exact ⟨hb, hp⟩
theorem ptr_lev {n : Int} (h : 0 ≤ n ∧ n < 11) : (ptrN n.toNat).lev = levelN n := by
  show levelN (n.toNat : Int) = _
  rw [Int.toNat_of_nonneg h.1]
theorem ptr_fst {n : Int} (h : 0 ≤ n ∧ n < 11) : (ptrN n.toNat).fst = firstN n := by
  show begN n.toNat = _
  rcases (by omega : n ≤ 8 ∨ n = 9 ∨ n = 10) with q | rfl | rfl
  · unfold begN firstN
    rw [if_pos (by omega), if_pos (by omega)]
    omega
  · rfl
  · rfl
theorem lev_no {n : Int} (h : ¬ (0 ≤ n ∧ n < 11)) : levelN n = -1 := by
  unfold levelN
  rw [if_neg (by omega), if_neg (by omega)]
theorem fst_no {n : Int} (h : ¬ (0 ≤ n ∧ n < 11)) : firstN n = -1 := by
  unfold firstN
  rw [if_neg (by omega), if_neg (by omega), if_neg (by omega)]
theorem find_yes {n : Int} (h : 0 ≤ n ∧ n < 11) (w : World) : Calls Try.prog 31 #[.int .i64 n] w fun e w' => (∃ nm sp, e = .returned (.tuple #[.agg #[.int .i64 nm, .int .i64 (levelN n), .int .i64 (firstN n), .int .i64 sp], .bool true])) ∧ Below w.heap.size w w' :=
  (pFind n w).mono fun e w' ⟨p, b, he, hf, hb⟩ => by
    obtain ⟨rfl, rfl⟩ := found_yes hf h
    exact ⟨⟨_, _, by rw [he, ← ptr_lev h, ← ptr_fst h]; rfl⟩, hb⟩
theorem find_no {n : Int} (h : ¬ (0 ≤ n ∧ n < 11)) (w : World) : Calls Try.prog 31 #[.int .i64 n] w fun e w' => e = .returned (.tuple #[.agg #[.int .i64 0, .int .i64 0, .int .i64 0, .int .i64 0], .bool false]) ∧ Below w.heap.size w w' :=
  (pFind n w).mono fun e w' ⟨p, b, he, hf, hb⟩ => by
    obtain ⟨rfl, rfl⟩ := found_no hf h
    exact ⟨he, hb⟩
set_option maxRecDepth 100000 in
set_option maxHeartbeats 1000000 in
theorem pLevel (n : Int) (w : World) : Calls Try.prog 16 #[.int .i64 n] w fun e w' => e = .returned (.int .i64 (levelN n)) ∧ Below w.heap.size w w' := by
  by_cases h : 0 ≤ n ∧ n < 11
  · have C : Hid (∀ W, Calls Try.prog 31 #[.int .i64 n] W fun e w' => (∃ nm sp, e = .returned (.tuple #[.agg #[.int .i64 nm, .int .i64 (levelN n), .int .i64 (firstN n), .int .i64 sp], .bool true])) ∧ Below W.heap.size W w') := Lib.hid fun W => find_yes h W
    clear h
    generalize levelN n = lv at C ⊢
    generalize firstN n = fs at C
    go_enter Try.func16, Try.ntmps16
    go_wp2_with (go_at_call 31; with_reducible refine (C.out _).mono ?_; rintro e w2 ⟨⟨nm, sp, rfl⟩, hb⟩)
    go_ret
    exact ⟨rfl, hb.alloc (hb.size) _⟩
  · have C : Hid (∀ W, Calls Try.prog 31 #[.int .i64 n] W fun e w' => e = .returned (.tuple #[.agg #[.int .i64 0, .int .i64 0, .int .i64 0, .int .i64 0], .bool false]) ∧ Below W.heap.size W w') := Lib.hid fun W => find_no h W
    have E := Lib.hid (lev_no h)
    clear h
    go_enter Try.func16, Try.ntmps16
    go_wp2_with (go_at_call 31; with_reducible refine (C.out _).mono ?_; rintro e w2 ⟨rfl, hb⟩)
    go_ret
    exact ⟨by rw [E.out]; rfl, hb.alloc (hb.size) _⟩
set_option maxRecDepth 100000 in
set_option maxHeartbeats 1000000 in
theorem pFirst (n : Int) (w : World) : Calls Try.prog 20 #[.int .i64 n] w fun e w' => e = .returned (.int .i64 (firstN n)) ∧ Below w.heap.size w w' := by
  by_cases h : 0 ≤ n ∧ n < 11
  · have C : Hid (∀ W, Calls Try.prog 31 #[.int .i64 n] W fun e w' => (∃ nm sp, e = .returned (.tuple #[.agg #[.int .i64 nm, .int .i64 (levelN n), .int .i64 (firstN n), .int .i64 sp], .bool true])) ∧ Below W.heap.size W w') := Lib.hid fun W => find_yes h W
    clear h
    generalize levelN n = lv at C
    generalize firstN n = fs at C ⊢
    go_enter Try.func20, Try.ntmps20
    go_wp2_with (go_at_call 31; with_reducible refine (C.out _).mono ?_; rintro e w2 ⟨⟨nm, sp, rfl⟩, hb⟩)
    go_ret
    exact ⟨rfl, hb.alloc (hb.size) _⟩
  · have C : Hid (∀ W, Calls Try.prog 31 #[.int .i64 n] W fun e w' => e = .returned (.tuple #[.agg #[.int .i64 0, .int .i64 0, .int .i64 0, .int .i64 0], .bool false]) ∧ Below W.heap.size W w') := Lib.hid fun W => find_no h W
    have E := Lib.hid (fst_no h)
    clear h
    go_enter Try.func20, Try.ntmps20
    go_wp2_with (go_at_call 31; with_reducible refine (C.out _).mono ?_; rintro e w2 ⟨rfl, hb⟩)
    go_ret
    exact ⟨by rw [E.out]; rfl, hb.alloc (hb.size) _⟩
set_option maxHeartbeats 400000 in
theorem pIsIndex (i : Int) (w : World) : Calls Try.prog 29 #[.int .i64 i] w fun e w' => e = .returned (.bool (decide (MayI i))) ∧ w' = w := by
  by_cases h : 0 ≤ i
  · have d0 : decide (0 ≤ i) = true := decide_eq_true h
    by_cases h1 : i < 65536
    · have d1 : decide (i < 65536) = true := decide_eq_true h1
      have E := Lib.hid (show decide (MayI i) = true from decide_eq_true ⟨h, h1⟩)
      go_enter Try.func29, Try.ntmps29
      go_wp2
      go_ret
      exact ⟨by rw [E.out]; rfl, rfl⟩
    · have d1 : decide (i < 65536) = false := decide_eq_false h1
      have E := Lib.hid (show decide (MayI i) = false from decide_eq_false fun q => h1 q.hi)
      go_enter Try.func29, Try.ntmps29
      go_wp2
      go_ret
      exact ⟨by rw [E.out]; rfl, rfl⟩
  · have d0 : decide (0 ≤ i) = false := decide_eq_false h
    have E := Lib.hid (show decide (MayI i) = false from decide_eq_false fun q => h q.lo)
    go_enter Try.func29, Try.ntmps29
    go_wp2
    go_ret
    exact ⟨by rw [E.out]; rfl, rfl⟩
def clipN (n h : Int) : Int := if n < 0 then 0 else if h < n then h else n
set_option maxHeartbeats 400000 in
theorem pWithin (n b : Int) (w : World) (hb : 0 ≤ b) : Calls Try.prog 33 #[.int .i64 n, .int .i64 b] w fun e w' => e = .returned (.int .i64 (clipN n b)) ∧ w' = w := by
  go_enter Try.func33, Try.ntmps33
  go_wp2
  all_goals go_ret
  all_goals refine ⟨?_, rfl⟩
  all_goals rename_i q
  · rw [if_neg (by omega)] at q
    rw [show clipN n b = b by unfold clipN; rw [if_neg (by omega), if_pos q]]
    rfl
  · rw [show clipN n b = 0 from if_pos h]
    rfl
  · rw [if_neg (by omega)] at q
    rw [show clipN n b = n by unfold clipN; rw [if_neg (by omega), if_neg (by omega)]]
    rfl
/-- How many blocks lie l levels above so many; and all of these together. -/
def upN (n : Int) : Nat → Int
  | 0 => n
  | l + 1 => (upN n l + 63) / 64
def sumN (n : Int) : Nat → Int
  | 0 => 0
  | l + 1 => sumN n l + upN n (l + 1)
theorem up_fits {n : Int} (h0 : 0 ≤ n) (h1 : n ≤ 262144) : ∀ l : Nat, 0 ≤ upN n l ∧ upN n l ≤ 262144
  | 0 => ⟨h0, h1⟩
  | l + 1 => by
    have := up_fits h0 h1 l
    show 0 ≤ (upN n l + 63) / 64 ∧ (upN n l + 63) / 64 ≤ 262144
    omega
theorem sum_fits {n : Int} (h0 : 0 ≤ n) (h1 : n ≤ 262144) : ∀ l : Nat, 0 ≤ sumN n l ∧ sumN n l ≤ 262144 * l
  | 0 => ⟨Int.le_refl _, by show (0 : Int) ≤ _; omega⟩
  | l + 1 => by
    have := sum_fits h0 h1 l
    have := up_fits h0 h1 (l + 1)
    show 0 ≤ sumN n l + upN n (l + 1) ∧ sumN n l + upN n (l + 1) ≤ 262144 * ((l + 1 : Nat) : Int)
    omega
set_option maxRecDepth 100000 in
set_option maxHeartbeats 1000000 in
theorem pAbove (n : Int) (l : Nat) (w : World) (h0 : 0 ≤ n) (h1 : n ≤ 262144) (hl : l ≤ 3) : Calls Try.prog 34 #[.int .i64 n, .int .i64 l] w fun e w' => e = .returned (.int .i64 (sumN n l)) ∧ w' = w := by
  have HU := Lib.hid (up_fits h0 h1)
  have HS := Lib.hid (sum_fits h0 h1)
  clear h0 h1
  go_enter Try.func34, Try.ntmps34
  go_wp2_with fail
  go_loop [0, 5, 7] (fun bv nv iv => ∃ k : Nat, k ≤ l ∧ iv = .int .i64 k ∧ bv = .int .i64 (upN n k) ∧ nv = .int .i64 (sumN n k)) (fun _ _ iv => 4 - (intOf iv).toNat)
  case atStart => exact ⟨0, by omega, rfl, rfl, rfl⟩
  case round =>
    obtain ⟨k, hk, rfl, rfl, rfl⟩ := hrel
    by_cases hlt : k < l
    · have t1 : decide ((k : Int) < l) = true := decide_eq_true (by omega)
      have u1 := HU.out k
      have s1 := HS.out k
      have HX := Lib.hid (show (upN n k + 63) / 64 = upN n (k + 1) ∧ sumN n k + upN n (k + 1) = sumN n (k + 1) from ⟨rfl, rfl⟩)
      have u2 := HU.out (k + 1)
      generalize upN n k = v at HX u1 ⊢
      generalize sumN n k = s at HX s1 ⊢
      go_wp2
      have e1 : (v + 64 - 1) / 64 = upN n (k + 1) := by rw [← HX.out.1]; congr 1; omega
      refine ⟨⟨k + 1, by omega, by go_num, by rw [e1], by rw [e1, ← HX.out.2]⟩, ?_⟩
      simp [intOf]; omega
    · have t1 : decide ((k : Int) < l) = false := decide_eq_false (by omega)
      have HE := Lib.hid (show k = l by omega)
      go_wp2
      go_ret
      exact ⟨by rw [← HE.out]; rfl, rfl⟩
/-- The blocks that hang on a pointer, if a file has so many. -/
def hangN (n : Int) (k : Nat) : Int := sumN (clipN (n - (ptrN k).fst) (ptrN k).spn) (ptrN k).lev.toNat
def allN (n : Int) : Nat → Int
  | 0 => 0
  | k + 1 => allN n k + hangN n k
theorem hang_low {n : Int} {k : Nat} (h : k ≤ 7) : hangN n k = 0 := by
  unfold hangN
  rw [ptr_low h]
  rfl
theorem all_low {n : Int} : ∀ k : Nat, k ≤ 8 → allN n k = 0
  | 0, _ => rfl
  | k + 1, h => by
    show allN n k + hangN n k = 0
    rw [all_low k (by omega), hang_low (by omega)]
    rfl
theorem all_eleven (n : Int) : allN (clipN n 65536) 11 = indirN n := by
  obtain ⟨c, hc⟩ : ∃ c, clipN n 65536 = c := ⟨_, rfl⟩
  rw [hc]
  have h8 : hangN c 8 = (clipN (c - 8) 64 + 63) / 64 := by
    show 0 + (clipN (c - 8) 64 + 63) / 64 = _
    omega
  have h9 : hangN c 9 = (clipN (c - 72) 4096 + 63) / 64 + ((clipN (c - 72) 4096 + 63) / 64 + 63) / 64 := by
    show 0 + (clipN (c - 72) 4096 + 63) / 64 + ((clipN (c - 72) 4096 + 63) / 64 + 63) / 64 = _
    omega
  have h10 : hangN c 10 = (clipN (c - 4168) 262144 + 63) / 64 + ((clipN (c - 4168) 262144 + 63) / 64 + 63) / 64 + (((clipN (c - 4168) 262144 + 63) / 64 + 63) / 64 + 63) / 64 := by
    show 0 + (clipN (c - 4168) 262144 + 63) / 64 + ((clipN (c - 4168) 262144 + 63) / 64 + 63) / 64 + (((clipN (c - 4168) 262144 + 63) / 64 + 63) / 64 + 63) / 64 = _
    omega
  have ha : allN c 11 = hangN c 8 + hangN c 9 + hangN c 10 := by
    show allN c 8 + hangN c 8 + hangN c 9 + hangN c 10 = _
    rw [all_low 8 (Nat.le_refl _)]
    omega
  rw [ha, h8, h9, h10]
  clear ha h8 h9 h10
  unfold clipN at hc
  split at hc
  · subst hc
    rw [show indirN n = 0 from if_pos (by omega)]
    decide
  · split at hc
    · subst hc
      rw [show indirN n = indirN.indirN0 by unfold indirN; rw [if_neg (by omega), if_neg (by omega), if_neg (by omega), if_neg (by omega)]]
      decide
    · subst hc
      by_cases q1 : n ≤ 8
      · rw [show indirN n = 0 from if_pos q1]
        unfold clipN
        repeat' split
        all_goals omega
      · by_cases q2 : n ≤ 72
        · rw [show indirN n = 1 by unfold indirN; rw [if_neg q1, if_pos q2]]
          unfold clipN
          repeat' split
          all_goals omega
        · by_cases q3 : n ≤ 4168
          · rw [show indirN n = 2 + (n - 9) / 64 by unfold indirN; rw [if_neg q1, if_neg q2, if_pos q3]]
            unfold clipN
            repeat' split
            all_goals omega
          · rw [show indirN n = 67 + (n - 73) / 4096 + (n - 4105) / 64 by unfold indirN; rw [if_neg q1, if_neg q2, if_neg q3, if_pos (by omega)]]
            unfold clipN
            repeat' split
            all_goals omega
end Go.Proofs.Ytnneppkkmhjpbaa
