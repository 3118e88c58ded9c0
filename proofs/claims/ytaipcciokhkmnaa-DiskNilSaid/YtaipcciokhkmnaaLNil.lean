import Derived.Test.YtaipcciokhkmnaaLDisk8
namespace Go.Proofs.Ytaipcciokhkmnaa
open Go.RowKit

/-! A disk that nobody made: nil, or one of the zero value. -/
def Nob (w : World) (v : Value) : Prop := v = .pointer none ∨ ∃ b, v = .pointer (some ⟨b, 0, none⟩) ∧ w.heap[b]? = some (.cells #[.slice none 0 0, .slice none 0 0, .slice none 0 0, .int .i64 0, .int .i64 0] 45 (0, 0))
theorem Nob.below {w w' : World} {v : Value} (h : Nob w v) (hb : Below w.heap.size w w') : Nob w' v := by
  rcases h with h | ⟨b, e, hc⟩
  · exact .inl h
  · refine .inr ⟨b, e, (hb.block b ?_).trans hc⟩
    rcases Nat.lt_or_ge b w.heap.size with q | q
    · exact q
    · rw [Array.getElem?_eq_none q] at hc; cases hc
section
variable (w : World) (v : Value)
theorem nMade_any (h : Nob w v) : Calls Try.prog 30 #[v] w fun e w' => e = .returned (.bool false) ∧ w' = w := by
  rcases h with rfl | ⟨b, rfl, hc⟩
  · go_enter Try.func30, Try.ntmps30
    go_wp2
    go_ret
    exact ⟨rfl, rfl⟩
  · have c0 := (cell_of_row w b 0 _ _ (0, 0) hc).trans (by rfl : _ = some (Value.slice none 0 0))
    clear hc
    go_enter Try.func30, Try.ntmps30
    go_wp2
    go_ret
    exact ⟨rfl, rfl⟩
theorem nPowerless_any (h : Nob w v) : Calls Try.prog 41 #[v] w fun e w' => e = .returned (.int .i64 1) ∧ w' = w := by
  have H := Lib.hid (nMade_any w v h)
  clear h
  go_enter Try.func41, Try.ntmps41
  go_wp2_with fail
  refine H.out.mono ?_
  rintro e w1 ⟨rfl, rfl⟩
  go_wp2_with fail
  go_ret
  exact ⟨rfl, rfl⟩
theorem nRefusal_any (p : Int) (h : Nob w v) : Calls Try.prog 39 #[v, .int .i64 p] w fun e w' => e = .returned (.int .i64 1) ∧ w' = w := by
  have H := Lib.hid (nPowerless_any w v h)
  clear h
  go_enter Try.func39, Try.ntmps39
  go_wp2_with fail
  refine H.out.mono ?_
  rintro e w1 ⟨rfl, rfl⟩
  go_wp2_with fail
  go_ret
  exact ⟨rfl, rfl⟩
set_option maxRecDepth 100000 in
theorem nRead_any (p : Int) (h : Nob w v) : Calls Try.prog 17 #[v, .int .i64 p] w fun e w' => e = .returned (.tuple #[.agg (arr .zero), .int .i64 1]) ∧ Below w.heap.size w w' := by
  have hz := fun W => zero_blk W
  have B1 := Lib.hid ((Below.refl w.heap.size w).alloc (Nat.le_refl _) (.cells (arr .zero) 26))
  have H := Lib.hid (nRefusal_any _ v p (h.below B1.out))
  clear h
  go_enter Try.func17, Try.ntmps17
  go_wp2_with fail
  refine H.out.mono ?_
  rintro e w1 ⟨rfl, rfl⟩
  go_wp2_with (first
    | (refine build_zero_w rfl rfl ?_)
    | (refine store_row rfl (.tmp 4) (.tmp 12) rfl w.heap.size .zero .zero 26 rfl rfl (heap_alloc_new w _) ?_))
  exact bodyPost_ret (v := .tuple #[.agg (arr .zero), .int .i64 1]) (results_blk_tmp Try.results17 _ _ w.heap.size .zero _ rfl (setRow_heap _ _ _ _ _ _ (heap_alloc_new w _))) rfl ⟨rfl, below_setRow B1.out (Nat.le_refl _) _⟩
theorem nWrite_any (p : Int) (X : Blk) (h : Nob w v) : Calls Try.prog 18 #[v, .int .i64 p, .agg (arr X)] w fun e w' => e = .returned (.int .i64 1) ∧ Below w.heap.size w w' := by
  have B1 := Lib.hid ((Below.refl w.heap.size w).alloc (Nat.le_refl _) (.cells (arr X) 26))
  have H := Lib.hid (nRefusal_any _ v p (h.below B1.out))
  clear h
  go_enter Try.func18, Try.ntmps18
  go_wp2_with fail
  refine H.out.mono ?_
  rintro e w1 ⟨rfl, rfl⟩
  go_wp2_with fail
  go_ret
  exact ⟨rfl, B1.out⟩
theorem nFlush_any (h : Nob w v) : Calls Try.prog 19 #[v] w fun e w' => e = .returned (.int .i64 1) ∧ w' = w := by
  have H := Lib.hid (nPowerless_any w v h)
  clear h
  go_enter Try.func19, Try.ntmps19
  go_wp2_with fail
  refine H.out.mono ?_
  rintro e w1 ⟨rfl, rfl⟩
  go_wp2_with fail
  go_ret
  exact ⟨rfl, rfl⟩
theorem nPower_any (p : Int) (h : Nob w v) : Calls Try.prog 20 #[v, .int .i64 p] w fun e w' => e = .returned noResult ∧ w' = w := by
  have H := Lib.hid (nMade_any w v h)
  clear h
  go_enter Try.func20, Try.ntmps20
  go_wp2_with fail
  refine H.out.mono ?_
  rintro e w1 ⟨rfl, rfl⟩
  go_wp2_with fail
  exact bodyPost_end (results_none Try.results20 _ _ _) rfl ⟨rfl, rfl⟩
theorem nCrash_any (K : Option Addr) (m c : Nat) (h : Nob w v) : Calls Try.prog 21 #[v, .slice K m c] w fun e w' => e = .returned noResult ∧ Below w.heap.size w w' := by
  have B1 := Lib.hid ((Below.refl w.heap.size w).alloc (Nat.le_refl _) (.cells #[.slice K m c] 39))
  have H := Lib.hid (nMade_any _ v (h.below B1.out))
  clear h
  go_enter Try.func21, Try.ntmps21
  go_wp2_with fail
  refine H.out.mono ?_
  rintro e w1 ⟨rfl, rfl⟩
  go_wp2_with fail
  first
    | exact bodyPost_end (results_none Try.results21 _ _ _) rfl ⟨rfl, B1.out⟩
    | exact bodyPost_ret (results_none Try.results21 _ _ _) rfl ⟨rfl, B1.out⟩
theorem nDead_any (h : Nob w v) : Calls Try.prog 22 #[v] w fun e w' => e = .returned (.bool false) ∧ w' = w := by
  have H := Lib.hid (nMade_any w v h)
  clear h
  go_enter Try.func22, Try.ntmps22
  go_wp2_with fail
  refine H.out.mono ?_
  rintro e w1 ⟨rfl, rfl⟩
  go_wp2_with fail
  go_ret
  exact ⟨rfl, rfl⟩
theorem nBlocks_any (h : Nob w v) : Calls Try.prog 23 #[v] w fun e w' => e = .returned (.int .i64 0) ∧ w' = w := by
  have H := Lib.hid (nMade_any w v h)
  clear h
  go_enter Try.func23, Try.ntmps23
  go_wp2_with fail
  refine H.out.mono ?_
  rintro e w1 ⟨rfl, rfl⟩
  go_wp2_with fail
  go_ret
  exact ⟨rfl, rfl⟩
theorem nWaiting_any (h : Nob w v) : Calls Try.prog 24 #[v] w fun e w' => e = .returned (.int .i64 0) ∧ w' = w := by
  have H := Lib.hid (nMade_any w v h)
  clear h
  go_enter Try.func24, Try.ntmps24
  go_wp2_with fail
  refine H.out.mono ?_
  rintro e w1 ⟨rfl, rfl⟩
  go_wp2_with fail
  go_ret
  exact ⟨rfl, rfl⟩
theorem nActs_any (h : Nob w v) : Calls Try.prog 25 #[v] w fun e w' => e = .returned (.int .i64 0) ∧ w' = w := by
  have H := Lib.hid (nMade_any w v h)
  clear h
  go_enter Try.func25, Try.ntmps25
  go_wp2_with fail
  refine H.out.mono ?_
  rintro e w1 ⟨rfl, rfl⟩
  go_wp2_with fail
  go_ret
  exact ⟨rfl, rfl⟩
theorem nImage_any (h : Nob w v) : Calls Try.prog 13 #[v] w fun e w' => e = .returned (.slice none 0 0) ∧ w' = w := by
  have H := Lib.hid (nMade_any w v h)
  clear h
  go_enter Try.func13, Try.ntmps13
  go_wp2_with fail
  refine H.out.mono ?_
  rintro e w1 ⟨rfl, rfl⟩
  go_wp2_with fail
  go_ret
  exact ⟨rfl, rfl⟩
theorem nSafe_any (h : Nob w v) : Calls Try.prog 14 #[v] w fun e w' => e = .returned (.slice none 0 0) ∧ w' = w := by
  have H := Lib.hid (nMade_any w v h)
  clear h
  go_enter Try.func14, Try.ntmps14
  go_wp2_with fail
  refine H.out.mono ?_
  rintro e w1 ⟨rfl, rfl⟩
  go_wp2_with fail
  go_ret
  exact ⟨rfl, rfl⟩
end
end Go.Proofs.Ytaipcciokhkmnaa
