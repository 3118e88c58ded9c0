import Derived.Test.YtkolpdllogpklaaCaP7
namespace Go.Proofs.Ytkolpdllogpklaa
open Go.RowKit

/-! A cache that nobody made: nil, or one of the zero value. -/
def Noc (w : World) (v : Value) : Prop := v = .pointer none ∨ ∃ b, v = .pointer (some ⟨b, 0, none⟩) ∧ w.heap[b]? = some (.cells #[.pointer none, .map none, .map none] 38 (0, 0))
theorem Noc.below {w w' : World} {v : Value} (h : Noc w v) (hb : Below w.heap.size w w') : Noc w' v := by
  rcases h with h | ⟨b, e, hc⟩
  · exact .inl h
  · refine .inr ⟨b, e, (hb.block b ?_).trans hc⟩
    rcases Nat.lt_or_ge b w.heap.size with q | q
    · exact q
    · rw [Array.getElem?_eq_none q] at hc; cases hc
section
variable (w : World) (v : Value)
theorem ncMade (h : Noc w v) : Calls Try.prog 34 #[v] w fun e w' => e = .returned (.bool false) ∧ w' = w := by
  rcases h with rfl | ⟨b, rfl, hc⟩
  · go_enter Try.func34, Try.ntmps34
    go_wp2
    go_ret
    exact ⟨rfl, rfl⟩
  · have c0 := (cell_of_row w b 0 _ _ (0, 0) hc).trans (by rfl : _ = some (Value.pointer none))
    clear hc
    go_enter Try.func34, Try.ntmps34
    go_wp2
    go_ret
    exact ⟨rfl, rfl⟩
theorem ncRefusal (p : Int) (h : Noc w v) : Calls Try.prog 33 #[v, .int .i64 p] w fun e w' => e = .returned (.int .i64 1) ∧ w' = w := by
  have H := Lib.hid (ncMade w v h)
  clear h
  go_enter Try.func33, Try.ntmps33
  go_wp2_with fail
  refine H.out.mono ?_
  rintro e w1 ⟨rfl, rfl⟩
  go_wp2_with fail
  go_ret
  exact ⟨rfl, rfl⟩
set_option maxRecDepth 100000 in
theorem ncRead (p : Int) (h : Noc w v) : Calls Try.prog 10 #[v, .int .i64 p] w fun e w' => e = .returned (.tuple #[.agg (arr .zero), .int .i64 1]) ∧ Below w.heap.size w w' := by
  have hz := fun W => zero_blk W
  have B1 := Lib.hid ((Below.refl w.heap.size w).alloc (Nat.le_refl _) (.cells (arr .zero) 41))
  have H := Lib.hid (ncRefusal _ v p (h.below B1.out))
  clear h
  go_enter Try.func10, Try.ntmps10
  go_wp2_with fail
  refine H.out.mono ?_
  rintro e w1 ⟨rfl, rfl⟩
  go_wp2_with (first
    | (refine build_zero_w rfl rfl ?_)
    | (refine store_row rfl (.tmp 4) (.tmp 16) rfl w.heap.size .zero .zero 41 rfl rfl (heap_alloc_new w _) ?_))
  exact bodyPost_ret (v := .tuple #[.agg (arr .zero), .int .i64 1]) (results_blk_tmp Try.results10 _ _ w.heap.size .zero _ rfl (setRow_heap _ _ _ _ _ _ (heap_alloc_new w _))) rfl ⟨rfl, below_setRow B1.out (Nat.le_refl _) _⟩
theorem ncWrite (p : Int) (X : Blk) (h : Noc w v) : Calls Try.prog 17 #[v, .int .i64 p, .agg (arr X)] w fun e w' => e = .returned (.int .i64 1) ∧ Below w.heap.size w w' := by
  have B1 := Lib.hid ((Below.refl w.heap.size w).alloc (Nat.le_refl _) (.cells (arr X) 41))
  have H := Lib.hid (ncRefusal _ v p (h.below B1.out))
  clear h
  go_enter Try.func17, Try.ntmps17
  go_wp2_with fail
  refine H.out.mono ?_
  rintro e w1 ⟨rfl, rfl⟩
  go_wp2_with fail
  go_ret
  exact ⟨rfl, B1.out⟩
set_option maxRecDepth 100000 in
theorem ncBack (p : Int) (h : Noc w v) : Calls Try.prog 18 #[v, .int .i64 p] w fun e w' => e = .returned (.int .i64 1) ∧ Below w.heap.size w w' := by
  have B1 := Lib.hid (Below.refl w.heap.size w)
  have H := Lib.hid (ncRefusal _ v p h)
  clear h
  go_enter Try.func18, Try.ntmps18
  go_wp2_with fail
  refine H.out.mono ?_
  rintro e w1 ⟨rfl, rfl⟩
  go_wp2_with fail
  go_ret
  exact ⟨rfl, B1.out⟩
theorem ncDrop (p : Int) (h : Noc w v) : Calls Try.prog 19 #[v, .int .i64 p] w fun e w' => e = .returned (.int .i64 1) ∧ Below w.heap.size w w' := by
  have B1 := Lib.hid (Below.refl w.heap.size w)
  have H := Lib.hid (ncRefusal _ v p h)
  clear h
  go_enter Try.func19, Try.ntmps19
  go_wp2_with fail
  refine H.out.mono ?_
  rintro e w1 ⟨rfl, rfl⟩
  go_wp2_with fail
  go_ret
  exact ⟨rfl, B1.out⟩
theorem ncPin (p : Int) (on : Bool) (h : Noc w v) : Calls Try.prog 11 #[v, .int .i64 p, .bool on] w fun e w' => e = .returned noResult ∧ Below w.heap.size w w' := by
  have B1 := Lib.hid (Below.refl w.heap.size w)
  have H := Lib.hid (ncRefusal _ v p h)
  clear h
  go_enter Try.func11, Try.ntmps11
  go_wp2_with fail
  refine H.out.mono ?_
  rintro e w1 ⟨rfl, rfl⟩
  go_wp2_with fail
  first
    | (go_ret; exact ⟨rfl, B1.out⟩)
    | exact bodyPost_end (results_none Try.results11 _ _ _) rfl ⟨rfl, B1.out⟩
theorem ncDisk (h : Noc w v) : Calls Try.prog 14 #[v] w fun e w' => e = .returned (.pointer none) ∧ Below w.heap.size w w' := by
  have B1 := Lib.hid (Below.refl w.heap.size w)
  have H := Lib.hid (ncMade w v h)
  clear h
  go_enter Try.func14, Try.ntmps14
  go_wp2_with fail
  refine H.out.mono ?_
  rintro e w1 ⟨rfl, rfl⟩
  go_wp2_with fail
  go_ret
  exact ⟨rfl, B1.out⟩
theorem ncSync (h : Noc w v) : Calls Try.prog 20 #[v] w fun e w' => e = .returned (.int .i64 1) ∧ Below w.heap.size w w' := by
  have B1 := Lib.hid (Below.refl w.heap.size w)
  have H := Lib.hid (ncMade w v h)
  clear h
  go_enter Try.func20, Try.ntmps20
  go_wp2_with fail
  refine H.out.mono ?_
  rintro e w1 ⟨rfl, rfl⟩
  go_wp2_with fail
  go_ret
  exact ⟨rfl, B1.out⟩
theorem ncRising (f : Value) (h : Noc w v) : Calls Try.prog 36 #[v, f] w fun e w' => e = .returned (.slice none 0 0) ∧ w' = w := by
  have H := Lib.hid (ncMade w v h)
  clear h
  go_enter Try.func36, Try.ntmps36
  go_wp2_with fail
  refine H.out.mono ?_
  rintro e w1 ⟨rfl, rfl⟩
  go_wp2_with fail
  go_ret
  exact ⟨rfl, rfl⟩
theorem ncDirty (h : Noc w v) : Calls Try.prog 15 #[v] w fun e w' => e = .returned (.slice none 0 0) ∧ Below w.heap.size w w' := by
  have B1 := Lib.hid (Below.refl w.heap.size w)
  have H := Lib.hid (fun f => ncRising w v f h)
  clear h
  go_enter Try.func15, Try.ntmps15
  go_wp2_with fail
  refine (H.out _).mono ?_
  rintro e w1 ⟨rfl, rfl⟩
  go_wp2_with fail
  go_ret
  exact ⟨rfl, B1.out⟩
theorem ncClean (h : Noc w v) : Calls Try.prog 16 #[v] w fun e w' => e = .returned (.slice none 0 0) ∧ Below w.heap.size w w' := by
  have B1 := Lib.hid (below_newI w (.cells #[v] 26))
  have H := Lib.hid (fun f => ncRising _ v f (h.below B1.out))
  have c0 : (w.alloc (.cells #[v] 26)).cell? ⟨w.heap.size, 0, none⟩ = some v := (cell_of_row _ w.heap.size 0 _ _ (0, 0) (heap_alloc_new w _)).trans rfl
  rcases h with rfl | ⟨b, rfl, _⟩
  · go_enter Try.func16, Try.ntmps16
    go_wp2_with (go_at_call 36; refine (H.out _).mono ?_; rintro e w1 ⟨rfl, rfl⟩)
    go_ret
    exact ⟨rfl, B1.out⟩
  · go_enter Try.func16, Try.ntmps16
    go_wp2_with (go_at_call 36; refine (H.out _).mono ?_; rintro e w1 ⟨rfl, rfl⟩)
    go_ret
    exact ⟨rfl, B1.out⟩
theorem ncEvict (p : Int) (h : Noc w v) : Calls Try.prog 13 #[v, .int .i64 p] w fun e w' => e = .returned (.tuple #[.int .i64 0, .bool false]) ∧ Below w.heap.size w w' := by
  have H := Lib.hid (ncClean w v h)
  clear h
  go_enter Try.func13, Try.ntmps13
  go_wp2_with (first
    | (go_at_call 16; refine H.out.mono ?_; rintro e w1 ⟨rfl, hb⟩)
    | (go_at_call 35; refine (pick_none none 0 p _).mono ?_; rintro e w3 ⟨rfl, hw3⟩; obtain rfl := hw3.symm))
  exact bodyPost_ret (results_tmp2 Try.results13 _ _ _) rfl ⟨rfl, hb⟩
theorem ncWriteback (p : Int) (h : Noc w v) : Calls Try.prog 12 #[v, .int .i64 p] w fun e w' => e = .returned (.tuple #[.int .i64 0, .bool false, .int .i64 1]) ∧ Below w.heap.size w w' := by
  have B1 := Lib.hid (Below.refl w.heap.size w)
  have H := Lib.hid (ncMade w v h)
  clear h
  go_enter Try.func12, Try.ntmps12
  go_wp2_with fail
  refine H.out.mono ?_
  rintro e w1 ⟨rfl, rfl⟩
  go_wp2_with fail
  exact bodyPost_ret (results_tmp3 Try.results12 _ _ _) rfl ⟨rfl, B1.out⟩
theorem ncNew (h : Nob w v) : Calls Try.prog 9 #[v] w fun e w' => e = .returned (.tuple #[.pointer none, .int .i64 1]) ∧ w' = w := by
  have H := Lib.hid (nBlocks_any w v h)
  clear h
  go_enter Try.func9, Try.ntmps9
  go_wp2_with fail
  refine H.out.mono ?_
  rintro e w1 ⟨rfl, rfl⟩
  go_wp2_with fail
  exact bodyPost_ret (results_tmp2 Try.results9 _ _ _) rfl ⟨rfl, rfl⟩
theorem wpList_of_quietN {P : Program} {ops : Array Oper} {Q : Exit → Act → World → Prop} {C : World → Prop} : ∀ (l : List Oper) (a : Act) (w : World), C w → wpQuiet P ops C (fun a' => ∀ w', C w' → Q .normal a' w') l a → wpList P ops Q l a w
  | [], _, w, hC, h => h w hC
  | o :: l, a, w, hC, h => by
    unfold wpList
    unfold wpQuiet at h
    split
    · rename_i hw
      simp only [hw, if_true] at h
      exact .inl (Oper.wp_of_quiet hC (fun a' w' hw' hk => wpList_of_quietN l a' w' hw' hk) h)
    · rename_i hw
      simp only [hw] at h
      exact wpList_of_quietN l _ w hC h
/-- A region in the text's order, by the same quick steps. -/
theorem wp_region_textN {P : Program} {id : Nat} {Q : Exit → Act → World → Prop} {a : Act} {w : World} {l : List Oper} (C : World → Prop) (hC : C w) (h : wpQuiet P l.toArray C (fun a' => ∀ w', C w' → Q .normal a' w') l a) : (Code.region id l.toArray false).wp P Q a w :=
  wp_region_lit (wpList_of_quietN l a w hC h)
theorem quiet_zeroN {o : Oper} {a : Act} {C : World → Prop} {K : Act → Prop} (ho : o.op = .build 41 #[]) (hk : K (a.put o.dst (.agg (arr .zero)))) : o.quiet Try.prog a C K := by
  refine ⟨_, fun w hw => ?_, hk⟩
  unfold Oper.quietAt execOp
  have h : Try.prog.built 41 ((#[] : Array (Nat × Operand)).map fun (i, x) => (i, a.eval x)).toList = some (arr .zero) := by simpa using built_zero
  simp only [ho, Sem.run_bind, run_build w 41 _ _ h, Result.andThen_ok, Sem.run_pure]
  exact ⟨rfl, rfl⟩
end
end Go.Proofs.Ytkolpdllogpklaa
