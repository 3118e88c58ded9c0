import Derived.Test.YtnneppkkmhjpbaaPaP3
import Derived.Test.YtnneppkkmhjpbaaRoundVals
namespace Go.Proofs.Ytnneppkkmhjpbaa
open Go.RowKit Go.Shelf Go.BigFrame
attribute [local go_sem] Oper.semAt_some

/-! Indirect. -/
/-- Its cells: how many blocks, the sum. -/
structure DC (W : World) (b1 b3 : Nat) (c s : Int) : Prop where
  c1 : Boxed W b1 3 (.int .i64 c)
  c3 : Boxed W b3 3 (.int .i64 s)
section
variable {W W' : World} {b1 b3 t : Nat} {c s : Int}
theorem DC.below (h : DC W b1 b3 c s) (hb : Below t W W') (h1 : b1 < t) (h3 : b3 < t) : DC W' b1 b3 c s := ⟨(hb.block _ h1).trans h.c1, (hb.block _ h3).trans h.c3⟩
theorem DC.put (h : DC W b1 b3 c s) {r : Nat} (o : Obj) (h1 : b1 ≠ r) (h3 : b3 ≠ r) : DC (W.putObj r o) b1 b3 c s := ⟨(World.putObj_heap_other h1).trans h.c1, (World.putObj_heap_other h3).trans h.c3⟩
theorem DC.set (h : DC W b1 b3 c s) (s' : Int) (h1 : b1 ≠ b3) : DC (W.setCell ⟨b3, 0, none⟩ (.int .i64 s')) b1 b3 c s' := ⟨(Below.heap_setCell _ _ _ _ (by exact h1)).trans h.c1, h.c3.set _⟩
end
theorem clip_fits (n h : Int) (hh : 0 ≤ h) : 0 ≤ clipN n h ∧ clipN n h ≤ h := by
  unfold clipN
  split
  · omega
  · split <;> omega
theorem hang_fits {c : Int} {k : Nat} (hk : k < 11) : 0 ≤ hangN c k ∧ hangN c k ≤ 786432 := by
  obtain ⟨h1, h2, h3, h4, h5, h6, h7⟩ := ptr_fits hk
  have hc := clip_fits (c - (ptrN k).fst) (ptrN k).spn (by omega)
  have := sum_fits (n := clipN (c - (ptrN k).fst) (ptrN k).spn) hc.1 (by omega) (ptrN k).lev.toNat
  unfold hangN
  omega
theorem all_fits {c : Int} : ∀ k : Nat, k ≤ 11 → 0 ≤ allN c k ∧ allN c k ≤ 786432 * k
  | 0, _ => ⟨Int.le_refl _, by show (0 : Int) ≤ _; omega⟩
  | k + 1, h => by
    have := all_fits (c := c) k (by omega)
    have := hang_fits (c := c) (k := k) (by omega)
    show 0 ≤ allN c k + hangN c k ∧ allN c k + hangN c k ≤ 786432 * ((k + 1 : Nat) : Int)
    omega
def idD (i : Nat) : Tmp := i + 8
def idV (bx : Nat) (s c fs sp lv cl hg : Int) (i : Nat) (x : Value) (_ : World) : Prop :=
  x = match i with
  | 0 => .int .i64 s
  | 1 => .int .i64 c
  | 2 => .pointer (some ⟨bx, 2, none⟩)
  | 3 => .int .i64 fs
  | 4 => .int .i64 (c - fs)
  | 5 => .pointer (some ⟨bx, 3, none⟩)
  | 6 => .int .i64 sp
  | 7 => .int .i64 cl
  | 8 => .pointer (some ⟨bx, 1, none⟩)
  | 9 => .int .i64 lv
  | 10 => .int .i64 hg
  | _ => .int .i64 (s + hg)
set_option maxRecDepth 100000 in
set_option maxHeartbeats 2000000 in
theorem indirect_in (F : Fence) (m : Nat) (hW : F = Fence.wide) (hF : ∀ f, F.fn f) (hro : F.round = none) (hm : 6 ≤ m) (n : Int) (w : World) :
    CallsIn F m Try.prog 24 #[.int .i64 n] w fun e w' => e = .returned (.int .i64 (indirN n)) ∧ Below w.heap.size w w' := by
  have hm1 : 1 ≤ m := by omega
  have lift : Hid (∀ n f args W R, Calls Try.prog f args W R → CallsIn F n Try.prog f args W R) := Lib.hid fun _ _ _ _ _ h => by subst hW; exact callsIn_wide.2 h
  have IT : Hid (∀ W b0 m, IterSays F m Try.prog 30 #[] 11 (fun k => #[.agg (pcs (ptrN k))]) b0 W) := Lib.hid fun W b0 m => by subst hW; exact ptr_iter W b0 m
  have HF := Lib.hid hF
  have HWD := Lib.hid hW
  clear hW
  have CW : Hid (∀ W, Calls Try.prog 33 #[.int .i64 n, .int .i64 65536] W fun e w' => e = .returned (.int .i64 (clipN n 65536)) ∧ w' = W) := Lib.hid fun W => pWithin n 65536 W (by omega)
  have hcl := clip_fits n 65536 (by omega)
  have HE := Lib.hid (all_eleven n)
  generalize clipN n 65536 = c at CW hcl HE
  refine callsIn_of_wp_marks Try.func24 rfl (hF _) ?_ hro
  simp only [Try.ntmps24, List.size_toArray, List.length_cons, List.length_nil, Nat.reduceAdd, Nat.reduceSub, Array.replicate_succ, Array.replicate_zero, List.push_toArray, List.append_toArray, List.nil_append, List.cons_append]
  gi_wp2_with (gi_at_call 33; with_reducible refine (lift.out _ _ _ _ _ (CW.out _)).mono ?_; rintro e w2 ⟨rfl, rfl⟩)
  have l1 := heap_alloc_new (w.alloc (.cells #[.int .i64 c] 3)) (.cells #[.int .i64 0] 3)
  have l0 : ((w.alloc (.cells #[.int .i64 c] 3)).alloc (.cells #[.int .i64 0] 3)).heap[w.heap.size]? = some (.cells #[.int .i64 c] 3) := (heap_alloc_old _ _ (by simp)).trans (heap_alloc_new w _)
  have lb : Below w.heap.size w ((w.alloc (.cells #[.int .i64 c] 3)).alloc (.cells #[.int .i64 0] 3)) := ((Below.refl _ w).alloc (Nat.le_refl _) _).alloc (by simp) _
  have ls : ((w.alloc (.cells #[.int .i64 c] 3)).alloc (.cells #[.int .i64 0] 3)).heap.size = w.heap.size + 2 := by simp
  rw [show (w.alloc (.cells #[.int .i64 c] 3)).heap.size = w.heap.size + 1 by simp] at l1
  generalize (w.alloc (.cells #[.int .i64 c] 3)).alloc (.cells #[.int .i64 0] 3) = w2 at l0 l1 lb ls ⊢
  obtain ⟨b1, hb1⟩ : ∃ bn, w.heap.size = bn := ⟨_, rfl⟩
  obtain ⟨b3, hb3⟩ : ∃ bn, b1 + 1 = bn := ⟨_, rfl⟩
  have C2 : Hid (DC w2 b1 b3 c 0) := Lib.hid ⟨by subst hb1; exact l0, by subst hb1 hb3; exact l1⟩
  have B2 : Hid (Below b1 w w2) := Lib.hid (by rw [← hb1]; exact lb)
  have HB1 := Lib.hid hb1
  have Z : Hid (b1 < b3 ∧ b3 < w2.heap.size) := Lib.hid ⟨by omega, by rw [ls]; omega⟩
  rw [hb1, hb3]
  clear l0 l1 lb ls hb1 hb3 CW
  refine wpIn_range_iterX hro hm1 (gf := 30) (lb := #[]) rfl (HF.out _) (enters_of Try.func30 (by kernel_rfl) rfl)
    (IT.out w2 b1 _) (by have := Z.out; omega) (Below.refl _ _) (fun _ => rfl)
    (fun k W => DC W b1 b3 c (allN c k) ∧ Below b1 w W) (fun _ _ _ => False)
    (fun k A B h hb => ⟨h.1.below hb (by have := Z.out; omega) (by have := Z.out; omega), h.2.trans (hb.mono (by have := Z.out; omega))⟩)
    (fun c k A B h hb => h.elim)
    ⟨C2.out, B2.out⟩
    (fun k a W => ∃ bx, w2.heap.size + 2 ≤ bx ∧ W.heap[bx]? = some (.cells (pcs (ptrN k)) 42 (0, 0)) ∧ a = { tmps := #[.int .i64 n, .pointer (some ⟨b1, 0, none⟩), .int .i64 0, .pointer (some ⟨b3, 0, none⟩), .pointer (some ⟨bx, 0, none⟩), .int .i64 n, .int .i64 c, .agg (pcs (ptrN k)), undef, undef, undef, undef, undef, undef, undef, undef, undef, undef, undef, undef, undef], defers := [] } ∧ DC W b1 b3 c (allN c k) ∧ Below b1 w W)
    (fun k a W o ⟨bx, h1, h2, h3, h4, h5⟩ => ⟨bx, h1, (World.putObj_heap_other (by omega)).trans h2, h3, h4.put o (by have := Z.out; omega) (by have := Z.out; omega), h5.trans (below_putObj W (by have := Z.out; omega) o)⟩) ?assign ?body ?done ?stop
  case assign =>
    rintro l k W K hk hsz ⟨hn, hB⟩ hK
    have hb := below_newI W (.cells (pcs (ptrN k)) 42)
    have HK := Lib.hid (hK _ _ ⟨W.heap.size, hsz, heap_alloc_new W _, rfl, hn.below hb hn.c1.lt hn.c3.lt, hB.trans (hb.mono (by have := Z.out; omega))⟩ hb)
    clear hK hn hB hb
    generalize allN c k = s at HK
    generalize ptrN k = p at HK ⊢
    obtain ⟨nm, lv, fs, sp⟩ := p
    unfold pcs at HK ⊢
    gi_wp2
    exact HK.out
  case body =>
    rintro l k a W hk ⟨bx, hbx, hp, rfl, hn, hB⟩
    have HN := Lib.hid hn
    have HB := Lib.hid hB
    have hfit := ptr_fits hk
    have hk11 : (k : Int) ≤ 11 := by omega
    have HB' : Hid (b1 ≤ W.heap.size) := Lib.hid (Nat.le_of_lt hn.c1.lt)
    have hgf := hang_fits (c := c) hk
    have haf := all_fits (c := c) k (by omega)
    have HS : Hid (allN c k + hangN c k = allN c (k + 1)) := Lib.hid rfl
    have blt := (Array.getElem?_eq_some_iff.1 hp).1
    have x1 : Hid (∀ w5, Below W.heap.size W w5 → w5.cell? ⟨bx, 1, none⟩ = some (.int .i64 (ptrN k).lev)) := Lib.hid fun w5 h => (cell_of_row w5 bx 1 _ _ _ ((h.block _ blt).trans hp)).trans rfl
    have x2 : Hid (∀ w5, Below W.heap.size W w5 → w5.cell? ⟨bx, 2, none⟩ = some (.int .i64 (ptrN k).fst)) := Lib.hid fun w5 h => (cell_of_row w5 bx 2 _ _ _ ((h.block _ blt).trans hp)).trans rfl
    have x3 : Hid (∀ w5, Below W.heap.size W w5 → w5.cell? ⟨bx, 3, none⟩ = some (.int .i64 (ptrN k).spn)) := Lib.hid fun w5 h => (cell_of_row w5 bx 3 _ _ _ ((h.block _ blt).trans hp)).trans rfl
    have CI : Hid (∀ W, Calls Try.prog 33 #[.int .i64 (c - (ptrN k).fst), .int .i64 (ptrN k).spn] W fun e w' => e = .returned (.int .i64 (clipN (c - (ptrN k).fst) (ptrN k).spn)) ∧ w' = W) := Lib.hid fun W => pWithin _ _ W (by omega)
    have CA : Hid (∀ W, Calls Try.prog 34 #[.int .i64 (clipN (c - (ptrN k).fst) (ptrN k).spn), .int .i64 (ptrN k).lev] W fun e w' => e = .returned (.int .i64 (hangN c k)) ∧ w' = W) := Lib.hid fun W => by
      have hc := clip_fits (c - (ptrN k).fst) (ptrN k).spn (by omega)
      have := pAbove (clipN (c - (ptrN k).fst) (ptrN k).spn) (ptrN k).lev.toNat W hc.1 (by omega) (by omega)
      rwa [Int.toNat_of_nonneg (by omega)] at this
    clear hn hB hp hk
    generalize clipN (c - (ptrN k).fst) (ptrN k).spn = cl at CI CA
    generalize hangN c k = hg at CA HS hgf
    generalize allN c k = s at HN HS haf
    generalize ptrN k = p at *
    obtain ⟨nm, lv, fs, sp⟩ := p
    simp only at x1 x2 x3 CI CA hfit
    obtain ⟨-, g1, g2, g3, g4, g5, g6⟩ := hfit
    unfold pcs
    have hWd := HWD.out
    subst hWd
    gi_wp2
    refine round_vals (n := 12) idD (idV bx s c fs sp lv cl hg) (by kernel_rfl) (by kernel_rfl) ?_ (by kernel_rfl) (by kernel_rfl) (by kernel_rfl) (by kernel_rfl) (fun _ _ _ _ h _ => h) ?_ ?_
    · rintro ⟨_, _, h⟩
      exact h
    · intro z o a w5 hz ho hk hb hdep
      have hb5 : Below W.heap.size W w5 := ⟨hb.os, hb.tape, hb.output, hb.size, hb.block⟩
      have DW := HN.out.below hb5 HN.out.c1.lt HN.out.c3.lt
      have p1 : a.eval (.tmp 1) = .pointer (some ⟨b1, 0, none⟩) := (hk.eval (by decide)).trans rfl
      have p3 : a.eval (.tmp 3) = .pointer (some ⟨b3, 0, none⟩) := (hk.eval (by decide)).trans rfl
      have p4 : a.eval (.tmp 4) = .pointer (some ⟨bx, 0, none⟩) := (hk.eval (by decide)).trans rfl
      match z, ho with
      | 0, ho =>
        cases ho
        have q := DW.c3.cell
        refine wp_value (v := .int .i64 s) (w' := w5) ?_ ⟨_, rfl, rfl, Below.refl _ _⟩
        clear hdep hk
        generalize a.eval = ev at p3 ⊢
        go_simp
      | 1, ho =>
        cases ho
        have q := DW.c1.cell
        refine wp_value (v := .int .i64 c) (w' := w5) ?_ ⟨_, rfl, rfl, Below.refl _ _⟩
        clear hdep hk
        generalize a.eval = ev at p1 ⊢
        go_simp
      | 2, ho =>
        cases ho
        refine wp_value (v := .pointer (some ⟨bx, 2, none⟩)) (w' := w5) ?_ ⟨_, rfl, rfl, Below.refl _ _⟩
        clear hdep hk
        generalize a.eval = ev at p4 ⊢
        go_simp
      | 3, ho =>
        cases ho
        have e10 : a.eval (.tmp 10) = .pointer (some ⟨bx, 2, none⟩) := hdep ⟨2, .data⟩ (by simp) rfl
        have q := x2.out w5 hb5
        refine wp_value (v := .int .i64 fs) (w' := w5) ?_ ⟨_, rfl, rfl, Below.refl _ _⟩
        clear hdep hk
        generalize a.eval = ev at e10 ⊢
        go_simp
      | 4, ho =>
        cases ho
        have e9 : a.eval (.tmp 9) = .int .i64 c := hdep ⟨1, .data⟩ (by simp) rfl
        have e11 : a.eval (.tmp 11) = .int .i64 fs := hdep ⟨3, .data⟩ (by simp) rfl
        have wr : IntKind.i64.wrap (c - fs) = c - fs := by rw [IntKind.wrap_i64]; omega
        refine wp_value (v := .int .i64 (c - fs)) (w' := w5) ?_ ⟨_, rfl, rfl, Below.refl _ _⟩
        clear hdep hk
        generalize a.eval = ev at e9 e11 ⊢
        go_simp
        try rw [wr]
      | 5, ho =>
        cases ho
        refine wp_value (v := .pointer (some ⟨bx, 3, none⟩)) (w' := w5) ?_ ⟨_, rfl, rfl, Below.refl _ _⟩
        clear hdep hk
        generalize a.eval = ev at p4 ⊢
        go_simp
      | 6, ho =>
        cases ho
        have e13 : a.eval (.tmp 13) = .pointer (some ⟨bx, 3, none⟩) := hdep ⟨5, .data⟩ (by simp) rfl
        have q := x3.out w5 hb5
        refine wp_value (v := .int .i64 sp) (w' := w5) ?_ ⟨_, rfl, rfl, Below.refl _ _⟩
        clear hdep hk
        generalize a.eval = ev at e13 ⊢
        go_simp
      | 7, ho =>
        cases ho
        have e12 : a.eval (.tmp 12) = .int .i64 (c - fs) := hdep ⟨4, .data⟩ (by simp) rfl
        have e14 : a.eval (.tmp 14) = .int .i64 sp := hdep ⟨6, .data⟩ (by simp) rfl
        refine wp_enter (f := 33) (args := #[.int .i64 (c - fs), .int .i64 sp]) ?_ ((CI.out w5).mono fun e y h => ⟨_, h.1, _, rfl, rfl, by rw [h.2]; exact Below.refl _ _⟩)
        have ef : a.eval (.func 33) = .func (.func 33) #[] #[] := rfl
        clear hdep hk
        generalize a.eval = ev at e12 e14 ef ⊢
        go_simp
      | 8, ho =>
        cases ho
        refine wp_value (v := .pointer (some ⟨bx, 1, none⟩)) (w' := w5) ?_ ⟨_, rfl, rfl, Below.refl _ _⟩
        clear hdep hk
        generalize a.eval = ev at p4 ⊢
        go_simp
      | 9, ho =>
        cases ho
        have e16 : a.eval (.tmp 16) = .pointer (some ⟨bx, 1, none⟩) := hdep ⟨8, .data⟩ (by simp) rfl
        have q := x1.out w5 hb5
        refine wp_value (v := .int .i64 lv) (w' := w5) ?_ ⟨_, rfl, rfl, Below.refl _ _⟩
        clear hdep hk
        generalize a.eval = ev at e16 ⊢
        go_simp
      | 10, ho =>
        cases ho
        have e15 : a.eval (.tmp 15) = .int .i64 cl := hdep ⟨7, .data⟩ (by simp) rfl
        have e17 : a.eval (.tmp 17) = .int .i64 lv := hdep ⟨9, .data⟩ (by simp) rfl
        refine wp_enter (f := 34) (args := #[.int .i64 cl, .int .i64 lv]) ?_ ((CA.out w5).mono fun e y h => ⟨_, h.1, _, rfl, rfl, by rw [h.2]; exact Below.refl _ _⟩)
        have ef : a.eval (.func 34) = .func (.func 34) #[] #[] := rfl
        clear hdep hk
        generalize a.eval = ev at e15 e17 ef ⊢
        go_simp
      | 11, ho =>
        cases ho
        have e8 : a.eval (.tmp 8) = .int .i64 s := hdep ⟨0, .data⟩ (by simp) rfl
        have e18 : a.eval (.tmp 18) = .int .i64 hg := hdep ⟨10, .data⟩ (by simp) rfl
        have wr : IntKind.i64.wrap (s + hg) = s + hg := by rw [IntKind.wrap_i64]; omega
        refine wp_value (v := .int .i64 (s + hg)) (w' := w5) ?_ ⟨_, rfl, rfl, Below.refl _ _⟩
        clear hdep hk
        generalize a.eval = ev at e8 e18 ⊢
        go_simp
        try rw [wr]
    · intro a w5 hk hb hv
      obtain ⟨x, hx, ea⟩ := hk.lit2 21 rfl
      have hb5 : Below W.heap.size W w5 := ⟨hb.os, hb.tape, hb.output, hb.size, hb.block⟩
      have h11 : a.eval (.tmp 19) = .int .i64 (s + hg) := hv 11 (by decide)
      rw [hx] at h11
      replace ea : a = { tmps := #[.int .i64 n, .pointer (some ⟨b1, 0, none⟩), .int .i64 0, .pointer (some ⟨b3, 0, none⟩), .pointer (some ⟨bx, 0, none⟩), .int .i64 n, .int .i64 c, .agg #[.int .i64 nm, .int .i64 lv, .int .i64 fs, .int .i64 sp], x 8, x 9, x 10, x 11, x 12, x 13, x 14, x 15, x 16, x 17, x 18, x 19, undef], defers := [] } := ea
      rw [h11] at ea
      subst ea
      have DW := HN.out.below hb5 HN.out.c1.lt HN.out.c3.lt
      have c3 := DW.c3.cell
      have f3 := DW.c3.frozen
      have FIN : Hid (Kept b1 w2.heap.size W (w5.setCell ⟨b3, 0, none⟩ (.int .i64 (s + hg))) ∧ DC (w5.setCell ⟨b3, 0, none⟩ (.int .i64 (s + hg))) b1 b3 c (allN c (k + 1)) ∧ Below b1 w (w5.setCell ⟨b3, 0, none⟩ (.int .i64 (s + hg)))) := Lib.hid ⟨(Kept.of_below hb5).trans (Kept.setCell _ (by have := Z.out; show b3 ≠ b1; omega) (by have := Z.out; show b3 < w2.heap.size; omega) _), by rw [← HS.out]; exact DW.set _ (by have := Z.out; omega), (HB.out.trans (hb5.mono HB'.out)).setCell (p := ⟨b3, 0, none⟩) (by have := Z.out; show b1 ≤ b3; omega) _⟩
      clear hk hb hv hx h11 hb5 DW
      go_wp2_with fail
      exact FIN.out
  case done =>
    rintro D W hD ⟨hn, hB⟩ hK
    rw [HE.out] at hn
    have HB := Lib.hid hB
    have HK := Lib.hid hK
    have HD := Lib.hid hD
    have c3 := hn.c3.cell
    clear hn hB hK hD
    gi_wp2
    refine leave_mark HK.out ?_ ⟨rfl, by rw [HB1.out]; exact HB.out.trans (below_putObj W (by have := HD.out; have := Z.out; omega) _)⟩
    simp [results, Try.f24, go_sem]
  case stop =>
    rintro D k c W hD hk h hK
    exact h.elim
theorem pIndirect (n : Int) (w : World) : Calls Try.prog 24 #[.int .i64 n] w fun e w' => e = .returned (.int .i64 (indirN n)) ∧ Below w.heap.size w w' :=
  callsIn_wide.1 (indirect_in Fence.wide 6 rfl (fun _ => trivial) rfl (Nat.le_refl _) n w)
end Go.Proofs.Ytnneppkkmhjpbaa
