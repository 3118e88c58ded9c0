import Derived.Test.YtfijagjkgmhimaaInoP2
namespace Go.Proofs.Ytfijagjkgmhimaa
open Go.RowKit

/-! The landed package: what 64 bytes tell, all of it. -/
def told0 (f : Nat → Nat) : InoV := ⟨f 0, (g16 f 2 : Nat), g32 f 4, (g32 f 8 : Nat), .zero, g32 f 56⟩
def tvV (b : Nat) (f : Nat → Nat) (s : Nat) : Nat → Value → World → Prop
  | 0, v, _ => v = .pointer (some ⟨b, 0, none⟩)
  | 1, v, _ => v = .pointer (some ⟨b, 0, none⟩)
  | 2, v, _ => v = .pointer (some ⟨b, 0, none⟩)
  | 3, v, _ => v = .int .u8 ((f 0 : Nat) : Int)
  | 4, v, _ => v = .pointer (some ⟨b, 0, none⟩)
  | 5, v, _ => v = .int .i64 ((g16 f 2 : Nat) : Int)
  | 6, v, _ => v = .pointer (some ⟨b, 0, none⟩)
  | 7, v, _ => v = .int .u32 ((g32 f 4 : Nat) : Int)
  | 8, v, _ => v = .pointer (some ⟨b, 0, none⟩)
  | 9, v, _ => v = .int .u32 ((g32 f 8 : Nat) : Int)
  | 10, v, _ => v = .int .i64 ((g32 f 8 : Nat) : Int)
  | 11, v, _ => v = .pointer (some ⟨b, 0, none⟩)
  | 12, v, _ => v = .int .u32 ((g32 f 56 : Nat) : Int)
  | 13, v, _ => v = .agg (ics (told0 f))
  | _, v, W => ∃ c, v = .pointer (some ⟨c, 0, none⟩) ∧ s ≤ c ∧ IVar W c .zero
def tvD : Nat → Tmp
  | 0 => 5
  | 1 => 6
  | 2 => 7
  | 3 => 8
  | 4 => 9
  | 5 => 10
  | 6 => 11
  | 7 => 12
  | 8 => 13
  | 9 => 14
  | 10 => 15
  | 11 => 16
  | 12 => 17
  | 13 => 18
  | _ => 3
theorem tvV_below (b : Nat) (f : Nat → Nat) (s : Nat) (i : Nat) (v : Value) (w w' : World) (h : tvV b f s i v w) (hb : Below w.heap.size w w') : tvV b f s i v w' := by
  unfold tvV at h ⊢
  split at h <;> first | exact h | (obtain ⟨c, e, h1, h2⟩ := h; exact ⟨c, e, h1, h2.below hb⟩)
def toldK (f : Nat → Nat) (hf : ∀ i, f i < 256) (k : Nat) : InoV := { told0 f with p := .of (fun i => if i < k then g32 f (12 + 4 * i) else 0) fun i => by split; exact g32_lt hf _; omega }
theorem toldK_0 (f : Nat → Nat) (hf : ∀ i, f i < 256) : toldK f hf 0 = told0 f := by
  unfold toldK told0
  rw [InoV.eq_iff]
  refine ⟨rfl, rfl, rfl, rfl, Ptrs.same fun i hi => ?_, rfl⟩
  simp only
  rw [Ptrs.of_f hi, if_neg (by omega)]; rfl
theorem toldK_all (f : Nat → Nat) (hf : ∀ i, f i < 256) : toldK f hf 11 = toldF f hf := by
  unfold toldK told0 toldF
  rw [InoV.eq_iff]
  refine ⟨rfl, rfl, rfl, rfl, Ptrs.same fun i hi => ?_, rfl⟩
  simp only
  rw [Ptrs.of_f hi, Ptrs.of_f hi, if_pos hi]
theorem toldK_succ (f : Nat → Nat) (hf : ∀ i, f i < 256) (k : Nat) : { toldK f hf k with p := (toldK f hf k).p.set k (g32 f (12 + 4 * k)) (g32_lt hf _) } = toldK f hf (k + 1) := by
  unfold toldK
  rw [InoV.eq_iff]
  refine ⟨rfl, rfl, rfl, rfl, Ptrs.same fun i hi => ?_, rfl⟩
  simp only
  unfold Ptrs.set
  rw [Ptrs.of_f hi, Ptrs.of_f hi, Ptrs.of_f hi]
  by_cases e : i = k
  · subst e; rw [if_pos rfl, if_pos (by omega)]
  · rw [if_neg e]
    by_cases q : i < k
    · rw [if_pos q, if_pos (by omega)]
    · rw [if_neg q, if_neg (by omega)]
theorem results_ino {fn : Func} {p : Tmp} (h : fn.results = #[.cell p 27]) (tmps : Array Value) (w : World) (g : Nat) (x : InoV) (hp : tmps.getD p undef = .pointer (some ⟨g, 0, none⟩)) (hg : IVar w g x) :
    (results fn tmps).run Try.prog w = .ok (.agg (ics x)) w :=
  results_cell_row h tmps w g 27 (ics x) (0, 0) _ hp hg Try.underlying27 rfl (by rw [ics_count]; exact ino_size16)
set_option maxRecDepth 100000 in
set_option maxHeartbeats 4000000 in
theorem told_any (b : Nat) (f : Nat → Nat) (w : World) (hM : MVar w b f) (hf : ∀ i, f i < 256) :
    Calls Try.prog 23 #[.pointer (some ⟨b, 0, none⟩)] w fun e w' => e = .returned (.agg (ics (toldF f hf))) ∧ Below w.heap.size w w' := by
  have hzi := fun W => zero_ino W
  have M := Lib.hid hM
  have HF := Lib.hid hf
  have bl := hM.lt
  clear hM
  go_enter Try.func23, Try.ntmps23
  go_upto_region 1 with fail
  have N0 := Lib.hid (show IVar (w.alloc (.cells (ics .zero) 27)) w.heap.size .zero from heap_alloc_new w _)
  have B0 := Lib.hid (below_new w (.cells (ics .zero) 27))
  have M0 := Lib.hid (M.out.below B0.out)
  have hs := Lib.hid (show (w.alloc (.cells (ics .zero) 27)).heap.size = w.heap.size + 1 by simp)
  generalize w.alloc (.cells (ics .zero) 27) = w1 at N0 B0 M0 hs ⊢
  have CS : Hid (∀ W, MVar W b f → Calls Try.prog 30 #[.pointer (some ⟨b, 0, none⟩), .int .i64 2] W fun e w' => e = .returned (.int .i64 ((g16 f 2 : Nat) : Int)) ∧ w' = W) := Lib.hid fun W h => short_any b 2 f W h HF.out (by omega)
  have CL4 : Hid (∀ W, MVar W b f → Calls Try.prog 31 #[.pointer (some ⟨b, 0, none⟩), .int .i64 4] W fun e w' => e = .returned (.int .u32 ((g32 f 4 : Nat) : Int)) ∧ w' = W) := Lib.hid fun W h => long_any b 4 f W h HF.out (by omega)
  have CL8 : Hid (∀ W, MVar W b f → Calls Try.prog 31 #[.pointer (some ⟨b, 0, none⟩), .int .i64 8] W fun e w' => e = .returned (.int .u32 ((g32 f 8 : Nat) : Int)) ∧ w' = W) := Lib.hid fun W h => long_any b 8 f W h HF.out (by omega)
  have CL56 : Hid (∀ W, MVar W b f → Calls Try.prog 31 #[.pointer (some ⟨b, 0, none⟩), .int .i64 56] W fun e w' => e = .returned (.int .u32 ((g32 f 56 : Nat) : Int)) ∧ w' = W) := Lib.hid fun W h => long_any b 56 f W h HF.out (by omega)
  have W8 := Lib.hid (g32_lt hf 8)
  go_cut [3] from 5 to 18 (fun s3 wx => ∃ b3, s3 = .pointer (some ⟨b3, 0, none⟩) ∧ w1.heap.size ≤ b3 ∧ IVar wx b3 (told0 f) ∧ Below w1.heap.size w1 wx)
  case first =>
    refine wp_region_vals (n := 15) tvD (tvV b f w1.heap.size) (by kernel_rfl) (by kernel_rfl) (by kernel_rfl) (by kernel_rfl) (by kernel_rfl) (tvV_below b f w1.heap.size) ?_ ?_
    · intro i o a w5 hi ho hk hb hdep
      have M5 := Lib.hid (show MVar w5 b f from MVar.below (w := w1.drew) M0.out hb)
      have p0 : a.eval (.tmp 0) = .pointer (some ⟨b, 0, none⟩) := (hk.eval (by decide)).trans rfl
      have hsz : w1.heap.size ≤ w5.heap.size := hb.size
      match i, ho with
      | 0, ho =>
        cases ho
        refine wp_value (v := .pointer (some ⟨b, 0, none⟩)) (w' := w5) ?_ ⟨_, rfl, rfl, Below.refl _ _⟩
        clear hdep hk
        generalize a.eval = ev at p0 ⊢
        go_simp
      | 1, ho =>
        cases ho
        have e1 : a.eval (.tmp 5) = .pointer (some ⟨b, 0, none⟩) := hdep ⟨0, .data⟩ (by simp) rfl
        refine wp_value (v := .pointer (some ⟨b, 0, none⟩)) (w' := w5) ?_ ⟨_, rfl, rfl, Below.refl _ _⟩
        have e2 : a.eval (.const (.int .i64 0)) = .int .i64 0 := rfl
        clear hdep hk
        generalize a.eval = ev at e1 e2 ⊢
        go_simp
      | 2, ho =>
        cases ho
        have e1 : a.eval (.tmp 6) = .pointer (some ⟨b, 0, none⟩) := hdep ⟨1, .data⟩ (by simp) rfl
        refine wp_value (v := .pointer (some ⟨b, 0, none⟩)) (w' := w5) ?_ ⟨_, rfl, rfl, Below.refl _ _⟩
        have e2 : a.eval (.const (.int .i64 0)) = .int .i64 0 := rfl
        clear hdep hk
        generalize a.eval = ev at e1 e2 ⊢
        go_simp
      | 3, ho =>
        cases ho
        have e1 : a.eval (.tmp 7) = .pointer (some ⟨b, 0, none⟩) := hdep ⟨2, .data⟩ (by simp) rfl
        have c0 : w5.cell? ⟨b, 0, none⟩ = some (.int .u8 ((f 0 : Nat) : Int)) := M5.out.cells.cell 0 (by omega)
        refine wp_value (v := .int .u8 ((f 0 : Nat) : Int)) (w' := w5) ?_ ⟨_, rfl, rfl, Below.refl _ _⟩
        clear hdep hk
        generalize a.eval = ev at e1 ⊢
        go_simp
      | 4, ho =>
        cases ho
        refine wp_value (v := .pointer (some ⟨b, 0, none⟩)) (w' := w5) ?_ ⟨_, rfl, rfl, Below.refl _ _⟩
        clear hdep hk
        generalize a.eval = ev at p0 ⊢
        go_simp
      | 5, ho =>
        cases ho
        have e1 : a.eval (.tmp 9) = .pointer (some ⟨b, 0, none⟩) := hdep ⟨4, .data⟩ (by simp) rfl
        refine wp_enter (f := 30) (args := #[.pointer (some ⟨b, 0, none⟩), .int .i64 2]) ?_ ((CS.out w5 M5.out).mono fun e y h => ⟨_, h.1, _, rfl, rfl, by rw [h.2]; exact Below.refl _ _⟩)
        have e2 : a.eval (.func 30) = .func (.func 30) #[] #[] := rfl
        have e3 : a.eval (.const (.int .i64 2)) = .int .i64 2 := rfl
        generalize a.eval = ev at e1 e2 e3 ⊢
        go_simp
      | 6, ho =>
        cases ho
        refine wp_value (v := .pointer (some ⟨b, 0, none⟩)) (w' := w5) ?_ ⟨_, rfl, rfl, Below.refl _ _⟩
        clear hdep hk
        generalize a.eval = ev at p0 ⊢
        go_simp
      | 7, ho =>
        cases ho
        have e1 : a.eval (.tmp 11) = .pointer (some ⟨b, 0, none⟩) := hdep ⟨6, .data⟩ (by simp) rfl
        refine wp_enter (f := 31) (args := #[.pointer (some ⟨b, 0, none⟩), .int .i64 4]) ?_ ((CL4.out w5 M5.out).mono fun e y h => ⟨_, h.1, _, rfl, rfl, by rw [h.2]; exact Below.refl _ _⟩)
        have e2 : a.eval (.func 31) = .func (.func 31) #[] #[] := rfl
        have e3 : a.eval (.const (.int .i64 4)) = .int .i64 4 := rfl
        generalize a.eval = ev at e1 e2 e3 ⊢
        go_simp
      | 8, ho =>
        cases ho
        refine wp_value (v := .pointer (some ⟨b, 0, none⟩)) (w' := w5) ?_ ⟨_, rfl, rfl, Below.refl _ _⟩
        clear hdep hk
        generalize a.eval = ev at p0 ⊢
        go_simp
      | 9, ho =>
        cases ho
        have e1 : a.eval (.tmp 13) = .pointer (some ⟨b, 0, none⟩) := hdep ⟨8, .data⟩ (by simp) rfl
        refine wp_enter (f := 31) (args := #[.pointer (some ⟨b, 0, none⟩), .int .i64 8]) ?_ ((CL8.out w5 M5.out).mono fun e y h => ⟨_, h.1, _, rfl, rfl, by rw [h.2]; exact Below.refl _ _⟩)
        have e2 : a.eval (.func 31) = .func (.func 31) #[] #[] := rfl
        have e3 : a.eval (.const (.int .i64 8)) = .int .i64 8 := rfl
        generalize a.eval = ev at e1 e2 e3 ⊢
        go_simp
      | 10, ho =>
        cases ho
        have e1 : a.eval (.tmp 14) = .int .u32 ((g32 f 8 : Nat) : Int) := hdep ⟨9, .data⟩ (by simp) rfl
        have hw : IntKind.i64.wrap ((g32 f 8 : Nat) : Int) = ((g32 f 8 : Nat) : Int) := by have := W8.out; rw [IntKind.wrap_i64]; omega
        refine wp_value (v := .int .i64 ((g32 f 8 : Nat) : Int)) (w' := w5) ?_ ⟨_, rfl, rfl, Below.refl _ _⟩
        clear hdep hk
        generalize a.eval = ev at e1 ⊢
        go_simp
        try exact hw
      | 11, ho =>
        cases ho
        refine wp_value (v := .pointer (some ⟨b, 0, none⟩)) (w' := w5) ?_ ⟨_, rfl, rfl, Below.refl _ _⟩
        clear hdep hk
        generalize a.eval = ev at p0 ⊢
        go_simp
      | 12, ho =>
        cases ho
        have e1 : a.eval (.tmp 16) = .pointer (some ⟨b, 0, none⟩) := hdep ⟨11, .data⟩ (by simp) rfl
        refine wp_enter (f := 31) (args := #[.pointer (some ⟨b, 0, none⟩), .int .i64 56]) ?_ ((CL56.out w5 M5.out).mono fun e y h => ⟨_, h.1, _, rfl, rfl, by rw [h.2]; exact Below.refl _ _⟩)
        have e2 : a.eval (.func 31) = .func (.func 31) #[] #[] := rfl
        have e3 : a.eval (.const (.int .i64 56)) = .int .i64 56 := rfl
        generalize a.eval = ev at e1 e2 e3 ⊢
        go_simp
      | 13, ho =>
        cases ho
        have e1 : a.eval (.tmp 8) = .int .u8 ((f 0 : Nat) : Int) := hdep ⟨3, .data⟩ (by simp) rfl
        have e2 : a.eval (.tmp 10) = .int .i64 ((g16 f 2 : Nat) : Int) := hdep ⟨5, .data⟩ (by simp) rfl
        have e3 : a.eval (.tmp 12) = .int .u32 ((g32 f 4 : Nat) : Int) := hdep ⟨7, .data⟩ (by simp) rfl
        have e4 : a.eval (.tmp 15) = .int .i64 ((g32 f 8 : Nat) : Int) := hdep ⟨10, .data⟩ (by simp) rfl
        have e5 : a.eval (.tmp 17) = .int .u32 ((g32 f 56 : Nat) : Int) := hdep ⟨12, .data⟩ (by simp) rfl
        exact wp_build 27 #[(0, .tmp 8), (1, .tmp 10), (2, .tmp 12), (3, .tmp 15), (5, .tmp 17)] rfl (by simp [e1, e2, e3, e4, e5, ino_built01235]) ⟨_, rfl, by simp [e1, e2, e3, e4, e5, ino_built01235]; rfl, Below.refl _ _⟩
      | 14, ho =>
        cases ho
        refine wp_value (v := .pointer (some ⟨w5.heap.size, 0, none⟩)) (w' := w5.alloc (.cells (ics .zero) 27)) ?_ ⟨_, rfl, ⟨_, rfl, hsz, heap_alloc_new w5 _⟩, below_new _ _⟩
        clear hdep p0 hk
        generalize a.eval = ev
        go_simp
    · intro a w5 hk hb hv
      obtain ⟨x, hx, ea⟩ := hk.lit2 32 rfl
      obtain ⟨b3, h14, hsb, hg⟩ : ∃ c, a.eval (.tmp 3) = .pointer (some ⟨c, 0, none⟩) ∧ w1.heap.size ≤ c ∧ IVar w5 c .zero := hv 14 (by decide)
      have h13 : a.eval (.tmp 18) = .agg (ics (told0 f)) := hv 13 (by decide)
      rw [hx] at h14 h13
      replace ea : a = { tmps := #[Value.pointer (some ⟨b, 0, none⟩), undef, Value.pointer (some ⟨w.heap.size, 0, none⟩), x 3, undef, x 5, x 6, x 7, x 8, x 9, x 10, x 11, x 12, x 13, x 14, x 15, x 16, x 17, x 18, undef, undef, undef, undef, undef, undef, undef, undef, undef, undef, undef, undef, undef], defers := [] } := ea
      rw [h14, h13] at ea
      subst ea
      have HB := Lib.hid (show Below w1.heap.size w1 w5 from ⟨hb.os, hb.tape, hb.output, hb.size, hb.block⟩)
      have HG := Lib.hid hg
      clear hk hb hv hx h14 h13 hg
      refine store_rowI rfl (.tmp 3) (.tmp 18) rfl b3 (told0 f) .zero rfl rfl HG.out ?_
      simp only [Act.put]
      go_wp2_with fail
      go_meet
      exact ⟨b3, rfl, hsb, HG.out.row _, below_setRow HB.out hsb _⟩
  case rest =>
    obtain ⟨b3, rfl, hb3, hi3, hbx⟩ := hcut
    have I3 := Lib.hid (show IVar _ b3 (toldK f hf 0) by rw [toldK_0]; exact hi3)
    have BX := Lib.hid hbx
    have Z := Lib.hid hs.out
    clear hi3 hbx CS CL4 CL8 CL56 W8 hs
    have CK : Hid (∀ (k : Nat), k < 11 → ∀ W, MVar W b f → Calls Try.prog 31 #[.pointer (some ⟨b, 0, none⟩), .int .i64 (12 + 4 * (k : Int))] W fun e w' => e = .returned (.int .u32 ((g32 f (12 + 4 * k) : Nat) : Int)) ∧ w' = W) := Lib.hid fun k hk W h => by
      have q := long_any b (12 + 4 * k) f W h HF.out (by omega)
      rwa [show ((12 + 4 * k : Nat) : Int) = 12 + 4 * (k : Int) by omega] at q
    go_wp2_with fail
    go_loopw [19] (fun i wr => ∃ k : Nat, k ≤ 11 ∧ i = .int .i64 k ∧ IVar wr b3 (toldK f hf k) ∧ Below w1.heap.size w1 wr) (fun i _ => 11 - (intOf i).toNat)
    case atStart => exact ⟨0, Nat.zero_le _, rfl, I3.out, BX.out⟩
    case round =>
      obtain ⟨k, hk, rfl, hiv, hbw⟩ := hrel
      have IV := Lib.hid hiv
      have BW := Lib.hid hbw
      clear hiv hbw I3 BX
      by_cases hlt : k < 11
      · have MK := Lib.hid (M0.out.below BW.out)
        have cK := IV.out.cell (ics_p _ hlt)
        have fK := IV.out.frozen (4 + k)
        have IN := Lib.hid (IV.out.setP k (g32 f (12 + 4 * k)) hlt (g32_lt HF.out _))
        have CK1 := Lib.hid (CK.out k hlt _ MK.out)
        go_wp2_with (go_at_call 31; with_reducible refine CK1.out.mono ?_; rintro e w' ⟨rfl, rfl⟩)
        go_roundw
        case rel => exact ⟨k + 1, by omega, by congr 1, by rw [← toldK_succ]; exact IN.out, BW.out.setCell hb3 _⟩
        case measure => simp [intOf]; omega
      · obtain rfl : k = 11 := by omega
        have ZL := Lib.hid (show IVar _ w.heap.size .zero from N0.out.below BW.out)
        go_wp2_with (first
          | (refine load_ino rfl (.tmp 3) rfl b3 0 rfl (toldK f hf 11) IV.out.at ?_)
          | (refine store_rowI rfl (.tmp 2) (.tmp 31) rfl w.heap.size (toldK f hf 11) .zero rfl rfl ZL.out ?_))
        exact bodyPost_ret (v := .agg (ics (toldK f hf 11))) (results_ino Try.results23 _ _ w.heap.size (toldK f hf 11) rfl (ZL.out.row _)) rfl ⟨by rw [toldK_all], below_setRow (B0.out.trans (BW.out.mono (by have := Z.out; omega))) (Nat.le_refl _) _⟩
end Go.Proofs.Ytfijagjkgmhimaa
