import Derived.Test.YtinpdomcfijnmaaSloQ3
import Derived.Great.BuildSlice
namespace Go.Proofs.Ytinpdomcfijnmaa
open Go.RowKit

/-! The document's own List. -/
theorem list_same {s t : ByteArray} (h : s.toList = t.toList) : s = t := by
  rw [ByteArray.toList_eq, ByteArray.toList_eq] at h
  obtain ⟨⟨l⟩⟩ := s
  obtain ⟨⟨m⟩⟩ := t
  have h : l = m := h
  rw [h]
/-- The first i slots are right. -/
structure RightTo (X : Blk) (i : Nat) : Prop where
  each : ∀ j, j < i → RightB (cutS X j)
  two : ∀ j k, j < k → k < i → (slotS X k).ino ≠ 0 → (slotS X j).name ≠ (slotS X k).name
theorem RightTo.all {X : Blk} (h : RightTo X 8) : Right X := ⟨h.each, h.two⟩
theorem RightTo.nil (X : Blk) : RightTo X 0 := ⟨fun _ h => absurd h (Nat.not_lt_zero _), fun _ _ _ h => absurd h (Nat.not_lt_zero _)⟩
theorem RightTo.next {X : Blk} {i : Nat} (h : RightTo X i) (h1 : RightB (cutS X i)) (h2 : (slotS X i).ino ≠ 0 → ∀ j, j < i → (slotS X j).name ≠ (slotS X i).name) : RightTo X (i + 1) :=
  ⟨fun j hj => by
    rcases Nat.lt_or_ge j i with q | q
    · exact h.each j q
    · rw [show j = i by omega]; exact h1,
   fun j k hjk hk h0 => by
    rcases Nat.lt_or_ge k i with q | q
    · exact h.two j k hjk q h0
    · obtain rfl : k = i := by omega
      exact h2 h0 j hjk⟩
theorem not_right {X : Blk} {i : Nat} {f : Nat → Nat} (hi : i < 8) (e : cutS X i = f) (h : ¬ RightB f) : ¬ Right X := fun r => h (by rw [← e]; exact r.each i hi)
theorem slotAt_zero {f : Nat → Nat} (h : g32 f 0 = 0) : slotAt f = .free := if_pos h
theorem slotAt_some {f : Nat → Nat} {ino : Nat} (h : g32 f 0 = ino) (h0 : ino ≠ 0) : slotAt f = ⟨ino, nameOf (fun k => f (5 + k)) (f 4)⟩ := by unfold slotAt; rw [h, if_neg h0]
theorem not_may {f : Nat → Nat} {ino : Nat} (h : g32 f 0 = ino) (h0 : ino ≠ 0) (hm : ¬ MayN (nameOf (fun k => f (5 + k)) (f 4))) : ¬ RightB f := fun r => by
  have := r.ok
  rw [slotAt_some h h0] at this
  exact hm (this.may h0)
theorem not_same {f : Nat → Nat} {x : SlotV} (e : slotAt f = x) (h : sameB (slotB x) f 32 = false) : ¬ RightB f := fun r => by
  have h1 : sameB (slotB x) f 32 = true := sameB_yes fun i hi => by rw [← e]; exact (r.so i hi).symm
  rw [h] at h1; cases h1
theorem is_right {f : Nat → Nat} {x : SlotV} (e : slotAt f = x) (h : SOk x) (hs : sameB (slotB x) f 32 = true) : RightB f :=
  ⟨by rw [e]; exact h, fun k hk => by rw [e]; exact ((of_decide_eq_true hs) k hk).symm⟩
/-- A name out of bytes, none of them too. -/
theorem to_name0 {w : World} {b o n c : Nat} {f : Nat → Nat} (hf : ∀ i, f i < 256) (hc : ∀ i, i < n → w.cell? ⟨b, o + i, none⟩ = some (.int .u8 ((f i : Nat) : Int))) : (convert 58 9 (.slice (some ⟨b, o, none⟩) n c)).run Try.prog w = .ok (.string (nameOf f n)) w := by
  have e := run_convert_bytes_back (P := Try.prog) w 58 9 5 ⟨b, o, none⟩ c ((List.range n).map fun i => UInt8.ofNat (f i)) Try.underlying58 Try.underlying5 Try.underlying9 (fun j hj => by
    have hj' : j < n := by simpa using hj
    rw [show (⟨b, o, none⟩ : Addr).add j = ⟨b, o + j, none⟩ by unfold Addr.add; split <;> simp_all, hc j hj']
    have := hf j
    simp
    omega)
  rw [List.length_map, List.length_range] at e
  exact e
/-- What List keeps in memory: the block, the row of slots. -/
structure LS (w0 : World) (X : Blk) (v : Value) (i : Nat) (w : World) : Prop where
  blk : BVar w w0.heap.size X
  own : w.ownsRow (w0.heap.size + 1) 33 2 v i (slC (slotS X) i)
  low : Below w0.heap.size w0 w
theorem LS.below {w0 w w' : World} {X : Blk} {v : Value} {i : Nat} (h : LS w0 X v i w) (hb : Below w.heap.size w w') : LS w0 X v i w' :=
  ⟨h.blk.below hb, h.own.kept (row := none) ⟨hb.os, hb.tape, hb.output, hb.size, fun j hj _ => hb.block j hj⟩ (by rcases h.own.2 with ⟨rfl, _⟩ | ⟨_, _, _, rfl, _⟩ <;> simp [Value.ownBlock]), low_go h.low hb⟩
theorem LS.row {w0 w : World} {X : Blk} {v : Value} {i : Nat} (h : LS w0 X v i w) {k : Nat} (hk : k < 8) : Row w (some ⟨w0.heap.size, 32 * k, none⟩) 32 (cutS X k) :=
  ⟨cutS_lt X k, fun _ => ⟨_, _, rfl, h.blk.lt, fun i hi => by
    have := h.blk.at.cell (i := 32 * k + i) (by omega)
    rw [Nat.zero_add] at this
    rw [this, cutS_in hi]⟩⟩
theorem slice_cut (b i : Nat) (hi : i < 8) (w : World) : (Instr.sliceAt 23 (.pointer (some ⟨b, 0, none⟩)) (some (.int .i64 (32 * (i : Int)))) (some (.int .i64 (32 * (i : Int) + 32))) none).run Try.prog w = .ok (.slice (some ⟨b, 32 * i, none⟩) 32 (256 - 32 * i)) w := by
  have h := run_sliceAt_array_lh (P := Try.prog) w 23 ⟨b, 0, none⟩ (by kernel_rfl) .i64 .i64 (32 * (i : Int)) (32 * (i : Int) + 32) (by omega) (by omega) (by rw [show Try.prog.arrayLen 23 = 256 by kernel_rfl]; omega)
  obtain ⟨z, hz, hh⟩ := Option.map_eq_some_iff.1 u8_info
  simp only [Prod.mk.injEq] at hh
  rw [h, show Try.prog.elem 23 = 5 by kernel_rfl, show Try.prog.arrayLen 23 = 256 by kernel_rfl]
  have e1 : (32 * (i : Int)).toNat = 32 * i := by omega
  have e2 : (32 * (i : Int) + 32).toNat = 32 * i + 32 := by omega
  have e3 : ¬ 256 = 32 * i := by omega
  have e4 : 32 * i + 32 - 32 * i = 32 := by omega
  simp [sizeOf, typeInfo, hz, hh, slicedAt, e1, e2, e3, e4, Addr.add]
  try omega
theorem LS.only {w0 w w' : World} {X : Blk} {v : Value} {i g : Nat} (h : LS w0 X v i w) (ho : Only g w w') (hg : w0.heap.size < g) (hne : ∀ r, v.ownBlock = some r → r < g) : LS w0 X v i w' :=
  ⟨ho.blk (by omega) h.blk, h.own.kept ho (.inr fun e => by have := hne g e; omega), low_only h.low ho (by omega)⟩
theorem LS.base {w W : World} {X : Blk} {i : Nat} {v : Value} (h : LS w X v i W) : ∀ r, v.ownBlock = some r → w.heap.size + 1 ≤ r := fun r e => (h.own.lt r e).1
theorem LS.app {w W w5 : World} {X : Blk} {i : Nat} {v v' : Value} {xs : List Value} (h : LS w X v i W) (o : Obj) (hown : w5.ownsRow (w.heap.size + 1) 33 2 v' (i + 1) xs) (hx : xs = slC (slotS X) (i + 1)) (hgrow : (W.alloc o).grownBy w5 v.ownBlock) : LS w X v' (i + 1) w5 := by
  have ha := h.below (below_new W o)
  refine ⟨(hgrow.block w.heap.size ha.blk.lt (fun e => ?_)).trans ha.blk, by rw [← hx]; exact hown, ha.low.grown hgrow ha.low.size (fun k e => by have := h.base k e; omega)⟩
  have := h.base _ e.symm
  omega
theorem one_fill (x : SlotV) : Instr.fill (fun i => some (i * 2, 2)) ((Array.range (1 * 2)).map ((Value.agg #[.int .u32 0, .string ⟨#[]⟩]).cells[· % (Value.agg #[.int .u32 0, .string ⟨#[]⟩]).cells.size]!)) [(0, .agg (sls x))] = some (sls x) := by
  unfold sls
  kernel_rfl
theorem build_one {ops : Array Oper} {rest : List Oper} {op : Oper} {a : Act} {w : World} {Q : Exit → Act → World → Prop} (hgd : op.guard = none) (y0 : Operand) (ho : op.op = .buildSlice 24 1 #[(0, y0)]) (x : SlotV) (h0 : a.eval y0 = .agg (sls x))
    (h : wpList Try.prog ops Q rest (a.put op.dst (.slice (some ⟨w.heap.size, 0, none⟩) 1 1)) (w.alloc (.cells (sls x) 33))) : wpList Try.prog ops Q (op :: rest) a w := by
  obtain ⟨i, i1, i2⟩ := Option.map_eq_some_iff.1 slot_two
  simp only [Prod.mk.injEq] at i2
  obtain ⟨hz, hs⟩ := i2
  refine wpList_plain hgd fun _ hK => wp_buildSlice 24 33 1 _ ho (sls x) i _ Try.underlying24 i1 hz (by rw [hs]; decide) (by rw [hs]; decide) ?_ (hK _ _ h)
  rw [hs]
  simp only [List.map_toArray, List.map_cons, List.map_nil, h0]
  exact one_fill x
/-- What List answers. -/
def Listed (X : Blk) (e : Ending) (w : World) : Prop :=
  (Right X ∧ ∃ A c, e = .returned (.tuple #[.slice A 8 c, .int .i64 0]) ∧ SRow w A 8 (slotS X)) ∨ (¬ Right X ∧ e = .returned (.tuple #[.slice none 0 0, .int .i64 80]))
set_option maxRecDepth 100000 in
set_option maxHeartbeats 4000000 in
theorem rList (X : Blk) (w : World) : Calls Try.prog 10 #[.agg (arr X)] w fun e w' => Listed X e w' ∧ Below w.heap.size w w' := by
  have hz := fun W => zero_slot W
  obtain ⟨i0, hi0, hzz⟩ := Option.map_eq_some_iff.1 slot_info
  simp only [Prod.mk.injEq] at hzz
  obtain ⟨hz0, hz1, hz2⟩ := hzz
  have HZ0 := Lib.hid hz0
  have HZ1 := Lib.hid hz1
  have HZ2 := Lib.hid hz2
  have HI0 := Lib.hid hi0
  clear hz0 hz1 hz2 hi0
  go_enter Try.func10, Try.ntmps10
  go_upto_region 2 with fail
  have P0 : Hid (LS w X (.slice none 0 0) 0 (w.alloc (.cells (arr X) 23))) := Lib.hid ⟨heap_alloc_new w _, World.ownsRow_nil _ _ _ _, below_new w _⟩
  generalize w.alloc (.cells (arr X) 23) = w1 at P0 ⊢
  go_wp2_with fail
  go_loopw [4, 5] (fun v iv wr => ∃ i : Nat, i ≤ 8 ∧ iv = .int .i64 i ∧ Hid (LS w X v i wr) ∧ Hid (RightTo X i)) (fun _ iv _ => 8 - (intOf iv).toNat)
  case atStart => exact ⟨0, by omega, rfl, P0, Lib.hid (RightTo.nil X)⟩
  case round =>
    obtain ⟨i, hi, rfl, P, R⟩ := hrel
    clear P0
    by_cases hlt : i < 8
    rotate_left
    · obtain rfl : i = 8 := by omega
      obtain ⟨A, c, rfl, _, hs⟩ := own_srow P.out.own
      have S := Lib.hid hs
      clear hs
      go_wp2_with fail
      go_ret2
      exact ⟨.inl ⟨R.out.all, A, c, rfl, S.out⟩, P.out.low⟩
    have w32 : IntKind.i64.wrap (32 * (i : Int)) = 32 * (i : Int) := by rw [IntKind.wrap_i64]; omega
    have w64 : IntKind.i64.wrap (32 * (i : Int) + 32) = 32 * (i : Int) + 32 := by rw [IntKind.wrap_i64]; omega
    have sc := slice_cut w.heap.size i hlt
    go_upto_region 6 with fail
    have ROW := Lib.hid (P.out.row hlt)
    have HL := Lib.hid hlt
    have CG := Lib.hid (rGet32_yes (some ⟨w.heap.size, 32 * i, none⟩) 32 (256 - 32 * i) 0 (cutS X i) wr (by omega) ROW.out (by omega) (by omega))
    clear sc w32 w64 ROW
    go_upto_region 7 with (go_at_call 24; with_reducible refine CG.out.mono ?_; rintro e w2 ⟨rfl, dd, rfl⟩)
    have P2 : Hid (LS w X u4 i (wr.drewN dd)) := Lib.hid (P.out.below (Below.drewN (Below.refl _ _) dd))
    clear CG P
    generalize wr.drewN dd = w2 at P2 ⊢
    obtain ⟨f, hf⟩ : ∃ f, cutS X i = f := ⟨_, rfl⟩
    have ROW := Lib.hid (P2.out.row HL.out)
    rw [hf] at ROW ⊢
    have HF := Lib.hid hf
    clear hf
    have hin := g32_lt ROW.out.1 0
    obtain ⟨ino, hino⟩ : ∃ ino, g32 f 0 = ino := ⟨_, rfl⟩
    rw [hino] at hin ⊢
    have HI := Lib.hid hino
    clear hino
    go_upto_region 8 with (first
      | (refine build_slot rfl #[(0, .tmp 27)] rfl ⟨ino, ⟨#[]⟩⟩ (slot_built1 ino) ?_)
      | (refine store_newSl rfl (.tmp 9) (.tmp 28) rfl ⟨ino, ⟨#[]⟩⟩ rfl rfl ?_))
    have bn := below_new w2 (.cells (sls ⟨ino, ⟨#[]⟩⟩) 33)
    have P3 := Lib.hid (P2.out.below bn)
    have S3 := Lib.hid (SVar.new w2 ⟨ino, ⟨#[]⟩⟩)
    have Z3 : Hid (w.heap.size < w2.heap.size) := Lib.hid P2.out.blk.lt
    have Z4 : Hid (∀ r, u4.ownBlock = some r → r < w2.heap.size) := Lib.hid fun r e => (P2.out.own.lt r e).2
    clear bn P2 ROW
    generalize w2.alloc (.cells (sls ⟨ino, ⟨#[]⟩⟩) 33) = w3 at P3 S3 ⊢
    generalize w2.heap.size = bx at S3 Z3 Z4 ⊢
    have ROW := Lib.hid (P3.out.row HL.out)
    rw [HF.out] at ROW
    obtain ⟨_, _, hb, _, hrc⟩ := ROW.out.2 (by omega)
    injection hb with hb
    injection hb with hb1 hb2 _
    subst hb1 hb2
    have d4 := hrc 4 (by omega)
    have n4 := ROW.out.1 4
    clear hrc hlt
    go_upto_region 9 with fail
    clear d4
    have N4 := Lib.hid n4
    clear n4
    by_cases h0 : ino = 0
    · subst h0
      have AT : Hid (slotAt f = .free) := Lib.hid (slotAt_zero HI.out)
      have S4 : Hid (SVar w3 bx .free) := S3
      clear S3
      obtain ⟨sb, hsb⟩ : ∃ sb, sameB (slotB .free) f 32 = sb := ⟨_, rfl⟩
      have CB := Lib.hid fun W => rBytes .free W (by decide) (by decide)
      have CS : Hid (∀ W, BY w3 .free (slotB .free) W → Calls Try.prog 25 #[.slice (some ⟨w3.heap.size + 1, 0, none⟩) 32 32, .slice (some ⟨w.heap.size, 32 * i, none⟩) 32 (256 - 32 * i)] W fun e w' => e = .returned (.bool sb) ∧ ∃ d, w' = W.drewN d) := Lib.hid fun W hW => by
        rw [← hsb]
        exact rSameB _ _ 32 _ _ _ _ W (by omega) (hW.own.row (Nat.le_refl _)) (by have := P3.out.below hW.low; have := this.row HL.out; rwa [HF.out] at this)
      rcases sb with _ | _
      · have NR := Lib.hid (not_right HL.out HF.out (not_same AT.out hsb))
        clear hsb
        go_wp2_with (first
          | (refine load_slot_w (by with_unfolding_all rfl) (.tmp 9) rfl bx 0 rfl .free S4.out.at ?_)
          | (go_at_call 26; with_reducible refine (CB.out _).mono ?_; rintro e w4 ⟨rfl, hby⟩)
          | (go_at_call 25; with_reducible refine (CS.out _ hby).mono ?_; rintro e w5 ⟨rfl, d5, rfl⟩))
        go_ret2
        exact ⟨.inr ⟨NR.out, rfl⟩, low_drewN (low_go P3.out.low hby.low) _⟩
      · have RT : Hid (RightTo X (i + 1)) := Lib.hid (R.out.next (by rw [HF.out]; exact is_right AT.out .free hsb) (fun q => absurd (show (slotS X i).ino = 0 by unfold slotS; rw [HF.out, AT.out]; rfl) q))
        have SX : Hid (slotS X i = .free) := Lib.hid (by unfold slotS; rw [HF.out, AT.out])
        clear hsb
        go_wp2_with (first
          | (refine load_slot_w (by with_unfolding_all rfl) (.tmp 9) rfl bx 0 rfl .free S4.out.at ?_)
          | (go_at_call 26; with_reducible refine (CB.out _).mono ?_; rintro e w4 ⟨rfl, hby⟩)
          | (go_at_call 25; with_reducible refine (CS.out _ hby).mono ?_; rintro e w5 ⟨rfl, d5, rfl⟩))
        have P5 : Hid (LS w X u4 i (w4.drewN d5)) := Lib.hid ((P3.out.below hby.low).below (Below.drewN (Below.refl _ _) d5))
        have S5 : Hid (SVar (w4.drewN d5) bx .free) := Lib.hid (SVar.keep (S4.out.below hby.low) rfl)
        clear P3 S4 CB CS hby ROW
        generalize w4.drewN d5 = w6 at P5 S5 ⊢
        go_loopw [11] (fun kv wr => ∃ k : Nat, k ≤ i ∧ kv = .int .i64 k ∧ Hid (LS w X u4 i wr) ∧ Hid (SVar wr bx .free)) (fun kv _ => i - (intOf kv).toNat)
        case atStart => exact ⟨0, Nat.zero_le _, rfl, P5, S5⟩
        case round =>
          obtain ⟨k, hk, rfl, P7, S7⟩ := hrel
          clear P5 S5
          by_cases hlt : k < i
          · have g1 : (k : Int) < (i : Int) := by omega
            have k8 : k < 8 := by have := HL.out; omega
            go_wp2_with fail
            go_quiet (fail)
            go_wp2_with fail
            go_roundw
            case rel => exact ⟨k + 1, by omega, by congr 1, Lib.hid (P7.out.below (Below.drewN (Below.refl _ _) _)), S7⟩
            case measure => simp [intOf]; omega
          · have g1 : ¬ (k : Int) < (i : Int) := by omega
            have i8 := HL.out
            go_wp2_with (first
              | (refine load_slot rfl (.tmp 9) rfl bx 0 rfl .free S7.out.at ?_)
              | (refine build_one rfl (.tmp 78) rfl .free rfl ?_)
              | (at_builtin; refine wpList_append_lies _ rfl (.tmp 77) (.tmp 79) 24 rfl (w.heap.size + 1) 33 i0 _ 2 24 Try.underlying24 HI0.out HZ0.out HZ1.out HZ2.out (by rfl) (by omega) _ i (slC (slotS X) i) (by rfl) (P7.out.below (below_new _ _)).own ⟨wr.heap.size, 0, none⟩ 1 1 (sls .free).toList (by rfl) (by rfl) (World.news_of_block (heap_alloc_new wr _)) (by simp [sls, SlotV.free, Value.oneCell']) (by omega) (by simp only [maxLen]; omega) (by omega) (by have := P7.out.blk.lt; simp; omega) (wr.heap.size + 1) (by simp) ?_; intro gg cap w8 hown hgrow hat hlt2; have P8 := Lib.hid (P7.out.app _ hown (by rw [slC, SX.out]) hgrow); clear hown hgrow hat hlt2))
            go_roundw
            case rel => exact ⟨i + 1, by omega, by congr 1, P8, RT⟩
            case measure => simp [intOf]; omega
    · have H0 := Lib.hid h0
      have t0 : decide ((0 : Int) < (ino : Int)) = true := by simp; omega
      have v0 : (0 : Int) < (ino : Int) := by omega
      clear h0
      by_cases h27 : f 4 ≤ 27
      rotate_left
      · have NR := Lib.hid (not_right HL.out HF.out (not_may HI.out H0.out (fun q => h27 (by have := q.le; rwa [nameOf_size] at this))))
        have t1 : decide (((f 4 : Nat) : Int) ≤ 27) = false := by simp; omega
        have v1 : ¬ ((f 4 : Nat) : Int) ≤ 27 := by omega
        have CM := Lib.hid fun W => rMayN ⟨#[]⟩ W
        rw [show decide (MayN ⟨#[]⟩) = false from decide_eq_false fun q => q.ne rfl] at CM
        have c1 := S3.out.name
        clear h27
        go_wp2_with (go_at_call 16; with_reducible refine (CM.out _).mono ?_; rintro e w4 ⟨rfl, rfl⟩)
        go_ret2
        exact ⟨.inr ⟨NR.out, rfl⟩, P3.out.low⟩
      · have t1 : decide (((f 4 : Nat) : Int) ≤ 27) = true := by simp; omega
        have v1 : ((f 4 : Nat) : Int) ≤ 27 := by omega
        have n0 : (0 : Int) ≤ ((f 4 : Nat) : Int) := by omega
        have i8 : (i : Int) < 8 := by have := HL.out; omega
        have w5 : IntKind.i64.wrap (5 + ((f 4 : Nat) : Int)) = 5 + ((f 4 : Nat) : Int) := by rw [IntKind.wrap_i64]; omega
        have x5 : (5 + ((f 4 : Nat) : Int)).toNat = 5 + f 4 := by omega
        obtain ⟨nm, hnm⟩ : ∃ nm, nameOf (fun k => f (5 + k)) (f 4) = nm := ⟨_, rfl⟩
        have CV : ∀ c, (convert 58 9 (.slice (some ⟨w.heap.size, 32 * i + 5, none⟩) (f 4) c)).run Try.prog w3 = .ok (.string nm) w3 := fun c => by
          rw [← hnm]
          obtain ⟨_, _, hb, _, hrc⟩ := ROW.out.2 (by omega)
          injection hb with hb
          injection hb with hb1 hb2 _
          subst hb1 hb2
          exact to_name0 (fun k => ROW.out.1 _) fun j hj => by rw [Nat.add_assoc]; exact hrc (5 + j) (by omega)
        have c1 := S3.out.name
        have z1 := S3.out.frozen 1
        have AT : Hid (slotAt f = ⟨ino, nm⟩) := Lib.hid (by rw [slotAt_some HI.out H0.out, hnm])
        have NS : Hid (nm.size ≤ 27) := Lib.hid (by rw [← hnm, nameOf_size]; exact h27)
        have BAD : Hid (¬ MayN nm → ¬ Right X) := Lib.hid fun q => not_right HL.out HF.out (not_may HI.out H0.out (by rw [hnm]; exact q))
        clear hnm
        go_upto_region 11 with fail
        have S4 : Hid (SVar (w3.setCell ⟨bx, 1, none⟩ (.string nm)) bx ⟨ino, nm⟩) := Lib.hid (S3.out.setName nm)
        have P4 : Hid (LS w X u4 i (w3.setCell ⟨bx, 1, none⟩ (.string nm))) := Lib.hid (P3.out.only (Only.set w3 bx 1 _) Z3.out Z4.out)
        clear CV c1 z1 S3 P3 ROW Z4 w5 x5 t1 v1 n0 h27
        generalize w3.setCell ⟨bx, 1, none⟩ (.string nm) = w4 at P4 S4 ⊢
        have c1 : w4.cell? ⟨bx, 1, none⟩ = some (.string nm) := S4.out.name
        by_cases hm : MayN nm
        rotate_left
        · have NR := Lib.hid (BAD.out hm)
          have CM := Lib.hid fun W => rMayN nm W
          rw [decide_eq_false hm] at CM
          clear hm
          go_wp2_with (go_at_call 16; with_reducible refine (CM.out _).mono ?_; rintro e w4 ⟨rfl, rfl⟩)
          go_ret2
          exact ⟨.inr ⟨NR.out, rfl⟩, P4.out.low⟩
        have CM := Lib.hid fun W => rMayN nm W
        rw [decide_eq_true hm] at CM
        have OK := Lib.hid (may_ok hm H0.out hin)
        clear hm BAD
        obtain ⟨sb, hsb⟩ : ∃ sb, sameB (slotB ⟨ino, nm⟩) f 32 = sb := ⟨_, rfl⟩
        have CB := Lib.hid fun W => rBytes ⟨ino, nm⟩ W hin NS.out
        have CS : Hid (∀ W, BY w4 ⟨ino, nm⟩ (slotB ⟨ino, nm⟩) W → Calls Try.prog 25 #[.slice (some ⟨w4.heap.size + 1, 0, none⟩) 32 32, .slice (some ⟨w.heap.size, 32 * i, none⟩) 32 (256 - 32 * i)] W fun e w' => e = .returned (.bool sb) ∧ ∃ d, w' = W.drewN d) := Lib.hid fun W hW => by
          rw [← hsb]
          exact rSameB _ _ 32 _ _ _ _ W (by omega) (hW.own.row (Nat.le_refl _)) (by have := P4.out.below hW.low; have := this.row HL.out; rwa [HF.out] at this)
        rcases sb with _ | _
        · have NR := Lib.hid (not_right HL.out HF.out (not_same AT.out hsb))
          clear hsb
          go_wp2_with (first
            | (go_at_call 16; with_reducible refine (CM.out _).mono ?_; rintro e w4 ⟨rfl, rfl⟩)
            | (refine load_slot_w (by with_unfolding_all rfl) (.tmp 9) rfl bx 0 rfl ⟨ino, nm⟩ S4.out.at ?_)
            | (go_at_call 26; with_reducible refine (CB.out _).mono ?_; rintro e w5 ⟨rfl, hby⟩)
            | (go_at_call 25; with_reducible refine (CS.out _ hby).mono ?_; rintro e w6 ⟨rfl, d5, rfl⟩))
          go_ret2
          exact ⟨.inr ⟨NR.out, rfl⟩, low_drewN (low_go P4.out.low hby.low) _⟩
        · have RB : Hid (RightB (cutS X i)) := Lib.hid (by rw [HF.out]; exact is_right AT.out OK.out hsb)
          have SX : Hid (slotS X i = ⟨ino, nm⟩) := Lib.hid (by unfold slotS; rw [HF.out, AT.out])
          clear hsb
          go_wp2_with (first
            | (go_at_call 16; with_reducible refine (CM.out _).mono ?_; rintro e w4 ⟨rfl, rfl⟩)
            | (refine load_slot_w (by with_unfolding_all rfl) (.tmp 9) rfl bx 0 rfl ⟨ino, nm⟩ S4.out.at ?_)
            | (go_at_call 26; with_reducible refine (CB.out _).mono ?_; rintro e w5 ⟨rfl, hby⟩)
            | (go_at_call 25; with_reducible refine (CS.out _ hby).mono ?_; rintro e w6 ⟨rfl, d5, rfl⟩))
          have P5 : Hid (LS w X u4 i (w5.drewN d5)) := Lib.hid ((P4.out.below hby.low).below (Below.drewN (Below.refl _ _) d5))
          have S5 : Hid (SVar (w5.drewN d5) bx ⟨ino, nm⟩) := Lib.hid (SVar.keep (S4.out.below hby.low) rfl)
          clear P4 S4 CB CS CM hby c1
          generalize w5.drewN d5 = w7 at P5 S5 ⊢
          go_loopw [11] (fun kv wr => ∃ k : Nat, k ≤ i ∧ kv = .int .i64 k ∧ Hid (LS w X u4 i wr) ∧ Hid (SVar wr bx ⟨ino, nm⟩) ∧ Hid (∀ j, j < k → (slotS X j).name ≠ nm)) (fun kv _ => i - (intOf kv).toNat)
          case atStart => exact ⟨0, Nat.zero_le _, rfl, P5, S5, Lib.hid fun j h => absurd h (Nat.not_lt_zero _)⟩
          case round =>
            obtain ⟨k, hk, rfl, P7, S7, NE⟩ := hrel
            clear P5 S5
            by_cases hlt : k < i
            · have g0 : (0 : Int) ≤ (k : Int) := by omega
              have g1 : (k : Int) < (i : Int) := by omega
              have k8 : k < 8 := by have := HL.out; omega
              obtain ⟨A, c, hu4, _, hs⟩ := own_srow P7.out.own
              obtain ⟨b, o, rfl, _, hc⟩ := hs.mem (by omega)
              have dk := (hc k hlt).name
              have c1 := S7.out.name
              subst hu4
              clear hc hs
              obtain ⟨nk, hnk⟩ : ∃ nk, (slotS X k).name = nk := ⟨_, rfl⟩
              rw [hnk] at dk
              by_cases he : nk = nm
              · have NR : Hid (¬ Right X) := Lib.hid fun r => r.two k i hlt HL.out (by rw [SX.out]; exact H0.out) (by rw [hnk, SX.out]; exact he)
                have te : (nk.toList == nm.toList) = true := by rw [he]; simp
                clear he hnk
                go_wp2_with fail
                go_quiet (fail)
                go_wp2_with fail
                go_ret2
                exact ⟨.inr ⟨NR.out, rfl⟩, low_drewN P7.out.low _⟩
              · have te : (nk.toList == nm.toList) = false := by rw [beq_eq_false_iff_ne]; exact fun q => he (list_same q)
                have NE' : Hid (∀ j, j < k + 1 → (slotS X j).name ≠ nm) := Lib.hid fun j hj => by
                  rcases Nat.lt_or_ge j k with q | q
                  · exact NE.out j q
                  · rw [show j = k by omega, hnk]; exact he
                clear he hnk
                go_wp2_with fail
                go_quiet (fail)
                go_wp2_with fail
                go_roundw
                case rel => exact ⟨k + 1, by omega, by congr 1, Lib.hid (P7.out.below (Below.drewN (Below.refl _ _) _)), S7, NE'⟩
                case measure => simp [intOf]; omega
            · have g1 : ¬ (k : Int) < (i : Int) := by omega
              have i8 := HL.out
              have RT : Hid (RightTo X (i + 1)) := Lib.hid (R.out.next RB.out (fun _ j hj => by rw [SX.out]; exact NE.out j (by omega)))
              go_wp2_with (first
                | (refine load_slot rfl (.tmp 9) rfl bx 0 rfl ⟨ino, nm⟩ S7.out.at ?_)
                | (refine build_one rfl (.tmp 78) rfl ⟨ino, nm⟩ rfl ?_)
                | (at_builtin; refine wpList_append_lies _ rfl (.tmp 77) (.tmp 79) 24 rfl (w.heap.size + 1) 33 i0 _ 2 24 Try.underlying24 HI0.out HZ0.out HZ1.out HZ2.out (by rfl) (by omega) _ i (slC (slotS X) i) (by rfl) (P7.out.below (below_new _ _)).own ⟨wr.heap.size, 0, none⟩ 1 1 (sls ⟨ino, nm⟩).toList (by rfl) (by rfl) (World.news_of_block (heap_alloc_new wr _)) (by simp [sls, Value.oneCell']) (by omega) (by simp only [maxLen]; omega) (by omega) (by have := P7.out.blk.lt; simp; omega) (wr.heap.size + 1) (by simp) ?_; intro gg cap w8 hown hgrow hat hlt2; have P8 := Lib.hid (P7.out.app _ hown (by rw [slC, SX.out]) hgrow); clear hown hgrow hat hlt2))
              go_roundw
              case rel => exact ⟨i + 1, by omega, by congr 1, P8, RT⟩
              case measure => simp [intOf]; omega
end Go.Proofs.Ytinpdomcfijnmaa
