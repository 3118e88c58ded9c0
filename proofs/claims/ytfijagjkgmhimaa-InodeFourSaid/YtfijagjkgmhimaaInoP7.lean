import Derived.Test.YtfijagjkgmhimaaInoP6
namespace Go.Proofs.Ytfijagjkgmhimaa
open Go.RowKit

/-! Get of the landed package. -/
theorem im_splice (f g : Nat → Nat) : ((im64 g).toList.take 0 ++ ((im64 f).toList ++ (im64 g).toList.drop (0 + (im64 f).toList.length))).toArray = im64 f := by
  rw [im64_length, List.take_zero, List.nil_append, List.drop_eq_nil_of_le (by rw [im64_length]; omega), List.append_nil]
theorem cut_cells {w : World} {b : Nat} {X : Blk} (h : BVar w b X) (a : Nat) (ha : a + 64 ≤ 256) : ∀ j v, (im64 (cutB X a)).toList[j]? = some v → w.cell? ((⟨b, a, none⟩ : Addr).add j) = some v := fun j v hv => by
  have hj : j < 64 := by
    rcases Nat.lt_or_ge j 64 with q | q
    · exact q
    · rw [List.getElem?_eq_none (by rw [im64_length]; exact q)] at hv; cases hv
  have hv' : (im64 (cutB X a))[j]? = some v := by simpa using hv
  rw [im64_get hj] at hv'
  rw [show ((⟨b, a, none⟩ : Addr).add j) = ⟨b, a + j, none⟩ from by unfold Addr.add; split <;> simp_all]
  have := h.at.cell (i := a + j) (by omega)
  rw [Nat.zero_add] at this
  rw [this]
  exact hv'
theorem results_ino_err {fn : Func} {p u : Tmp} (h : fn.results = #[.cell p 27, .tmp u]) (tmps : Array Value) (w : World) (g : Nat) (x : InoV) (c : Int) (hp : tmps.getD p undef = .pointer (some ⟨g, 0, none⟩)) (hu : tmps.getD u undef = .int .i64 c) (hg : IVar w g x) :
    (results fn tmps).run Try.prog w = .ok (.tuple #[.agg (ics x), .int .i64 c]) w := by
  have hp' : tmps[p]?.getD undef = .pointer (some ⟨g, 0, none⟩) := by simpa using hp
  have hu' : tmps[u]?.getD undef = .int .i64 c := by simpa using hu
  simp [results, h, hp', hu', asAddr, run_loadVar_row w g 27 27 (ics x) (0, 0) _ hg Try.underlying27 rfl (by rw [ics_count]; exact ino_size16)]
theorem quiet_loadM {o : Oper} {a : Act} {C : World → Prop} {K : Act → Prop} (x : Operand) (ho : o.op = .load 48 x) (b off : Nat) (hx : a.eval x = .pointer (some ⟨b, off, none⟩)) (f : Nat → Nat) (hc : ∀ w, C w → w.rangeAt b off (im64 f).toList)
    (hk : K (a.put o.dst (.agg (im64 f)))) : o.quiet Try.prog a C K := by
  refine ⟨_, fun w hw => ?_, hk⟩
  unfold Oper.quietAt execOp
  have h := run_loadAt_mid (P := Try.prog) w b off 48 (im64 f).toList _ (hc w hw) Try.underlying48 rfl (by rw [im64_length]; exact im_size)
  simp only [ho, hx, h, Sem.run_bind, Sem.run_pure, Result.andThen_ok]
  exact ⟨rfl, by simp⟩
set_option maxRecDepth 100000 in
set_option maxHeartbeats 4000000 in
theorem pGet (X : Blk) (at_ : Int) (w : World) (h0 : -9223372036854775808 ≤ at_) (h1 : at_ ≤ 9223372036854775807) :
    Calls Try.prog 14 #[.agg (arr X), .int .i64 at_] w fun e w' => e = .returned (.tuple #[.agg (ics (getI X at_).1), .int .i64 (getI X at_).2]) ∧ Below w.heap.size w w' := by
  have hz := fun W => zero_im W
  have hzi := fun W => zero_ino W
  have b1 := below_new w (.cells (arr X) 23)
  have b2 := below_new (w.alloc (.cells (arr X) 23)) (.cells (ics .zero) 27)
  have q1 : BVar (w.alloc (.cells (arr X) 23)) w.heap.size X := heap_alloc_new w _
  have q2 : IVar ((w.alloc (.cells (arr X) 23)).alloc (.cells (ics .zero) 27)) (w.heap.size + 1) .zero := heap_alloc2_new w _ _
  have V := Lib.hid (q1.below b2)
  have R := Lib.hid q2
  have B := Lib.hid (b1.trans (b2.mono (by simp)))
  clear b1 b2 q1 q2
  rcases hp : placeB at_ with _ | _
  · have hn : ¬ PlaceI at_ := fun q => by rw [(placeB_iff at_).2 q] at hp; cases hp
    have E := Lib.hid (getI_place (X := X) hn)
    have CI : Hid (∀ W, Calls Try.prog 17 #[.int .i64 at_] W fun e w' => e = .returned (.bool false) ∧ w' = W) := Lib.hid fun W => by have := isPlace_any at_ W h0 h1; rwa [hp] at this
    clear hp hn
    go_enter Try.func14, Try.ntmps14
    go_wp2_with (first
      | (go_at_call 17; with_reducible refine (CI.out _).mono ?_; rintro e w2 ⟨rfl, rfl⟩)
      | (refine build_ino0 rfl rfl ?_)
      | (refine store_rowI rfl (.tmp 4) (.tmp 11) rfl (w.heap.size + 1) .zero .zero rfl rfl R.out ?_))
    exact bodyPost_ret (results_ino_err Try.results14 _ _ (w.heap.size + 1) .zero _ rfl rfl (R.out.row _)) rfl ⟨by rw [E.out], below_setRow B.out (by omega) _⟩
  have hy : PlaceI at_ := (placeB_iff at_).1 hp
  have CI : Hid (∀ W, Calls Try.prog 17 #[.int .i64 at_] W fun e w' => e = .returned (.bool true) ∧ w' = W) := Lib.hid fun W => by have := isPlace_any at_ W h0 h1; rwa [hp] at this
  obtain ⟨a, rfl, ha⟩ := hy.nat
  have ha2 : a + 64 ≤ 256 := by omega
  have ha3 : (a : Int) ≤ 256 := by omega
  have HY := Lib.hid hy
  clear hp ha hy
  go_enter Try.func14, Try.ntmps14
  go_upto_region 4 with (go_at_call 17; with_reducible refine (CI.out _).mono ?_; rintro e w2 ⟨rfl, rfl⟩)
  have S1 := Lib.hid (show ((w.alloc (.cells (arr X) 23)).alloc (.cells (ics .zero) 27)).heap.size = w.heap.size + 1 + 1 by simp)
  generalize (w.alloc (.cells (arr X) 23)).alloc (.cells (ics .zero) 27) = w1 at V R B S1 ⊢
  have bn := below_new w1 (.cells (im64 fun _ => 0) 48)
  have V3 := Lib.hid (V.out.below bn)
  have R3 := Lib.hid (R.out.below bn)
  have M3 := Lib.hid (show MVar (w1.alloc (.cells (im64 fun _ => 0) 48)) w1.heap.size (fun _ => 0) from heap_alloc_new w1 _)
  have B3 := Lib.hid (B.out.trans (bn.mono B.out.size))
  have M3 : Hid (MVar (w1.alloc (.cells (im64 fun _ => 0) 48)) (w.heap.size + 1 + 1) (fun _ => 0)) := Lib.hid (by rw [← S1.out]; exact M3.out)
  clear bn V R B CI S1
  generalize w1.alloc (.cells (im64 fun _ => 0) 48) = w3 at V3 R3 M3 B3 ⊢
  have S3 := Lib.hid (show w.heap.size + 1 + 1 < w3.heap.size from M3.out.lt)
  refine wp_region_class_tail (fun W' => W' = w3.drew) 3 (by kernel_rfl) (by kernel_rfl) rfl ?_
  simp only [List.take_succ_cons, List.take_zero, List.drop_succ_cons, List.drop_zero]
  repeat (first | go_big_quiet_skip | (go_big_quiet_want; (go_big_quiet_op; first | go_big_quiet_on | (apply Exists.intro; refine ⟨fun _ _ => ?_, ?_⟩; (with_reducible exact rfl); go_big_quiet_on))))
  refine wpQuiet_nil ?_
  rintro w4 rfl
  refine wpList_copy_own rfl (.tmp 12) (.tmp 14) 50 50 rfl 5 Try.underlying50 u8_one (w.heap.size + 1 + 1) 0 64 64 ⟨w.heap.size, a, none⟩ (256 - a) (256 - a) rfl rfl (im64 fun _ => 0) 48 M3.out (im64 (cutB X a)).toList ?_ (cut_cells (w := w3.drew) V3.out a ha2) (by rw [im64_length, im64_size]; omega) (im64_onecell _) ?_
  · rw [im64_length]; exact (Nat.min_eq_right (by omega)).symm
  simp only [Act.put]
  rw [im_splice]
  have M5 := Lib.hid (show MVar (w3.drew.setRow (w.heap.size + 1 + 1) (im64 (cutB X a))) (w.heap.size + 1 + 1) (cutB X a) from M3.out.rowset (w := w3.drew) _)
  have O5 : Only (w.heap.size + 1 + 1) w3 (w3.drew.setRow (w.heap.size + 1 + 1) (im64 (cutB X a))) := (Only.drewN _ w3 1).trans (Only.rowSelf _ _ _)
  have R5 := Lib.hid (O5.ino (by omega) R3.out)
  have B5 := Lib.hid (B3.out.trans (O5.below (by omega) B3.out.size))
  have S5 := Lib.hid M5.out.lt
  clear V3 R3 M3 B3 S3 O5
  generalize w3.drew.setRow (w.heap.size + 1 + 1) (im64 (cutB X a)) = w5 at M5 R5 B5 S5 ⊢
  have CT := Lib.hid (told_any (w.heap.size + 1 + 1) (cutB X a) w5 M5.out (cutB_lt X a))
  rw [show toldF (cutB X a) (cutB_lt X a) = toldB X a from rfl] at CT
  go_upto_region 6 with (first
    | (go_at_call 23; with_reducible refine CT.out.mono ?_; rintro e w6 ⟨rfl, hb⟩)
    | (refine store_newI rfl (.tmp 7) (.tmp 16) rfl (toldB X a) rfl rfl ?_))
  have bn := below_new w6 (.cells (ics (toldB X a)) 27)
  have I7 := Lib.hid (show IVar (w6.alloc (.cells (ics (toldB X a)) 27)) w6.heap.size (toldB X a) from heap_alloc_new w6 _)
  have M7 := Lib.hid ((M5.out.below hb).below bn)
  have R7 := Lib.hid ((R5.out.below hb).below bn)
  have B7 := Lib.hid ((B5.out.trans (hb.mono B5.out.size)).trans (bn.mono (Nat.le_trans B5.out.size hb.size)))
  clear hb bn M5 R5 B5 S5 CT
  generalize w6.alloc (.cells (ics (toldB X a)) 27) = w7 at I7 M7 R7 B7 ⊢
  generalize w6.heap.size = bi at I7 ⊢
  have FT : Hid (toldB X a).Fits := Lib.hid (toldF_fits (cutB_lt X a))
  have CM := Lib.hid fun W => pMay (toldB X a) W FT.out
  have hg := im_guard
  rcases hm : mayB (toldB X a) with _ | _
  · have hn : ¬ MayI (toldB X a) := fun q => by rw [(mayB_iff _).2 q] at hm; cases hm
    have E : Hid (getI X (a : Int) = (.zero, 70)) := Lib.hid (getI_no HY.out (by rw [Int.toNat_natCast]; exact fun q => hn q.2))
    rw [hm] at CM
    clear hm hn
    refine wp_region_class (More w7) (by kernel_rfl) (by kernel_rfl) (More.drew _) ?_
    simp only [Act.put]
    repeat (first | go_big_quiet_skip | (go_big_quiet_want; first | (refine quiet_loadI _ rfl _ _ (by rfl) (toldB X a) (by intro w' hw'; exact (I7.out.below hw').at) ?_; simp only [Act.put, List.setIfInBounds_toArray, List.set_cons_zero, List.set_cons_succ]; go_big_quiet_on) | (go_big_quiet_op; first | go_big_quiet_on | (apply Exists.intro; refine ⟨fun _ _ => ?_, ?_⟩; (with_reducible exact rfl); go_big_quiet_on) | go_big_quiet_call ((intro hC; ((with_reducible refine (CM.out _).mono ?_)); exact fun e w' h => ⟨h.1, hC.on h.2⟩)))))
    refine wpQuiet_nil ?_
    intro w8 hw8
    have R8 := Lib.hid (R7.out.below hw8)
    have B8 := Lib.hid (B7.out.trans (Below.mono hw8 B7.out.size))
    clear hw8
    go_wp2_with (first
      | (refine build_ino0 rfl rfl ?_)
      | (refine store_rowI rfl (.tmp 4) (.tmp 26) rfl (w.heap.size + 1) .zero .zero rfl rfl R8.out ?_))
    exact bodyPost_ret (results_ino_err Try.results14 _ _ (w.heap.size + 1) .zero _ rfl rfl (R8.out.row _)) rfl ⟨by rw [E.out], below_setRow B8.out (by omega) _⟩
  have hmy : MayI (toldB X a) := (mayB_iff _).1 hm
  have CO := Lib.hid fun W => imageOf_any (toldB X a) FT.out hmy W
  have HA := Lib.hid (again_iff (f := cutB X a) (hf := cutB_lt X a) hmy)
  rw [hm] at CM
  have heq := fun W => equalIn_im (imgI_lt FT.out.kd) (cutB_lt X a) W
  have hsi := sameIm_iff (imgI_lt FT.out.kd) (cutB_lt X a)
  rcases hs : sameIm (imgI (toldB X a)) (cutB X a) with _ | _
  · have hn : ¬ NoughtsF (cutB X a) := fun q => by rw [hsi.2 (HA.out.2 q)] at hs; cases hs
    have E : Hid (getI X (a : Int) = (.zero, 70)) := Lib.hid (getI_no HY.out (by rw [Int.toNat_natCast]; exact fun q => hn q.1))
    rw [hs] at heq
    clear hm hmy hsi hs hn HA
    refine wp_region_class (More w7) (by kernel_rfl) (by kernel_rfl) (More.drew _) ?_
    simp only [Act.put]
    repeat (first | go_big_quiet_skip | (go_big_quiet_want; first | (refine quiet_loadI _ rfl _ _ (by rfl) (toldB X a) (by intro w' hw'; exact (I7.out.below hw').at) ?_; simp only [Act.put, List.setIfInBounds_toArray, List.set_cons_zero, List.set_cons_succ]; go_big_quiet_on) | (refine quiet_loadM _ rfl _ _ (by rfl) (cutB X a) (by intro w' hw'; exact (M7.out.below hw').at) ?_; simp only [Act.put, List.setIfInBounds_toArray, List.set_cons_zero, List.set_cons_succ]; go_big_quiet_on) | (go_big_quiet_op; first | go_big_quiet_on | (apply Exists.intro; refine ⟨fun _ _ => ?_, ?_⟩; (with_reducible exact rfl); go_big_quiet_on) | go_big_quiet_call ((intro hC; (first | (with_reducible refine (CM.out _).mono ?_) | (with_reducible refine (CO.out _).mono ?_)); exact fun e w' h => ⟨h.1, hC.on h.2⟩)))))
    refine wpQuiet_nil ?_
    intro w8 hw8
    have R8 := Lib.hid (R7.out.below hw8)
    have B8 := Lib.hid (B7.out.trans (Below.mono hw8 B7.out.size))
    clear hw8 I7 M7 R7 B7 CM CO
    go_wp2_with (first
      | (refine build_ino0 rfl rfl ?_)
      | (refine store_rowI rfl (.tmp 4) (.tmp 26) rfl (w.heap.size + 1) .zero .zero rfl rfl R8.out ?_))
    exact bodyPost_ret (results_ino_err Try.results14 _ _ (w.heap.size + 1) .zero _ rfl rfl (R8.out.row _)) rfl ⟨by rw [E.out], below_setRow B8.out (by omega) _⟩
  · have hn : NoughtsF (cutB X a) := HA.out.1 (hsi.1 hs)
    have E : Hid (getI X (a : Int) = (toldB X a, 0)) := Lib.hid (by have := getI_yes (X := X) HY.out (by rw [Int.toNat_natCast]; exact hn) (by rw [Int.toNat_natCast]; exact hmy); rwa [Int.toNat_natCast] at this)
    rw [hs] at heq
    clear hm hmy hsi hs hn HA
    refine wp_region_class (More w7) (by kernel_rfl) (by kernel_rfl) (More.drew _) ?_
    simp only [Act.put]
    repeat (first | go_big_quiet_skip | (go_big_quiet_want; first | (refine quiet_loadI _ rfl _ _ (by rfl) (toldB X a) (by intro w' hw'; exact (I7.out.below hw').at) ?_; simp only [Act.put, List.setIfInBounds_toArray, List.set_cons_zero, List.set_cons_succ]; go_big_quiet_on) | (refine quiet_loadM _ rfl _ _ (by rfl) (cutB X a) (by intro w' hw'; exact (M7.out.below hw').at) ?_; simp only [Act.put, List.setIfInBounds_toArray, List.set_cons_zero, List.set_cons_succ]; go_big_quiet_on) | (go_big_quiet_op; first | go_big_quiet_on | (apply Exists.intro; refine ⟨fun _ _ => ?_, ?_⟩; (with_reducible exact rfl); go_big_quiet_on) | go_big_quiet_call ((intro hC; (first | (with_reducible refine (CM.out _).mono ?_) | (with_reducible refine (CO.out _).mono ?_)); exact fun e w' h => ⟨h.1, hC.on h.2⟩)))))
    refine wpQuiet_nil ?_
    intro w8 hw8
    have R8 := Lib.hid (R7.out.below hw8)
    have B8 := Lib.hid (B7.out.trans (Below.mono hw8 B7.out.size))
    have I8 := Lib.hid (I7.out.below hw8)
    clear hw8 I7 M7 R7 B7 CM CO
    go_wp2_with (first
      | (refine load_ino rfl (.tmp 7) rfl bi 0 rfl (toldB X a) I8.out.at ?_)
      | (refine store_rowI rfl (.tmp 4) (.tmp 27) rfl (w.heap.size + 1) (toldB X a) .zero rfl rfl R8.out ?_))
    exact bodyPost_ret (results_ino_err Try.results14 _ _ (w.heap.size + 1) (toldB X a) _ rfl rfl (R8.out.row _)) rfl ⟨by rw [E.out], below_setRow B8.out (by omega) _⟩
end Go.Proofs.Ytfijagjkgmhimaa
