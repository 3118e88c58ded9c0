import Derived.Test.YtinpdomcfijnmaaSloP4
namespace Go.Proofs.Ytinpdomcfijnmaa
open Go.RowKit

/-! The landed slotsOf and List. -/
/-- What slotsOf keeps in memory: the block, the row of slots. -/
structure OF (w0 : World) (b : Nat) (X : Blk) (v : Value) (i : Nat) (w : World) : Prop where
  blk : BVar w b X
  own : w.ownsRow w0.heap.size 33 2 v i (slC (slotS X) i)
  low : Below w0.heap.size w0 w
  lt : b < w0.heap.size
theorem OF.below {w0 w w' : World} {b : Nat} {X : Blk} {v : Value} {i : Nat} (h : OF w0 b X v i w) (hb : Below w.heap.size w w') : OF w0 b X v i w' :=
  ⟨h.blk.below hb, h.own.kept (row := none) ⟨hb.os, hb.tape, hb.output, hb.size, fun j hj _ => hb.block j hj⟩ (by rcases h.own.2 with ⟨rfl, _⟩ | ⟨_, _, _, rfl, _⟩ <;> simp [Value.ownBlock]), low_go h.low hb, h.lt⟩
theorem OF.row {w0 w : World} {b : Nat} {X : Blk} {v : Value} {i : Nat} (h : OF w0 b X v i w) {k : Nat} (hk : k < 8) : Row w (some ⟨b, 32 * k, none⟩) 32 (cutS X k) :=
  ⟨cutS_lt X k, fun _ => ⟨_, _, rfl, h.blk.lt, fun i hi => by
    have := h.blk.at.cell (i := 32 * k + i) (by omega)
    rw [Nat.zero_add] at this
    rw [this, cutS_in hi]⟩⟩
theorem OF.app {w W w5 : World} {b : Nat} {X : Blk} {i : Nat} {v v' : Value} {xs : List Value} (h : OF w b X v i W) (o : Obj) (hown : w5.ownsRow w.heap.size 33 2 v' (i + 1) xs) (hx : xs = slC (slotS X) (i + 1)) (hgrow : (W.alloc o).grownBy w5 v.ownBlock) : OF w b X v' (i + 1) w5 := by
  have ha := h.below (below_new W o)
  refine ⟨(hgrow.block b ha.blk.lt (fun e => ?_)).trans ha.blk, by rw [← hx]; exact hown, ha.low.grown hgrow ha.low.size (fun k e => by have := (h.own.lt k e).1; omega), h.lt⟩
  have := (h.own.lt _ e.symm).1
  have := h.lt
  omega
/-- What slotsOf answers. -/
def Sloted (X : Blk) (base : Nat) (e : Ending) (w : World) : Prop :=
  (Right X ∧ ∃ A c, e = .returned (.tuple #[.slice A 8 c, .bool true]) ∧ w.ownsRow base 33 2 (.slice A 8 c) 8 (slC (slotS X) 8)) ∨ (¬ Right X ∧ e = .returned (.tuple #[.slice none 0 0, .bool false]))
theorem make_slots (W : World) : (Instr.makeSlice 24 (.int .i64 0) (.int .i64 8)).run Try.prog W = .ok (.slice (some ⟨W.heap.size, 0, none⟩) 0 8) (W.alloc (.cells (madeCells (sls .free) 16) 33)) := by
  obtain ⟨i, hi, hzz⟩ := Option.map_eq_some_iff.1 slot_info
  simp only [Prod.mk.injEq] at hzz
  obtain ⟨h0, h1, h2⟩ := hzz
  have h := run_make (P := Try.prog) W 24 33 i _ Try.underlying24 hi h0 .i64 .i64 0 8 (by omega) (by omega) (by rw [h2]; omega) (by omega)
  rw [h1] at h
  exact h
theorem none_two {X : Blk} {i : Nat} (h : RightTo X i) (h1 : RightB (cutS X i)) {k : Nat} (hk : k < i) (hi : i < 8) (h0 : (slotS X k).ino ≠ 0) (e : (slotS X k).name = (slotS X i).name) : ¬ Right X := fun r => by
  have hm : MayN (slotS X k).name := (h.each k hk).ok.may h0
  have : (slotS X i).ino ≠ 0 := fun q => by
    have := h1.ok.none q
    have e2 : slotS X i = .free := this
    rw [e2] at e
    exact hm.ne e
  exact r.two k i hk hi this e
set_option maxRecDepth 100000 in
set_option maxHeartbeats 4000000 in
theorem pSlotsOf (b : Nat) (X : Blk) (w : World) (hV : BVar w b X) : Calls Try.prog 27 #[.pointer (some ⟨b, 0, none⟩)] w fun e w' => Sloted X w.heap.size e w' ∧ Below w.heap.size w w' := by
  have hz := fun W => zero_slot W
  have hmk := fun W => make_slots W
  obtain ⟨i0, hi0, hzz⟩ := Option.map_eq_some_iff.1 slot_info
  simp only [Prod.mk.injEq] at hzz
  obtain ⟨hz0, hz1, hz2⟩ := hzz
  have HZ0 := Lib.hid hz0
  have HZ1 := Lib.hid hz1
  have HZ2 := Lib.hid hz2
  have HI0 := Lib.hid hi0
  clear hz0 hz1 hz2 hi0
  have P0 : Hid (OF w b X (.slice (some ⟨w.heap.size, 0, none⟩) 0 8) 0 (w.alloc (.cells (madeCells (sls .free) 16) 33))) := Lib.hid ⟨hV.below (below_new w _), World.ownsRow_made w _ 8 (Nat.le_refl _) (by simp only [maxLen]; omega) (size_madeCells _ _), below_new w _, hV.lt⟩
  clear hV
  go_enter Try.func27, Try.ntmps27
  go_upto_region 2 with fail
  generalize w.alloc (.cells (madeCells (sls .free) 16) 33) = w1 at P0 ⊢
  clear hmk
  go_wp2_with fail
  go_loopw [4, 11] (fun v iv wr => ∃ i : Nat, i ≤ 8 ∧ iv = .int .i64 i ∧ Hid (OF w b X v i wr) ∧ Hid (RightTo X i)) (fun _ iv _ => 8 - (intOf iv).toNat)
  case atStart => exact ⟨0, by omega, rfl, P0, Lib.hid (RightTo.nil X)⟩
  case round =>
    obtain ⟨i, hi, rfl, P, R⟩ := hrel
    clear P0
    by_cases hlt : i < 8
    rotate_left
    · obtain rfl : i = 8 := by omega
      obtain ⟨A, c, rfl, _, _⟩ := own_srow P.out.own
      clear hz
      go_wp2_with fail
      go_ret2
      exact ⟨.inl ⟨R.out.all, A, c, rfl, P.out.own⟩, P.out.low⟩
    have HL := Lib.hid hlt
    have CP := Lib.hid fun W => pPiece b i hlt W
    obtain ⟨x, hx⟩ : ∃ x, toldS (cutS X i) = x := ⟨_, rfl⟩
    obtain ⟨ok, hok⟩ : ∃ ok, decide (RightB (cutS X i)) = ok := ⟨_, rfl⟩
    have CT := Lib.hid (pTold b (32 * i) (cutS X i) wr (P.out.row hlt))
    rw [hx, hok] at CT
    have HX := Lib.hid hx
    have HO := Lib.hid hok
    clear hx hok
    go_upto_region 6 with (first
      | (go_at_call 31; with_reducible refine (CP.out _).mono ?_; rintro e w2 ⟨rfl, rfl⟩)
      | (go_at_call 34; with_reducible refine (CT.out).mono ?_; rintro e w3 ⟨rfl, hb⟩)
      | (refine store_newSl rfl (.tmp 6) (.tmp 19) rfl x rfl rfl ?_))
    have P3 := Lib.hid ((P.out.below hb).below (below_new w3 (.cells (sls x) 33)))
    have S3 := Lib.hid (SVar.new w3 x)
    clear hb CT CP P hz
    generalize w3.alloc (.cells (sls x) 33) = w4 at P3 S3 ⊢
    generalize w3.heap.size = bx at S3 ⊢
    obtain ⟨A, c, hu4, _, hs⟩ := own_srow P3.out.own
    subst hu4
    have CL := Lib.hid (pLook A i c (slotS X) x.name w4 hi hs)
    have c1 := S3.out.name
    clear hs
    go_upto_region 7 with (go_at_call 28; with_reducible refine (CL.out).mono ?_; rintro e w5 ⟨⟨hs, fr, rfl, hl⟩, hb⟩)
    have P5 := Lib.hid (P3.out.below hb)
    have S5 := Lib.hid (S3.out.below hb)
    clear hb CL P3 S3 c1
    rcases ok with _ | _
    · have NR : Hid (¬ Right X) := Lib.hid fun r => of_decide_eq_false HO.out (r.each i HL.out)
      clear hl
      go_wp2_with fail
      go_ret2
      exact ⟨.inr ⟨NR.out, rfl⟩, P5.out.low⟩
    have RB := Lib.hid (of_decide_eq_true HO.out)
    obtain rfl : slotS X i = x := by rw [← HX.out, told_right RB.out]; rfl
    rcases hl with ⟨k, hk, k0, kn, rfl⟩ | ⟨rfl, hn, _⟩
    · have NR : Hid (¬ Right X) := Lib.hid (none_two R.out RB.out hk HL.out k0 kn)
      have t1 : decide ((0 : Int) ≤ (k : Int)) = true := by simp
      have t2 : (0 : Int) ≤ (k : Int) := by omega
      clear k0 kn
      go_wp2_with fail
      go_ret2
      exact ⟨.inr ⟨NR.out, rfl⟩, P5.out.low⟩
    have RT : Hid (RightTo X (i + 1)) := Lib.hid (R.out.next RB.out (fun _ j hj => by
      intro q
      by_cases j0 : (slotS X j).ino = 0
      · have e2 : slotS X j = .free := (R.out.each j hj).ok.none j0
        rw [e2] at q
        exact (RB.out.ok.may (by assumption)).ne q.symm
      · exact hn j hj j0 q))
    clear hn
    have i8 := HL.out
    go_wp2_with (first
      | (refine load_slot rfl (.tmp 6) rfl bx 0 rfl (slotS X i) S5.out.at ?_)
      | (refine build_one rfl (.tmp 35) rfl (slotS X i) rfl ?_)
      | (at_builtin; refine wpList_append_lies _ rfl (.tmp 34) (.tmp 36) 24 rfl w.heap.size 33 i0 _ 2 24 Try.underlying24 HI0.out HZ0.out HZ1.out HZ2.out (by rfl) (by omega) _ i (slC (slotS X) i) (by rfl) (P5.out.below (below_new _ _)).own ⟨w5.heap.size, 0, none⟩ 1 1 (sls (slotS X i)).toList (by rfl) (by rfl) (World.news_of_block (heap_alloc_new w5 _)) (by simp [sls, Value.oneCell']) (by omega) (by simp only [maxLen]; omega) (by omega) (by have := P5.out.low.size; simp; omega) (w5.heap.size + 1) (by simp) ?_; intro gg cap w8 hown hgrow hat hlt2; have P8 := Lib.hid (P5.out.app _ hown rfl hgrow); clear hown hgrow hat hlt2))
    go_roundw
    case rel => exact ⟨i + 1, by omega, by congr 1, P8, RT⟩
    case measure => simp [intOf]; omega
theorem own_srow1 {w : World} {base n c : Nat} {A : Option Addr} {d : Nat → SlotV} (h : w.ownsRow base 33 2 (.slice A n c) n (slC d n)) : SRow w A n d := by
  obtain ⟨A', c', e, _, hs⟩ := own_srow h
  injection e with e1 _ _
  subst e1
  exact hs
theorem own_mono {w : World} {base base' n : Nat} {v : Value} {xs : List Value} (h : w.ownsRow base 33 2 v n xs) (hb : base' ≤ base) : w.ownsRow base' 33 2 v n xs := by
  refine ⟨h.1, ?_⟩
  rcases h.2 with h | ⟨g, cap, cur, h1, h2, h3⟩
  · exact .inl h
  · exact .inr ⟨g, cap, cur, h1, Nat.le_trans hb h2, h3⟩
theorem Sloted.no {X : Blk} {base : Nat} {e : Ending} {w : World} (h : Sloted X base e w) (hr : ¬ Right X) : e = .returned (.tuple #[.slice none 0 0, .bool false]) := by
  unfold Sloted at h
  rcases h with h | h
  · exact absurd h.1 hr
  · exact h.2
theorem Sloted.own {X : Blk} {base : Nat} {e : Ending} {w : World} (h : Sloted X base e w) (hr : Right X) : ∃ A c, e = .returned (.tuple #[.slice A 8 c, .bool true]) ∧ w.ownsRow base 33 2 (.slice A 8 c) 8 (slC (slotS X) 8) := by
  unfold Sloted at h
  rcases h with h | h
  · exact h.2
  · exact absurd hr h.1
theorem Sloted.yes {X : Blk} {base : Nat} {e : Ending} {w : World} (h : Sloted X base e w) (hr : Right X) : ∃ A c, e = .returned (.tuple #[.slice A 8 c, .bool true]) ∧ SRow w A 8 (slotS X) := by
  obtain ⟨A, c, he, ho⟩ := h.own hr
  exact ⟨A, c, he, own_srow1 ho⟩
/-- What the landed List answers: a list of its own. -/
def ListedO (X : Blk) (base : Nat) (e : Ending) (w : World) : Prop :=
  (Right X ∧ ∃ A c, e = .returned (.tuple #[.slice A 8 c, .int .i64 0]) ∧ w.ownsRow base 33 2 (.slice A 8 c) 8 (slC (slotS X) 8)) ∨ (¬ Right X ∧ e = .returned (.tuple #[.slice none 0 0, .int .i64 80]))
theorem ListedO.no {X : Blk} {base : Nat} {e : Ending} {w : World} (h : ListedO X base e w) (hr : ¬ Right X) : e = .returned (.tuple #[.slice none 0 0, .int .i64 80]) := by
  unfold ListedO at h
  rcases h with h | h
  · exact absurd h.1 hr
  · exact h.2
theorem ListedO.own {X : Blk} {base : Nat} {e : Ending} {w : World} (h : ListedO X base e w) (hr : Right X) : ∃ A c, e = .returned (.tuple #[.slice A 8 c, .int .i64 0]) ∧ w.ownsRow base 33 2 (.slice A 8 c) 8 (slC (slotS X) 8) := by
  unfold ListedO at h
  rcases h with h | h
  · exact h.2
  · exact absurd hr h.1
theorem ListedO.yes {X : Blk} {base : Nat} {e : Ending} {w : World} (h : ListedO X base e w) (hr : Right X) : ∃ A c, e = .returned (.tuple #[.slice A 8 c, .int .i64 0]) ∧ SRow w A 8 (slotS X) := by
  obtain ⟨A, c, he, ho⟩ := h.own hr
  exact ⟨A, c, he, own_srow1 ho⟩
set_option maxRecDepth 100000 in
set_option maxHeartbeats 4000000 in
theorem pList (X : Blk) (w : World) : Calls Try.prog 11 #[.agg (arr X)] w fun e w' => ListedO X w.heap.size e w' ∧ Below w.heap.size w w' := by
  have V := show BVar (w.alloc (.cells (arr X) 23)) w.heap.size X from heap_alloc_new w _
  have B := Lib.hid (below_new w (.cells (arr X) 23))
  have CL := Lib.hid (pSlotsOf w.heap.size X _ V)
  clear V
  by_cases hr : Right X
  rotate_left
  · have HR := Lib.hid hr
    clear hr
    go_enter Try.func11, Try.ntmps11
    go_upto_region 1 with fail
    generalize w.alloc (.cells (arr X) 23) = w1 at CL B ⊢
    go_wp2_with (go_at_call 27; with_reducible refine (CL.out).mono ?_; rintro e w2 ⟨hl, hb⟩; obtain rfl : e = .returned (.tuple #[.slice none 0 0, .bool false]) := hl.no HR.out)
    go_ret2
    exact ⟨.inr ⟨HR.out, rfl⟩, low_go B.out hb⟩
  · have HR := Lib.hid hr
    clear hr
    go_enter Try.func11, Try.ntmps11
    go_upto_region 1 with fail
    generalize w.alloc (.cells (arr X) 23) = w1 at CL B ⊢
    go_wp2_with (go_at_call 27; with_reducible refine (CL.out).mono ?_; rintro e w2 ⟨hl, hb⟩; obtain ⟨A, c, rfl, hs⟩ : ∃ A c, e = .returned (.tuple #[.slice A 8 c, .bool true]) ∧ w2.ownsRow w1.heap.size 33 2 (.slice A 8 c) 8 (slC (slotS X) 8) := hl.own HR.out; have HS := Lib.hid hs; clear hs hl)
    go_ret2
    exact ⟨.inl ⟨HR.out, A, c, rfl, own_mono HS.out B.out.size⟩, low_go B.out hb⟩
end Go.Proofs.Ytinpdomcfijnmaa
