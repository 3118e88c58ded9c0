import Derived.Test.YtfijagjkgmhimaaInoQ1
import Derived.Test.YtfijagjkgmhimaaInoP6
namespace Go.Proofs.Ytfijagjkgmhimaa
open Go.RowKit

/-! The document's own Put. -/
def zB (X : Blk) (a j : Nat) : Blk := .of (fun i => if a ≤ i ∧ i < a + j then 0 else X.f i) fun i _ => by split; omega; exact X.lt i
def refB (X : Blk) (a : Nat) (x : InoV) (hx : x.kd < 256) (k : Nat) : Blk := .of (fun i => if a ≤ i ∧ i < a + 64 then imgK x k (i - a) else X.f i) fun i _ => by
  split
  · exact imgK_lt hx k _
  · exact X.lt i
theorem zB_0 (X : Blk) (a : Nat) : zB X a 0 = X := Blk.same fun i hi => by unfold zB; rw [Blk.of_f hi, if_neg (by omega)]
theorem zB_succ (X : Blk) (a j : Nat) : (zB X a j).set (a + j) 0 (by omega) = zB X a (j + 1) := Blk.same fun i hi => by
  unfold Blk.set
  rw [Blk.of_f hi]
  unfold zB
  rw [Blk.of_f hi, Blk.of_f hi]
  by_cases e : i = a + j
  · rw [if_pos e, if_pos (by omega)]
  · rw [if_neg e]
    by_cases q : a ≤ i ∧ i < a + j
    · rw [if_pos q, if_pos (by omega)]
    · rw [if_neg q, if_neg (by omega)]
theorem zB_all (X : Blk) (a : Nat) (x : InoV) (hx : x.kd < 256) : zB X a 64 = refB X a x hx 0 := Blk.same fun i hi => by
  unfold zB refB
  rw [Blk.of_f hi, Blk.of_f hi]; rfl
theorem refB_1 (X : Blk) (a : Nat) (x : InoV) (hx : x.kd < 256) (_ha : a + 64 ≤ 256) : (refB X a x hx 0).set a x.kd hx = refB X a x hx 1 := Blk.same fun i hi => by
  unfold Blk.set
  rw [Blk.of_f hi]
  unfold refB
  rw [Blk.of_f hi, Blk.of_f hi]
  by_cases e : i = a
  · subst e; rw [if_pos rfl, if_pos (by omega), Nat.sub_self]; rfl
  · rw [if_neg e]
    by_cases q : a ≤ i ∧ i < a + 64
    · rw [if_pos q, if_pos q, imgK_1]; unfold upd; rw [if_neg (by omega)]
    · rw [if_neg q, if_neg q]
theorem refB_2 (X : Blk) (a : Nat) (x : InoV) (hx : x.kd < 256) (_ha : a + 64 ≤ 256) : putB16 (refB X a x hx 1) (a + 2) (valI x 1) = refB X a x hx 2 := Blk.same fun i hi => by
  rw [putB16_f hi, p16_at]
  unfold refB
  rw [Blk.of_f hi, Blk.of_f hi, imgK_2, p16_at]
  by_cases q : a ≤ i ∧ i < a + 64
  · rw [if_pos q, if_pos q]
    repeat' split
    all_goals first | rfl | (exfalso; omega)
  · rw [if_neg q, if_neg q, if_neg (by omega), if_neg (by omega)]
theorem refB_3 (X : Blk) (a : Nat) (x : InoV) (hx : x.kd < 256) (ha : a + 64 ≤ 256) (k : Nat) (hk : k < 14) : putB32 (refB X a x hx (k + 2)) (a + (4 * k + 4)) (valI x (k + 2)) = refB X a x hx (k + 3) := Blk.same fun i hi => by
  rw [putB32_f hi, p32_at]
  unfold refB
  rw [Blk.of_f hi, Blk.of_f hi, imgK_3, p32_at]
  by_cases q : a ≤ i ∧ i < a + 64
  · rw [if_pos q, if_pos q]
    repeat' split
    all_goals first | rfl | (exfalso; omega)
  · rw [if_neg q, if_neg q, if_neg (by omega), if_neg (by omega), if_neg (by omega), if_neg (by omega)]
theorem refB_all (X : Blk) (a : Nat) (x : InoV) (hx : x.kd < 256) : refB X a x hx 16 = putIB X a x hx := by
  unfold refB putIB imgI; rfl
theorem valI_p (x : InoV) {k : Nat} (h : k < 11) : valI x (k + 2 + 2) = x.p.f k := by
  unfold valI
  rw [if_neg (by omega), if_neg (by omega), if_neg (by omega), if_neg (by omega), if_neg (by omega), show k + 2 + 2 - 4 = k by omega]
theorem BVar.set {w : World} {b : Nat} {X : Blk} (h : BVar w b X) (k v : Nat) (hv : v < 256) : BVar (w.setCell ⟨b, k, none⟩ (.int .u8 ((v : Nat) : Int))) b (X.set k v hv) := by
  unfold BVar at *
  rw [heap_setCell_same w b k _ _ _ h, arr_set]
theorem BVar.frozen {w : World} {b : Nat} {X : Blk} (h : BVar w b X) (i : Nat) : w.frozen? ⟨b, i, none⟩ = false := by simp [World.frozen?, show w.heap[b]? = _ from h]
theorem results_blk_err {fn : Func} {p u : Tmp} (h : fn.results = #[.cell p 23, .tmp u]) (tmps : Array Value) (w : World) (g : Nat) (X : Blk) (c : Int) (t : TypeId) (hp : tmps.getD p undef = .pointer (some ⟨g, 0, none⟩)) (hu : tmps.getD u undef = .int .i64 c) (hg : w.heap[g]? = some (.cells (arr X) t (0, 0))) :
    (results fn tmps).run Try.prog w = .ok (.tuple #[.agg (arr X), .int .i64 c]) w := by
  rw [results_blk_tmp h tmps w g X t hp hg, hu]
/-- What Put keeps in memory: the block, the inode, the answer. -/
structure PB (w0 : World) (x : InoV) (X : Blk) (w : World) : Prop where
  low : Below w0.heap.size w0 w
  blk : BVar w w0.heap.size X
  ino : IVar w (w0.heap.size + 1) x
  res : BVar w (w0.heap.size + 1 + 1) .zero
theorem PB.below {w0 w w' : World} {x : InoV} {X : Blk} (h : PB w0 x X w) (hb : Below w.heap.size w w') : PB w0 x X w' := ⟨h.low.trans (hb.mono h.low.size), h.blk.below hb, h.ino.below hb, h.res.below hb⟩
theorem PB.only {w0 w w' : World} {x : InoV} {X Y : Blk} (h : PB w0 x X w) (ho : Only w0.heap.size w w') (hv : BVar w' w0.heap.size Y) : PB w0 x Y w' :=
  ⟨h.low.trans (ho.below (Nat.le_refl _) h.low.size), hv, ho.ino (by omega) h.ino, ho.blk (by omega) h.res⟩
theorem PB.drewN {w0 w : World} {x : InoV} {X : Blk} (h : PB w0 x X w) (n : Nat) : PB w0 x X (w.drewN n) := ⟨h.low.trans (Below.drewN (Below.refl _ w) n), h.blk, h.ino, h.res⟩
set_option maxRecDepth 100000 in
set_option maxHeartbeats 8000000 in
theorem rPut (X : Blk) (at_ : Int) (x : InoV) (w : World) (hx : x.Fits) :
    Calls Try.prog 11 #[.agg (arr X), .int .i64 at_, .agg (ics x)] w fun e w' => e = .returned (.tuple #[.agg (arr (putI X at_ x).1), .int .i64 (putI X at_ x).2]) ∧ Below w.heap.size w w' := by
  have hz := fun W => zero_blk W
  obtain ⟨w1, e1⟩ : ∃ w1, ((w.alloc (.cells (arr X) 23)).alloc (.cells (ics x) 27)).alloc (.cells (arr .zero) 23) = w1 := ⟨_, rfl⟩
  have q0 : BVar (w.alloc (.cells (arr X) 23)) w.heap.size X := heap_alloc_new w _
  have q1 : IVar ((w.alloc (.cells (arr X) 23)).alloc (.cells (ics x) 27)) (w.heap.size + 1) x := heap_alloc2_new w _ _
  have q2 : BVar w1 (w.heap.size + 1 + 1) .zero := by
    rw [← e1]
    have := heap_alloc2_new (w.alloc (.cells (arr X) 23)) (.cells (ics x) 27) (.cells (arr .zero) 23)
    rwa [World.size_alloc] at this
  have P : Hid (PB w x X w1) := Lib.hid ⟨by rw [← e1]; exact ((below_new w _).trans ((below_new _ _).mono (by simp))).trans ((below_new _ _).mono (by simp; omega)), by rw [← e1]; exact (q0.below (below_new _ _)).below (below_new _ _), by rw [← e1]; exact q1.below (below_new _ _), q2⟩
  have FX := Lib.hid hx
  clear q0 q1 q2 hx
  rcases hp : placeB at_ with _ | _
  · have hn : ¬ PlaceI at_ := fun q => by rw [(placeB_iff at_).2 q] at hp; cases hp
    have E := Lib.hid (putI_place (X := X) (x := x) hn)
    have CI : Hid (∀ W, Calls Try.prog 19 #[.int .i64 at_] W fun e w' => e = .returned (.bool false) ∧ w' = W) := Lib.hid fun W => by have := rPlace_any at_ W; rwa [hp] at this
    clear hp hn
    go_enter Try.func11, Try.ntmps11
    go_upto_region 1 with fail
    clear e1
    go_wp2_with (first
      | (go_at_call 19; with_reducible refine (CI.out _).mono ?_; rintro e w2 ⟨rfl, rfl⟩)
      | (refine load_blk rfl (.tmp 3) rfl w.heap.size 0 rfl X P.out.blk.at ?_)
      | (refine store_row rfl (.tmp 6) (.tmp 13) rfl (w.heap.size + 1 + 1) X .zero 23 rfl rfl P.out.res ?_))
    exact bodyPost_ret (results_blk_err Try.results11 _ _ (w.heap.size + 1 + 1) X _ _ rfl rfl (setRow_heap _ _ _ _ _ _ P.out.res)) rfl ⟨by rw [E.out], below_setRow P.out.low (by omega) _⟩
  have hy : PlaceI at_ := (placeB_iff at_).1 hp
  have CI : Hid (∀ W, Calls Try.prog 19 #[.int .i64 at_] W fun e w' => e = .returned (.bool true) ∧ w' = W) := Lib.hid fun W => by have := rPlace_any at_ W; rwa [hp] at this
  have CM := Lib.hid fun W => rMay x W FX.out
  rcases hm : mayB x with _ | _
  · have hn : ¬ MayI x := fun q => by rw [(mayB_iff x).2 q] at hm; cases hm
    have E := Lib.hid (putI_not (X := X) hy hn)
    rw [hm] at CM
    clear hp hn hy hm
    go_enter Try.func11, Try.ntmps11
    go_upto_region 1 with fail
    clear e1
    go_upto_region 4 with (first
      | (refine load_ino rfl (.tmp 5) rfl (w.heap.size + 1) 0 rfl x P.out.ino.at ?_)
      | (go_at_call 19; with_reducible refine (CI.out _).mono ?_; rintro e w2 ⟨rfl, rfl⟩)
      | (go_at_call 13; with_reducible refine (CM.out _).mono ?_; rintro e w3 ⟨rfl, hb⟩))
    have P3 := Lib.hid (P.out.below hb)
    clear hb P
    go_wp2_with (first
      | (refine load_blk rfl (.tmp 3) rfl w.heap.size 0 rfl X P3.out.blk.at ?_)
      | (refine store_row rfl (.tmp 6) (.tmp 17) rfl (w.heap.size + 1 + 1) X .zero 23 rfl rfl P3.out.res ?_))
    exact bodyPost_ret (results_blk_err Try.results11 _ _ (w.heap.size + 1 + 1) X _ _ rfl rfl (setRow_heap _ _ _ _ _ _ P3.out.res)) rfl ⟨by rw [E.out], below_setRow P3.out.low (by omega) _⟩
  have hmy : MayI x := (mayB_iff x).1 hm
  obtain ⟨a, rfl, ha⟩ := hy.nat
  have E : Hid (putI X (a : Int) x = (putIB X a x FX.out.kd, 0)) := Lib.hid (by have := putI_may (X := X) hy FX.out.kd hmy; rwa [Int.toNat_natCast] at this)
  have MY := Lib.hid hmy
  have ha2 : a + 64 ≤ 256 := by omega
  have HK := FX.out.kd
  have hs := hmy.small
  have hgen := FX.out.gen
  have hnx := FX.out.nx
  have u1 : IntKind.u32.wrap x.ln = x.ln := by rw [IntKind.wrap_u32]; omega
  have u2 : IntKind.u32.wrap x.sz = x.sz := by rw [IntKind.wrap_u32]; omega
  have v2 : IntKind.i64.wrap ((a : Int) + 2) = (a : Int) + 2 := by rw [IntKind.wrap_i64]; omega
  have v4 : IntKind.i64.wrap ((a : Int) + 4) = (a : Int) + 4 := by rw [IntKind.wrap_i64]; omega
  have v8 : IntKind.i64.wrap ((a : Int) + 8) = (a : Int) + 8 := by rw [IntKind.wrap_i64]; omega
  have v12 : IntKind.i64.wrap ((a : Int) + 12) = (a : Int) + 12 := by rw [IntKind.wrap_i64]; omega
  have v56 : IntKind.i64.wrap ((a : Int) + 56) = (a : Int) + 56 := by rw [IntKind.wrap_i64]; omega
  rw [hm] at CM
  clear hp hy hm hmy ha
  go_enter Try.func11, Try.ntmps11
  go_upto_region 1 with fail
  clear e1
  go_upto_region 5 with (first
      | (refine load_ino rfl (.tmp 5) rfl (w.heap.size + 1) 0 rfl x P.out.ino.at ?_)
      | (go_at_call 19; with_reducible refine (CI.out _).mono ?_; rintro e w2 ⟨rfl, rfl⟩)
      | (go_at_call 13; with_reducible refine (CM.out _).mono ?_; rintro e w3 ⟨rfl, hb⟩))
  have P3 := Lib.hid (P.out.below hb)
  clear hb P CI CM
  go_wp2_with fail
  go_loopw [8] (fun i wr => ∃ j : Nat, j ≤ 64 ∧ i = .int .i64 j ∧ PB w x (zB X a j) wr) (fun i _ => 64 - (intOf i).toNat)
  case atStart => exact ⟨0, Nat.zero_le _, rfl, by rw [zB_0]; exact P3.out⟩
  case round =>
    obtain ⟨j, hj, rfl, hpb⟩ := hrel
    have P4 := Lib.hid hpb
    clear hpb
    by_cases hlt : j < 64
    · have cb := P4.out.blk.at.cell (i := a + j) (by omega)
      rw [Nat.zero_add] at cb
      have fb := P4.out.blk.frozen (a + j)
      have P5 := Lib.hid (P4.out.only (Only.set wr w.heap.size (a + j) (.int .u8 ((0 : Nat) : Int))) (P4.out.blk.set (a + j) 0 (by omega)))
      rw [zB_succ] at P5
      have l1 : (a : Int) + j < 256 := by omega
      go_wp2
      go_roundw
      case rel => exact ⟨j + 1, by omega, by congr 1, P5.out⟩
      case measure => simp [intOf]; omega
    · obtain rfl : j = 64 := by omega
      rw [zB_all X a x HK] at P4
      go_upto_region 9 with fail
      have cb := P4.out.blk.at.cell (i := a) (by omega)
      rw [Nat.zero_add] at cb
      have fb := P4.out.blk.frozen a
      have ck := P4.out.ino.cell (ics_0 x)
      have la : (a : Int) < 256 := by omega
      have P5 := Lib.hid (P4.out.only (Only.set wr w.heap.size a (.int .u8 ((x.kd : Nat) : Int))) (P4.out.blk.set a x.kd HK))
      rw [refB_1 X a x HK ha2] at P5
      go_upto_region 10 with fail
      generalize wr.setCell ⟨w.heap.size, a, none⟩ (.int .u8 ((x.kd : Nat) : Int)) = w5 at P5 ⊢
      clear cb fb ck P4
      have ck := P5.out.ino.cell (ics_1 x)
      have CP : Hid (Calls Try.prog 20 #[.slice (some ⟨w.heap.size, 0, none⟩) 256 256, .int .i64 ((a : Int) + 2), .int .u32 (x.ln)] w5.drew fun e w' => e = .returned (.bool true) ∧ BVar w' w.heap.size (putB16 (refB X a x HK 1) (a + 2) (valI x 1)) ∧ Only w.heap.size w5.drew w') := Lib.hid (by
        have q := rput16_b w.heap.size (a + 2) (valI x 1) (refB X a x HK 1) w5.drew (P5.out.drewN 1).blk (by omega) (by show x.ln.toNat ≤ 65535; omega)
        rwa [show ((a + 2 : Nat) : Int) = (a : Int) + 2 by omega, show ((valI x 1 : Nat) : Int) = x.ln from Int.toNat_of_nonneg hs.1] at q)
      go_region_with (go_at_call 20; with_reducible refine CP.out.mono ?_; rintro e w6 ⟨rfl, hv, ho⟩)
      have P6 := Lib.hid ((P5.out.drewN 1).only (w := w5.drewN 1) ho hv)
      rw [refB_2 X a x HK ha2] at P6
      clear ck CP hv ho P5
      go_upto_region 11 with fail
      have ck := P6.out.ino.cell (ics_2 x)
      have CP : Hid (Calls Try.prog 21 #[.slice (some ⟨w.heap.size, 0, none⟩) 256 256, .int .i64 ((a : Int) + 4), .int .u32 (((x.gen : Nat) : Int))] w6.drew fun e w' => e = .returned (.bool true) ∧ BVar w' w.heap.size (putB32 (refB X a x HK 2) (a + 4) (valI x 2)) ∧ Only w.heap.size w6.drew w') := Lib.hid (by
        have q := rput32_b w.heap.size (a + 4) (valI x 2) (refB X a x HK 2) w6.drew (P6.out.drewN 1).blk (by omega) (valI_lt FX.out MY.out 2)
        rwa [show ((a + 4 : Nat) : Int) = (a : Int) + 4 by omega, show ((valI x 2 : Nat) : Int) = ((x.gen : Nat) : Int) from rfl] at q)
      go_region_with (go_at_call 21; with_reducible refine CP.out.mono ?_; rintro e w7 ⟨rfl, hv, ho⟩)
      have P7 := Lib.hid ((P6.out.drewN 1).only (w := w6.drewN 1) ho hv)
      rw [show a + 4 = a + (4 * 0 + 4) from rfl, show (2 : Nat) = 0 + 2 from rfl, refB_3 X a x HK ha2 0 (by omega)] at P7
      clear ck CP hv ho P6
      go_upto_region 12 with fail
      have ck := P7.out.ino.cell (ics_3 x)
      have CP : Hid (Calls Try.prog 21 #[.slice (some ⟨w.heap.size, 0, none⟩) 256 256, .int .i64 ((a : Int) + 8), .int .u32 (x.sz)] w7.drew fun e w' => e = .returned (.bool true) ∧ BVar w' w.heap.size (putB32 (refB X a x HK 3) (a + 8) (valI x 3)) ∧ Only w.heap.size w7.drew w') := Lib.hid (by
        have q := rput32_b w.heap.size (a + 8) (valI x 3) (refB X a x HK 3) w7.drew (P7.out.drewN 1).blk (by omega) (valI_lt FX.out MY.out 3)
        rwa [show ((a + 8 : Nat) : Int) = (a : Int) + 8 by omega, show ((valI x 3 : Nat) : Int) = x.sz from Int.toNat_of_nonneg hs.2.2.1] at q)
      go_region_with (go_at_call 21; with_reducible refine CP.out.mono ?_; rintro e w8 ⟨rfl, hv, ho⟩)
      have P8 := Lib.hid ((P7.out.drewN 1).only (w := w7.drewN 1) ho hv)
      rw [show a + 8 = a + (4 * 1 + 4) from rfl, show (3 : Nat) = 1 + 2 from rfl, refB_3 X a x HK ha2 1 (by omega)] at P8
      clear ck CP hv ho P7
      go_upto_region 13 with fail
      go_wp2_with fail
      go_loopw [9] (fun i wr => ∃ k : Nat, k ≤ 11 ∧ i = .int .i64 k ∧ PB w x (refB X a x HK (k + 4)) wr) (fun i _ => 11 - (intOf i).toNat)
      case atStart => exact ⟨0, Nat.zero_le _, rfl, P8.out⟩
      case round =>
        obtain ⟨k, hk, rfl, hpb⟩ := hrel
        have P9 := Lib.hid hpb
        clear hpb P8
        by_cases hlt : k < 11
        · have ck := P9.out.ino.cell (ics_p x hlt)
          have m1 : IntKind.i64.wrap (4 * (k : Int)) = 4 * (k : Int) := by rw [IntKind.wrap_i64]; omega
          have m2 : IntKind.i64.wrap ((a : Int) + 12 + 4 * (k : Int)) = (a : Int) + 12 + 4 * (k : Int) := by rw [IntKind.wrap_i64]; omega
          have CP : Hid (∀ W, PB w x (refB X a x HK (k + 4)) W → Calls Try.prog 21 #[.slice (some ⟨w.heap.size, 0, none⟩) 256 256, .int .i64 ((a : Int) + 12 + 4 * (k : Int)), .int .u32 ((x.p.f k : Nat) : Int)] W fun e w' => e = .returned (.bool true) ∧ PB w x (refB X a x HK (k + 5)) w') := Lib.hid fun W hW => by
            have q := rput32_b w.heap.size (a + (4 * (k + 2) + 4)) (valI x (k + 2 + 2)) (refB X a x HK (k + 2 + 2)) W hW.blk (by omega) (valI_lt FX.out MY.out _)
            rw [refB_3 X a x HK ha2 (k + 2) (by omega), show ((a + (4 * (k + 2) + 4) : Nat) : Int) = (a : Int) + 12 + 4 * (k : Int) by omega, valI_p x hlt] at q
            exact q.mono fun e w' h => ⟨h.1, hW.only h.2.2 h.2.1⟩
          have PD : PB w x (refB X a x HK (k + 4)) wr.drew := P9.out.drewN 1
          go_wp2_with fail
          go_region_with (go_at_call 21; with_reducible refine (CP.out _ PD).mono ?_; rintro e w9 ⟨rfl, hq⟩)
          have Q9 := Lib.hid hq
          clear hq ck m1 m2 CP PD P9
          go_wp2_with fail
          go_roundw
          case rel => exact ⟨k + 1, by omega, by congr 1, Q9.out⟩
          case measure => simp [intOf]; omega
        · obtain rfl : k = 11 := by omega
          have ck := P9.out.ino.cell (ics_15 x)
          have CP : Hid (∀ W, PB w x (refB X a x HK (11 + 4)) W → Calls Try.prog 21 #[.slice (some ⟨w.heap.size, 0, none⟩) 256 256, .int .i64 ((a : Int) + 56), .int .u32 ((x.nx : Nat) : Int)] W fun e w' => e = .returned (.bool true) ∧ PB w x (putIB X a x HK) w') := Lib.hid fun W hW => by
            have q := rput32_b w.heap.size (a + (4 * 13 + 4)) (valI x (13 + 2)) (refB X a x HK (13 + 2)) W hW.blk (by omega) (valI_lt FX.out MY.out _)
            rw [refB_3 X a x HK ha2 13 (by omega), show ((a + (4 * 13 + 4) : Nat) : Int) = (a : Int) + 56 by omega, show ((valI x (13 + 2) : Nat) : Int) = ((x.nx : Nat) : Int) from rfl, refB_all X a x HK] at q
            exact q.mono fun e w' h => ⟨h.1, hW.only h.2.2 h.2.1⟩
          have PD : PB w x (refB X a x HK (11 + 4)) wr.drew := P9.out.drewN 1
          go_upto_region 17 with fail
          go_region_with (go_at_call 21; with_reducible refine (CP.out _ PD).mono ?_; rintro e w9 ⟨rfl, hq⟩)
          have Q9 := Lib.hid hq
          clear hq ck CP PD P9
          go_wp2_with (first
            | (refine load_blk rfl (.tmp 3) rfl w.heap.size 0 rfl (putIB X a x HK) Q9.out.blk.at ?_)
            | (refine store_row rfl (.tmp 6) (.tmp 71) rfl (w.heap.size + 1 + 1) (putIB X a x HK) .zero 23 rfl rfl Q9.out.res ?_))
          exact bodyPost_ret (results_blk_err Try.results11 _ _ (w.heap.size + 1 + 1) (putIB X a x HK) _ _ rfl rfl (setRow_heap _ _ _ _ _ _ Q9.out.res)) rfl ⟨by rw [E.out], below_setRow Q9.out.low (by omega) _⟩
end Go.Proofs.Ytfijagjkgmhimaa
