import Derived.Test.YtfijagjkgmhimaaInoQ2
import Derived.Test.YtfijagjkgmhimaaInoP7
namespace Go.Proofs.Ytfijagjkgmhimaa
open Go.RowKit

/-! The document's own Get. -/
theorem Only.of_drewN (g : Nat) (w : World) (d : Nat) : Only g w (w.drewN d) := Only.drewN g w d
/-- What Get keeps in memory: the block, the answer. -/
structure GB (w0 : World) (X : Blk) (w : World) : Prop where
  low : Below w0.heap.size w0 w
  blk : BVar w w0.heap.size X
  res : IVar w (w0.heap.size + 1) .zero
theorem GB.below {w0 w w' : World} {X : Blk} (h : GB w0 X w) (hb : Below w.heap.size w w') : GB w0 X w' := ⟨h.low.trans (hb.mono h.low.size), h.blk.below hb, h.res.below hb⟩
theorem GB.drewN {w0 w : World} {X : Blk} (h : GB w0 X w) (n : Nat) : GB w0 X (w.drewN n) := ⟨h.low.trans (Below.drewN (Below.refl _ w) n), h.blk, h.res⟩
/-- .. and the inode that is filled. -/
structure GI (w0 : World) (X : Blk) (b : Nat) (x : InoV) (w : World) : Prop where
  gb : GB w0 X w
  ino : IVar w b x
  at_ : w0.heap.size + 1 + 1 ≤ b
theorem GI.drewN {w0 w : World} {X : Blk} {b : Nat} {x : InoV} (h : GI w0 X b x w) (n : Nat) : GI w0 X b x (w.drewN n) := ⟨h.gb.drewN n, h.ino, h.at_⟩
theorem GI.below {w0 w w' : World} {X : Blk} {b : Nat} {x : InoV} (h : GI w0 X b x w) (hb : Below w.heap.size w w') : GI w0 X b x w' := ⟨h.gb.below hb, h.ino.below hb, h.at_⟩
theorem GI.only {w0 w w' : World} {X : Blk} {b : Nat} {x y : InoV} (h : GI w0 X b x w) (ho : Only b w w') (hv : IVar w' b y) : GI w0 X b y w' :=
  ⟨⟨h.gb.low.trans (ho.below (by have := h.at_; omega) h.gb.low.size), ho.blk (by have := h.at_; omega) h.gb.blk, ho.ino (by have := h.at_; omega) h.gb.res⟩, hv, h.at_⟩
theorem rg16 (X : Blk) (b a k : Nat) (w : World) (hV : BVar w b X) (ha : a + k + 2 ≤ 256) : Calls Try.prog 24 #[.slice (some ⟨b, 0, none⟩) 256 256, .int .i64 ((a : Int) + (k : Int))] w fun e w' => e = .returned (.tuple #[.int .u32 ((g16 (cutB X a) k : Nat) : Int), .bool true]) ∧ ∃ d, w' = w.drewN d := by
  have q := rGet16_yes (some ⟨b, 0, none⟩) 256 256 ((a + k : Nat) : Int) X.f w (by omega) (hV.row0 (by omega)) (by omega) (by omega)
  rw [Int.toNat_natCast, show ((a + k : Nat) : Int) = (a : Int) + (k : Int) by omega] at q
  exact q
theorem rg32 (X : Blk) (b a k : Nat) (w : World) (hV : BVar w b X) (ha : a + k + 4 ≤ 256) : Calls Try.prog 25 #[.slice (some ⟨b, 0, none⟩) 256 256, .int .i64 ((a : Int) + (k : Int))] w fun e w' => e = .returned (.tuple #[.int .u32 ((g32 (cutB X a) k : Nat) : Int), .bool true]) ∧ ∃ d, w' = w.drewN d := by
  have q := rGet32_yes (some ⟨b, 0, none⟩) 256 256 ((a + k : Nat) : Int) X.f w (by omega) (hV.row0 (by omega)) (by omega) (by omega)
  rw [Int.toNat_natCast, show ((a + k : Nat) : Int) = (a : Int) + (k : Int) by omega] at q
  exact q
/-- The inode as it is filled. -/
def tg (X : Blk) (a k : Nat) : InoV := { toldK (cutB X a) (cutB_lt X a) k with nx := 0 }
theorem tg_0 (X : Blk) (a : Nat) : tg X a 0 = ⟨X.f a, (g16 (cutB X a) 2 : Nat), g32 (cutB X a) 4, (g32 (cutB X a) 8 : Nat), .zero, 0⟩ := by unfold tg; rw [toldK_0]; rfl
theorem tg_succ (X : Blk) (a k : Nat) : { tg X a k with p := (tg X a k).p.set k (g32 (cutB X a) (12 + 4 * k)) (g32_lt (cutB_lt X a) _) } = tg X a (k + 1) := by
  unfold tg; rw [← toldK_succ]
theorem tg_all (X : Blk) (a : Nat) : { tg X a 11 with nx := g32 (cutB X a) 56 } = toldB X a := by
  unfold tg; rw [toldK_all]; rfl
set_option maxRecDepth 100000 in
set_option maxHeartbeats 8000000 in
theorem rGet (X : Blk) (at_ : Int) (w : World) :
    Calls Try.prog 15 #[.agg (arr X), .int .i64 at_] w fun e w' => e = .returned (.tuple #[.agg (ics (getI X at_).1), .int .i64 (getI X at_).2]) ∧ Below w.heap.size w w' := by
  have hzi := fun W => zero_ino W
  have b1 := below_new w (.cells (arr X) 23)
  have b2 := below_new (w.alloc (.cells (arr X) 23)) (.cells (ics .zero) 27)
  have q1 : BVar (w.alloc (.cells (arr X) 23)) w.heap.size X := heap_alloc_new w _
  have q2 : IVar ((w.alloc (.cells (arr X) 23)).alloc (.cells (ics .zero) 27)) (w.heap.size + 1) .zero := heap_alloc2_new w _ _
  have P : Hid (GB w X ((w.alloc (.cells (arr X) 23)).alloc (.cells (ics .zero) 27))) := Lib.hid ⟨b1.trans (b2.mono (by simp)), q1.below b2, q2⟩
  clear b1 b2 q1 q2
  rcases hp : placeB at_ with _ | _
  · have hn : ¬ PlaceI at_ := fun q => by rw [(placeB_iff at_).2 q] at hp; cases hp
    have E := Lib.hid (getI_place (X := X) hn)
    have CI : Hid (∀ W, Calls Try.prog 19 #[.int .i64 at_] W fun e w' => e = .returned (.bool false) ∧ w' = W) := Lib.hid fun W => by have := rPlace_any at_ W; rwa [hp] at this
    clear hp hn
    go_enter Try.func15, Try.ntmps15
    go_wp2_with (first
      | (go_at_call 19; with_reducible refine (CI.out _).mono ?_; rintro e w2 ⟨rfl, rfl⟩)
      | (refine build_ino0 rfl rfl ?_)
      | (refine store_rowI rfl (.tmp 4) (.tmp 15) rfl (w.heap.size + 1) .zero .zero rfl rfl P.out.res ?_))
    exact bodyPost_ret (results_ino_err Try.results15 _ _ (w.heap.size + 1) .zero _ rfl rfl (P.out.res.row _)) rfl ⟨by rw [E.out], below_setRow P.out.low (by omega) _⟩
  have hy : PlaceI at_ := (placeB_iff at_).1 hp
  have CI : Hid (∀ W, Calls Try.prog 19 #[.int .i64 at_] W fun e w' => e = .returned (.bool true) ∧ w' = W) := Lib.hid fun W => by have := rPlace_any at_ W; rwa [hp] at this
  obtain ⟨a, rfl, ha⟩ := hy.nat
  have ha2 : a + 64 ≤ 256 := by omega
  have HY := Lib.hid hy
  clear hp ha hy
  have C16 : Hid (∀ W, BVar W w.heap.size X → Calls Try.prog 24 #[.slice (some ⟨w.heap.size, 0, none⟩) 256 256, .int .i64 ((a : Int) + 2)] W fun e w' => e = .returned (.tuple #[.int .u32 ((g16 (cutB X a) 2 : Nat) : Int), .bool true]) ∧ ∃ d, w' = W.drewN d) := Lib.hid fun W h => rg16 X w.heap.size a 2 W h (by omega)
  have C4 : Hid (∀ W, BVar W w.heap.size X → Calls Try.prog 25 #[.slice (some ⟨w.heap.size, 0, none⟩) 256 256, .int .i64 ((a : Int) + 4)] W fun e w' => e = .returned (.tuple #[.int .u32 ((g32 (cutB X a) 4 : Nat) : Int), .bool true]) ∧ ∃ d, w' = W.drewN d) := Lib.hid fun W h => rg32 X w.heap.size a 4 W h (by omega)
  have C8 : Hid (∀ W, BVar W w.heap.size X → Calls Try.prog 25 #[.slice (some ⟨w.heap.size, 0, none⟩) 256 256, .int .i64 ((a : Int) + 8)] W fun e w' => e = .returned (.tuple #[.int .u32 ((g32 (cutB X a) 8 : Nat) : Int), .bool true]) ∧ ∃ d, w' = W.drewN d) := Lib.hid fun W h => rg32 X w.heap.size a 8 W h (by omega)
  have C56 : Hid (∀ W, BVar W w.heap.size X → Calls Try.prog 25 #[.slice (some ⟨w.heap.size, 0, none⟩) 256 256, .int .i64 ((a : Int) + 56)] W fun e w' => e = .returned (.tuple #[.int .u32 ((g32 (cutB X a) 56 : Nat) : Int), .bool true]) ∧ ∃ d, w' = W.drewN d) := Lib.hid fun W h => rg32 X w.heap.size a 56 W h (by omega)
  have CK : Hid (∀ (k : Nat), k < 11 → ∀ W, BVar W w.heap.size X → Calls Try.prog 25 #[.slice (some ⟨w.heap.size, 0, none⟩) 256 256, .int .i64 ((a : Int) + 12 + 4 * (k : Int))] W fun e w' => e = .returned (.tuple #[.int .u32 ((g32 (cutB X a) (12 + 4 * k) : Nat) : Int), .bool true]) ∧ ∃ d, w' = W.drewN d) := Lib.hid fun k hk W h => by
    have q := rg32 X w.heap.size a (12 + 4 * k) W h (by omega)
    rwa [show (a : Int) + ((12 + 4 * k : Nat) : Int) = (a : Int) + 12 + 4 * (k : Int) by omega] at q
  have l2 := g16_lt (cutB_lt X a) 2
  have l8 := g32_lt (cutB_lt X a) 8
  have la : (a : Int) < 256 := by omega
  go_enter Try.func15, Try.ntmps15
  go_upto_region 3 with (go_at_call 19; with_reducible refine (CI.out _).mono ?_; rintro e w2 ⟨rfl, rfl⟩)
  have S1 := Lib.hid (show w.heap.size + 1 + 1 ≤ ((w.alloc (.cells (arr X) 23)).alloc (.cells (ics .zero) 27)).heap.size by simp)
  generalize (w.alloc (.cells (arr X) 23)).alloc (.cells (ics .zero) 27) = w1 at P S1 ⊢
  clear CI
  go_upto_region 4 with (go_at_call 24; with_reducible refine (C16.out _ P.out.blk).mono ?_; rintro e w2 ⟨rfl, d2, rfl⟩)
  have P2 := Lib.hid (P.out.drewN d2)
  have S2 := Lib.hid (show w.heap.size + 1 + 1 ≤ (w1.drewN d2).heap.size from S1.out)
  generalize w1.drewN d2 = w2 at P2 S2 ⊢
  clear P S1 C16
  go_upto_region 5 with (go_at_call 25; with_reducible refine (C8.out _ P2.out.blk).mono ?_; rintro e w3 ⟨rfl, d3, rfl⟩)
  have P3 := Lib.hid (P2.out.drewN d3)
  have S3 := Lib.hid (show w.heap.size + 1 + 1 ≤ (w2.drewN d3).heap.size from S2.out)
  generalize w2.drewN d3 = w3 at P3 S3 ⊢
  clear P2 S2 C8
  have cb := P3.out.blk.at.cell (i := a) (by omega)
  rw [Nat.zero_add] at cb
  have v2 : IntKind.i64.wrap ((g16 (cutB X a) 2 : Nat) : Int) = ((g16 (cutB X a) 2 : Nat) : Int) := by rw [IntKind.wrap_i64]; omega
  have v8 : IntKind.i64.wrap ((g32 (cutB X a) 8 : Nat) : Int) = ((g32 (cutB X a) 8 : Nat) : Int) := by rw [IntKind.wrap_i64]; omega
  go_upto_region 6 with (first
    | (refine build_ino013 rfl (.tmp 32) (.tmp 34) (.tmp 36) rfl (X.f a) _ _ rfl rfl rfl ?_)
    | (refine store_newI rfl (.tmp 10) (.tmp 37) rfl _ rfl rfl ?_))
  have bn := below_new w3 (.cells (ics ⟨X.f a, (g16 (cutB X a) 2 : Nat), 0, (g32 (cutB X a) 8 : Nat), .zero, 0⟩) 27)
  have P4 : Hid (GI w X w3.heap.size ⟨X.f a, (g16 (cutB X a) 2 : Nat), 0, (g32 (cutB X a) 8 : Nat), .zero, 0⟩ (w3.alloc (.cells (ics ⟨X.f a, (g16 (cutB X a) 2 : Nat), 0, (g32 (cutB X a) 8 : Nat), .zero, 0⟩) 27))) := Lib.hid ⟨P3.out.below bn, heap_alloc_new w3 _, S3.out⟩
  clear bn P3 S3 cb v2 v8
  generalize w3.alloc (.cells (ics ⟨X.f a, (g16 (cutB X a) 2 : Nat), 0, (g32 (cutB X a) 8 : Nat), .zero, 0⟩) 27) = w4 at P4 ⊢
  generalize w3.heap.size = bi at P4 ⊢
  go_upto_region 7 with (go_at_call 25; with_reducible refine (C4.out _ P4.out.gb.blk).mono ?_; rintro e w5 ⟨rfl, d5, rfl⟩; have P5 := Lib.hid (P4.out.drewN d5); generalize w4.drewN d5 = w5 at P5 ⊢; have c2 := P5.out.ino.cell (ics_2 _); have f2 := P5.out.ino.frozen 2)
  have P6 : Hid (GI w X bi (tg X a 0) (w5.setCell ⟨bi, 2, none⟩ (.int .u32 ((g32 (cutB X a) 4 : Nat) : Int)))) := Lib.hid (P5.out.only (Only.set _ _ _ _) (by rw [tg_0]; exact P5.out.ino.setGen (g32 (cutB X a) 4)))
  clear P4 P5 c2 f2 C4
  generalize w5.setCell ⟨bi, 2, none⟩ (.int .u32 ((g32 (cutB X a) 4 : Nat) : Int)) = w6 at P6 ⊢
  go_wp2_with fail
  go_loopw [11] (fun i wr => ∃ k : Nat, k ≤ 11 ∧ i = .int .i64 k ∧ GI w X bi (tg X a k) wr) (fun i _ => 11 - (intOf i).toNat)
  case atStart => exact ⟨0, Nat.zero_le _, rfl, P6.out⟩
  case round =>
    obtain ⟨k, hk, rfl, hgi⟩ := hrel
    have P7 := Lib.hid hgi
    clear hgi P6
    by_cases hlt : k < 11
    · have m1 : IntKind.i64.wrap (4 * (k : Int)) = 4 * (k : Int) := by rw [IntKind.wrap_i64]; omega
      have m2 : IntKind.i64.wrap ((a : Int) + 12 + 4 * (k : Int)) = (a : Int) + 12 + 4 * (k : Int) := by rw [IntKind.wrap_i64]; omega
      have CK1 := Lib.hid (CK.out k hlt)
      go_wp2_with (go_at_call 25; with_reducible refine (CK1.out _ P7.out.gb.blk).mono ?_; rintro e w5 ⟨rfl, d5, rfl⟩; have P8 := Lib.hid (P7.out.drewN d5); generalize wr.drewN d5 = w5 at P8 ⊢; have ck := P8.out.ino.cell (ics_p _ hlt); have fk := P8.out.ino.frozen (4 + k))
      have P9 := Lib.hid (P8.out.only (Only.set w5 bi (4 + k) (.int .u32 ((g32 (cutB X a) (12 + 4 * k) : Nat) : Int))) (P8.out.ino.setP k _ hlt (g32_lt (cutB_lt X a) _)))
      rw [tg_succ] at P9
      go_roundw
      case rel => exact ⟨k + 1, by omega, by congr 1, P9.out⟩
      case measure => simp [intOf]; omega
    · obtain rfl : k = 11 := by omega
      go_upto_region 12 with (go_at_call 25; with_reducible refine (C56.out _ P7.out.gb.blk).mono ?_; rintro e w5 ⟨rfl, d5, rfl⟩; have P8 := Lib.hid (P7.out.drewN d5); generalize wr.drewN d5 = w5 at P8 ⊢; have c2 := P8.out.ino.cell (ics_15 _); have f2 := P8.out.ino.frozen 15)
      have P9 := Lib.hid (P8.out.only (Only.set w5 bi 15 (.int .u32 ((g32 (cutB X a) 56 : Nat) : Int))) (P8.out.ino.setNx (g32 (cutB X a) 56)))
      rw [tg_all] at P9
      clear P7 P8 c2 f2 CK C56
      generalize w5.setCell ⟨bi, 15, none⟩ (.int .u32 ((g32 (cutB X a) 56 : Nat) : Int)) = w6 at P9 ⊢
      have FT : Hid (toldB X a).Fits := Lib.hid (toldF_fits (cutB_lt X a))
      have c1 := P9.out.gb.blk.at.cell (i := a + 1) (by omega)
      rw [Nat.zero_add] at c1
      have la1 : (a : Int) + 1 < 256 := by omega
      have hx1 := X.lt (a + 1)
      by_cases n1 : X.f (a + 1) = 0
      rotate_left
      · have E : Hid (getI X (a : Int) = (.zero, 70)) := Lib.hid (getI_no HY.out (by rw [Int.toNat_natCast]; exact fun q => n1 q.1.1))
        have t1 : (((X.f (a + 1) : Nat) : Int) != 0) = true := by simp; omega
        clear n1
        go_wp2_with (first
          | (refine build_ino0 rfl rfl ?_)
          | (refine store_rowI rfl (.tmp 4) (.tmp 90) rfl (w.heap.size + 1) .zero .zero rfl rfl P9.out.gb.res ?_))
        exact bodyPost_ret (results_ino_err Try.results15 _ _ (w.heap.size + 1) .zero _ rfl rfl (P9.out.gb.res.row _)) rfl ⟨by rw [E.out], below_setRow P9.out.gb.low (by omega) _⟩
      have t1 : (((X.f (a + 1) : Nat) : Int) != 0) = false := by simp; omega
      have la0 : (0 : Int) ≤ (a : Int) + 60 := by omega
      have la2 : (a : Int) + 60 ≤ (a : Int) + 64 := by omega
      have la3 : (a : Int) + 64 ≤ 256 := by omega
      have w60 : IntKind.i64.wrap ((a : Int) + 60) = (a : Int) + 60 := by rw [IntKind.wrap_i64]; omega
      have w64 : IntKind.i64.wrap ((a : Int) + 64) = (a : Int) + 64 := by rw [IntKind.wrap_i64]; omega
      have HR : Hid (Row w6 (some ⟨w.heap.size, a + 60, none⟩) 4 (fun i => X.f (a + 60 + i))) := Lib.hid (P9.out.gb.blk.row (by omega))
      have CM := Lib.hid fun W => rMay (toldB X a) W FT.out
      by_cases n2 : ∀ i, i < 4 → X.f (a + 60 + i) = 0
      rotate_left
      · obtain ⟨i, hi, hne⟩ : ∃ i, i < 4 ∧ X.f (a + 60 + i) ≠ 0 := by
          apply Classical.byContradiction
          intro q
          exact n2 fun i hi => Classical.byContradiction fun r => q ⟨i, hi, r⟩
        have E : Hid (getI X (a : Int) = (.zero, 70)) := Lib.hid (getI_no HY.out (by rw [Int.toNat_natCast]; exact fun q => hne (by have := q.1.2 (60 + i) (by omega) (by omega); unfold cutB at this; rwa [show a + (60 + i) = a + 60 + i by omega] at this)))
        have CZ := Lib.hid (rZero_no (some ⟨w.heap.size, a + 60, none⟩) 4 (196 - a) (fun i => X.f (a + 60 + i)) w6 i (by omega) HR.out hi (by show 0 < X.f (a + 60 + i); omega))
        clear n1 n2 hne hi CM
        go_wp2_with (first
          | (go_at_call 26; with_reducible refine CZ.out.mono ?_; rintro e w7 ⟨rfl, rfl⟩)
          | (refine build_ino0 rfl rfl ?_)
          | (refine store_rowI rfl (.tmp 4) (.tmp 90) rfl (w.heap.size + 1) .zero .zero rfl rfl P9.out.gb.res ?_))
        exact bodyPost_ret (results_ino_err Try.results15 _ _ (w.heap.size + 1) .zero _ rfl rfl (P9.out.gb.res.row _)) rfl ⟨by rw [E.out], below_setRow P9.out.gb.low (by omega) _⟩
      have CZ := Lib.hid (rZero_yes (some ⟨w.heap.size, a + 60, none⟩) 4 (196 - a) (fun i => X.f (a + 60 + i)) w6 (by omega) HR.out n2)
      have hN : NoughtsF (cutB X a) := ⟨n1, fun i i1 i2 => by have := n2 (i - 60) (by omega); unfold cutB; rwa [show a + 60 + (i - 60) = a + i by omega] at this⟩
      rcases hm : mayB (toldB X a) with _ | _
      · have hn : ¬ MayI (toldB X a) := fun q => by rw [(mayB_iff _).2 q] at hm; cases hm
        have E : Hid (getI X (a : Int) = (.zero, 70)) := Lib.hid (getI_no HY.out (by rw [Int.toNat_natCast]; exact fun q => hn q.2))
        rw [hm] at CM
        clear n1 n2 hm hn hN
        go_upto_region 13 with (first
          | (go_at_call 26; with_reducible refine CZ.out.mono ?_; rintro e w7 ⟨rfl, rfl⟩)
          | (refine load_ino_w (by with_unfolding_all rfl) (.tmp 10) rfl bi 0 rfl (toldB X a) P9.out.ino.at ?_)
          | (go_at_call 13; with_reducible refine (CM.out _).mono ?_; rintro e w8 ⟨rfl, hb⟩))
        have PA := Lib.hid (P9.out.below hb)
        clear hb P9 CM
        go_wp2_with (first
          | (refine build_ino0 rfl rfl ?_)
          | (refine store_rowI rfl (.tmp 4) (.tmp 90) rfl (w.heap.size + 1) .zero .zero rfl rfl PA.out.gb.res ?_))
        exact bodyPost_ret (results_ino_err Try.results15 _ _ (w.heap.size + 1) .zero _ rfl rfl (PA.out.gb.res.row _)) rfl ⟨by rw [E.out], below_setRow PA.out.gb.low (by omega) _⟩
      · have hmy : MayI (toldB X a) := (mayB_iff _).1 hm
        have E : Hid (getI X (a : Int) = (toldB X a, 0)) := Lib.hid (by have := getI_yes (X := X) HY.out (by rw [Int.toNat_natCast]; exact hN) (by rw [Int.toNat_natCast]; exact hmy); rwa [Int.toNat_natCast] at this)
        rw [hm] at CM
        clear n1 n2 hm hmy hN
        go_upto_region 14 with (first
          | (go_at_call 26; with_reducible refine CZ.out.mono ?_; rintro e w7 ⟨rfl, rfl⟩)
          | (refine load_ino_w (by with_unfolding_all rfl) (.tmp 10) rfl bi 0 rfl (toldB X a) P9.out.ino.at ?_)
          | (go_at_call 13; with_reducible refine (CM.out _).mono ?_; rintro e w8 ⟨rfl, hb⟩))
        have PA := Lib.hid (P9.out.below hb)
        clear hb P9 CM
        go_wp2_with (first
          | (refine load_ino rfl (.tmp 10) rfl bi 0 rfl (toldB X a) PA.out.ino.at ?_)
          | (refine store_rowI rfl (.tmp 4) (.tmp 91) rfl (w.heap.size + 1) (toldB X a) .zero rfl rfl PA.out.gb.res ?_))
        exact bodyPost_ret (results_ino_err Try.results15 _ _ (w.heap.size + 1) (toldB X a) _ rfl rfl (PA.out.gb.res.row _)) rfl ⟨by rw [E.out], below_setRow PA.out.gb.low (by omega) _⟩
end Go.Proofs.Ytfijagjkgmhimaa
