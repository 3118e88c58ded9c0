import Derived.Test.YtfijagjkgmhimaaInoSay
import Derived.Test.YtfijagjkgmhimaaInoLow
namespace Go.Proofs.Ytfijagjkgmhimaa
open Go.RowKit

/-! The laws InodeGets and InodePuts: the program's answers against the document's. -/
set_option maxRecDepth 100000 in
set_option maxHeartbeats 4000000 in
theorem inodeGets_any (hS : ISays) (X : Blk) (at_ : Int) (w : World) (h0 : -9223372036854775808 ≤ at_) (h1 : at_ ≤ 9223372036854775807) :
    Calls Try.prog 4 #[.agg (arr X), .int .i64 at_] w fun e w' => e = .returned (.bool true) ∧ Below w.heap.size w w' := by
  have hzi := fun W => zero_ino W
  have B0 := Lib.hid (below_new w (.cells (arr X) 23))
  have V : Hid (BVar (w.alloc (.cells (arr X) 23)) w.heap.size X) := Lib.hid (heap_alloc_new w _)
  obtain ⟨⟨T, c⟩, x1⟩ : ∃ p, getI X at_ = p := ⟨_, rfl⟩
  have CG : Hid (∀ W, Calls Try.prog 14 #[.agg (arr X), .int .i64 at_] W fun e w' => e = .returned (.tuple #[.agg (ics T), .int .i64 c]) ∧ Below W.heap.size W w') := Lib.hid fun W => by have := hS.get X at_ W h0 h1; rwa [x1] at this
  have CR : Hid (∀ W, Calls Try.prog 15 #[.agg (arr X), .int .i64 at_] W fun e w' => e = .returned (.tuple #[.agg (ics T), .int .i64 c]) ∧ Below W.heap.size W w') := Lib.hid fun W => by have := rGet X at_ W; rwa [x1] at this
  clear hS x1
  go_enter Try.func4, Try.ntmps4
  go_upto_region 2 with (first
    | (refine load_blk rfl (.tmp 2) rfl w.heap.size 0 rfl X V.out.at ?_)
    | (go_at_call 14; with_reducible refine (CG.out _).mono ?_; rintro e w2 ⟨rfl, hb⟩)
    | (refine store_newI rfl (.tmp 5) (.tmp 13) rfl T rfl rfl ?_))
  have bn := below_new w2 (.cells (ics T) 27)
  have V2 := Lib.hid ((V.out.below hb).below bn)
  have I2 := Lib.hid (show IVar (w2.alloc (.cells (ics T) 27)) w2.heap.size T from heap_alloc_new w2 _)
  have B2 := Lib.hid (low_go (low_go B0.out hb) bn)
  clear hb bn V B0
  generalize w2.alloc (.cells (ics T) 27) = w3 at V2 I2 B2 ⊢
  generalize w2.heap.size = b5 at I2 ⊢
  go_upto_region 3 with (first
    | (refine load_blk rfl (.tmp 2) rfl w.heap.size 0 rfl X V2.out.at ?_)
    | (go_at_call 15; with_reducible refine (CR.out _).mono ?_; rintro e w4 ⟨rfl, hb⟩)
    | (refine store_newI rfl (.tmp 7) (.tmp 19) rfl T rfl rfl ?_))
  have bn := below_new w4 (.cells (ics T) 27)
  have I4 := Lib.hid ((I2.out.below hb).below bn)
  have J4 := Lib.hid (show IVar (w4.alloc (.cells (ics T) 27)) w4.heap.size T from heap_alloc_new w4 _)
  have B4 := Lib.hid (low_go (low_go B2.out hb) bn)
  clear hb bn V2 I2 B2
  generalize w4.alloc (.cells (ics T) 27) = w5 at I4 J4 B4 ⊢
  generalize w4.heap.size = b7 at J4 ⊢
  have hg := ino_guard
  have he := fun W => equalIn_ino T T W
  simp only [decide_true] at he
  go_wp2_with (first
    | (refine load_ino rfl (.tmp 5) rfl b5 0 rfl T I4.out.at ?_)
    | (refine load_ino rfl (.tmp 7) rfl b7 0 rfl T J4.out.at ?_))
  go_ret
  exact ⟨by simp, by first | exact B4.out | exact low_drewN B4.out 1⟩
set_option maxRecDepth 100000 in
set_option maxHeartbeats 4000000 in
theorem inodePuts_any (hS : ISays) (X : Blk) (at_ : Int) (x : InoV) (w : World) (h0 : -9223372036854775808 ≤ at_) (h1 : at_ ≤ 9223372036854775807) (hx : x.Fits) :
    Calls Try.prog 3 #[.agg (arr X), .int .i64 at_, .agg (ics x)] w fun e w' => e = .returned (.bool true) ∧ Below w.heap.size w w' := by
  have hz := fun W => zero_blk W
  have HS := Lib.hid hS
  have FX := Lib.hid hx
  have b1 := below_new w (.cells (arr X) 23)
  have b2 := below_new (w.alloc (.cells (arr X) 23)) (.cells (ics x) 27)
  have q1 : BVar (w.alloc (.cells (arr X) 23)) w.heap.size X := heap_alloc_new w _
  have q2 : IVar ((w.alloc (.cells (arr X) 23)).alloc (.cells (ics x) 27)) (w.heap.size + 1) x := heap_alloc2_new w _ _
  have V := Lib.hid (q1.below b2)
  have I := Lib.hid q2
  obtain ⟨⟨Y, c⟩, x1⟩ : ∃ p, putI X at_ x = p := ⟨_, rfl⟩
  have CP : Hid (∀ b W, BVar W b X → Calls Try.prog 10 #[.pointer (some ⟨b, 0, none⟩), .int .i64 at_, .agg (ics x)] W fun e w' => e = .returned (.int .i64 c) ∧ BVar w' b Y ∧ Only b W w') := Lib.hid fun b W hW => by have := hS.put b X at_ x W hW h0 h1 hx; rwa [x1] at this
  have CN := Lib.hid fun W => hS.putNil at_ x W
  have CR : Hid (∀ W, Calls Try.prog 11 #[.agg (arr X), .int .i64 at_, .agg (ics x)] W fun e w' => e = .returned (.tuple #[.agg (arr Y), .int .i64 c]) ∧ Below W.heap.size W w') := Lib.hid fun W => by have := rPut X at_ x W hx; rwa [x1] at this
  have CM := Lib.hid fun W => hS.may x W hx
  have CQ := Lib.hid fun W => rMay x W hx
  have B0 := Lib.hid (low_go b1 b2)
  clear hS hx b1 b2 q1 q2 x1
  go_enter Try.func3, Try.ntmps3
  go_upto_region 1 with fail
  generalize (w.alloc (.cells (arr X) 23)).alloc (.cells (ics x) 27) = w1 at V I B0 ⊢
  go_upto_region 2 with (first
    | (refine load_blk rfl (.tmp 3) rfl w.heap.size 0 rfl X V.out.at ?_)
    | (refine store_newB rfl (.tmp 7) (.tmp 11) rfl X rfl rfl ?_))
  have bn := below_new w1 (.cells (arr X) 23)
  have V2 := Lib.hid (V.out.below bn)
  have I2 := Lib.hid (I.out.below bn)
  have M2 := Lib.hid (show BVar (w1.alloc (.cells (arr X) 23)) w1.heap.size X from heap_alloc_new w1 _)
  have Z := Lib.hid (show w.heap.size + 1 < w1.heap.size from I.out.lt)
  have B2 := Lib.hid (low_go B0.out bn)
  clear bn V I B0
  generalize w1.alloc (.cells (arr X) 23) = w2 at V2 I2 M2 B2 ⊢
  generalize w1.heap.size = bm at M2 Z ⊢
  go_upto_region 3 with (first
    | (refine load_ino rfl (.tmp 5) rfl (w.heap.size + 1) 0 rfl x I2.out.at ?_)
    | (go_at_call 10; with_reducible refine (CP.out _ _ M2.out).mono ?_; rintro e w3 ⟨rfl, hv, ho⟩))
  have M3 := Lib.hid hv
  have V3 := Lib.hid (ho.blk (by have := Z.out; omega) V2.out)
  have I3 := Lib.hid (ho.ino (by have := Z.out; omega) I2.out)
  have B3 := Lib.hid (low_only B2.out ho (by have := Z.out; omega))
  clear hv ho V2 I2 M2 B2
  go_upto_region 4 with (first
    | (refine load_ino rfl (.tmp 5) rfl (w.heap.size + 1) 0 rfl x I3.out.at ?_)
    | (refine load_blk rfl (.tmp 3) rfl w.heap.size 0 rfl X V3.out.at ?_)
    | (go_at_call 11; with_reducible refine (CR.out _).mono ?_; rintro e w4 ⟨rfl, hb⟩)
    | (refine store_newB rfl (.tmp 9) (.tmp 20) rfl Y rfl rfl ?_))
  have bn := below_new w4 (.cells (arr Y) 23)
  have M5 := Lib.hid ((M3.out.below hb).below bn)
  have I5 := Lib.hid ((I3.out.below hb).below bn)
  have N5 := Lib.hid (show BVar (w4.alloc (.cells (arr Y) 23)) w4.heap.size Y from heap_alloc_new w4 _)
  have B5 := Lib.hid (low_go (low_go B3.out hb) bn)
  clear hb bn V3 M3 I3 B3
  generalize w4.alloc (.cells (arr Y) 23) = w5 at M5 I5 N5 B5 ⊢
  generalize w4.heap.size = bn at N5 ⊢
  have hg := blk_guard
  have he := fun W => equalIn_blk Y Y W
  simp only [decide_true] at he
  obtain ⟨mv, hmv⟩ : ∃ mv, mayB x = mv := ⟨_, rfl⟩
  rw [hmv] at CM CQ
  refine wp_region_class (More w5) (by kernel_rfl) (by kernel_rfl) (More.drew _) ?_
  repeat (first | go_big_quiet_skip | (go_big_quiet_want; first | (refine quiet_load (.tmp 7) rfl bm 0 (by rfl) Y (by intro w' hw'; exact (M5.out.below hw').at) ?_; simp only [Act.put, List.setIfInBounds_toArray, List.set_cons_zero, List.set_cons_succ]; go_big_quiet_on) | (refine quiet_load (.tmp 9) rfl bn 0 (by rfl) Y (by intro w' hw'; exact (N5.out.below hw').at) ?_; simp only [Act.put, List.setIfInBounds_toArray, List.set_cons_zero, List.set_cons_succ]; go_big_quiet_on) | (refine quiet_loadI (.tmp 5) rfl (w.heap.size + 1) 0 (by rfl) x (by intro w' hw'; exact (I5.out.below hw').at) ?_; simp only [Act.put, List.setIfInBounds_toArray, List.set_cons_zero, List.set_cons_succ]; go_big_quiet_on) | (go_big_quiet_op; first | go_big_quiet_on | (apply Exists.intro; refine ⟨fun _ _ => ?_, ?_⟩; (with_reducible exact rfl); go_big_quiet_on) | go_big_quiet_call ((intro hC; (first | (with_reducible refine (CM.out _).mono ?_) | (with_reducible refine (CQ.out _).mono ?_) | (with_reducible refine (CN.out _).mono ?_)); exact fun e w' h => ⟨h.1, hC.on h.2⟩)))))
  refine wpQuiet_nil ?_
  intro w6 hw6
  go_wp2
  go_ret
  exact ⟨by simp, low_go B5.out hw6⟩
end Go.Proofs.Ytfijagjkgmhimaa
