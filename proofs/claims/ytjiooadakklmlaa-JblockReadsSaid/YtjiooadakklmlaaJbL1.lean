import Derived.Test.YtjiooadakklmlaaJbA2
namespace Go.Proofs.Ytjiooadakklmlaa
open Go.RowKit

/-! JblockHeads. -/
theorem quiet_head {o : Oper} {a : Act} {C : World → Prop} {K : Act → Prop} (x : Operand) (ho : o.op = .load 24 x) (b off : Nat) (hx : a.eval x = .pointer (some ⟨b, off, none⟩)) (s : HeadV) (hc : ∀ w, C w → HAt w b off s)
    (hk : K (a.put o.dst (.agg (hcs s)))) : o.quiet Try.prog a C K := by
  refine ⟨_, fun w hw => ?_, hk⟩
  unfold Oper.quietAt execOp
  have h := run_loadAt_mid (P := Try.prog) w b off 24 (hcs s).toList _ (hc w hw) Try.underlying24 rfl (head_size s)
  simp only [ho, hx, h, Sem.run_bind, Sem.run_pure, Result.andThen_ok]
  exact ⟨rfl, by simp⟩
theorem heads_same {x y : HeadV} (h : MayH x) (k : MayH y) : decide (listB (headL x) = listB (headL y)) = decide (x = y) := by
  rw [decide_eq_decide]
  exact ⟨fun e => by rw [← head_of h, ← head_of k, e], fun e => by rw [e]⟩
set_option maxRecDepth 100000 in
set_option maxHeartbeats 8000000 in
theorem jHeads (hS : JSays) (x y : HeadV) (w : World) : Calls Try.prog 8 #[.agg (hcs x), .agg (hcs y)] w fun e w' => e = .returned (.bool true) ∧ Below w.heap.size w w' := by
  have hz := fun W => zero_blk W
  have V := Lib.hid (show HVar ((w.alloc (.cells (hcs x) 24)).alloc (.cells (hcs y) 24)) w.heap.size x from HVar.below (heap_alloc_new w _) (below_new _ _))
  have Y := Lib.hid (show HVar ((w.alloc (.cells (hcs x) 24)).alloc (.cells (hcs y) 24)) (w.heap.size + 1) y from heap_alloc2_new w _ _)
  have B := Lib.hid (show Below w.heap.size w ((w.alloc (.cells (hcs x) 24)).alloc (.cells (hcs y) 24)) from low_go (below_new w _) (below_new _ _))
  have CA := Lib.hid fun W => jAwake hS W
  have C1 := Lib.hid fun W => hS.writeHead x W
  have C2 := Lib.hid fun W => hS.writeHead y W
  clear hS
  have HY : Hid (MayH y ∨ ¬ MayH y) := Lib.hid (Classical.em _)
  obtain ⟨R, r, hR⟩ : ∃ R r, writeJH y = (R, r) := ⟨_, _, rfl⟩
  rw [hR] at C2
  by_cases h1 : 1 ≤ x.seq
  rotate_left
  · rw [writeJH_no fun q : MayH x => h1 q.seq.pos] at C1
    obtain ⟨P, hP⟩ : ∃ P, Blk.zero = P := ⟨_, rfl⟩
    have C1 := Lib.hid C1.out
    have C1 : Hid (∀ W, Calls Try.prog 11 #[.agg (hcs x)] W fun e w' => e = .returned (.tuple #[.agg (arr P), .int .i64 2]) ∧ Below W.heap.size W w') := hP ▸ C1
    clear hR HY
    have a1 : decide ((1 : Int) ≤ (x.seq : Int)) = false := by simp; omega
    have b1 : ¬ ((1 : Int) ≤ (x.seq : Int)) := by omega
    have c1 : decide (1 ≤ x.seq) = false := by simp; omega
    have e1 : ¬ (1 ≤ x.seq) := by omega
    have z1 : decide (0 < x.seq) = false := by simp; omega
    clear hP h1
    go_enter Try.func8, Try.ntmps8
    go_upto_region 1 with fail
    generalize (w.alloc (.cells (hcs x) 24)).alloc (.cells (hcs y) 24) = w1 at V Y B ⊢
    go_upto_region 4 with (first
      | (go_at_call 35; with_reducible refine (CA.out _).mono ?_; rintro e w2 ⟨rfl, hb⟩; have V2 := Lib.hid (V.out.below hb); have Y2 := Lib.hid (Y.out.below hb); have B2 := Lib.hid (low_go B.out hb); clear hb)
      | (refine load_head rfl (.tmp 2) rfl w.heap.size 0 rfl x V2.out.at ?_)
      | (go_at_call 11; with_reducible refine (C1.out _).mono ?_; rintro e w3 ⟨rfl, hb⟩)
      | (refine store_newJ rfl (.tmp 5) (.tmp 14) rfl P rfl rfl ?_))
    have V4 := Lib.hid ((V2.out.below hb).below (newB_low w3 P))
    have Y4 := Lib.hid ((Y2.out.below hb).below (newB_low w3 P))
    have P4 := Lib.hid (newB_var w3 P)
    have B4 := Lib.hid (newB_go (low_go B2.out hb) P)
    clear hb V Y B V2 Y2 B2 C1 CA
    generalize newB w3 P = w4 at V4 Y4 P4 B4 ⊢
    generalize w3.heap.size = bp at P4 ⊢
    go_upto_region 5 with (first
      | (refine load_head rfl (.tmp 3) rfl (w.heap.size + 1) 0 rfl y Y4.out.at ?_)
      | (go_at_call 11; with_reducible refine (C2.out _).mono ?_; rintro e w5 ⟨rfl, hb⟩)
      | (refine store_newJ rfl (.tmp 7) (.tmp 19) rfl R rfl rfl ?_))
    have V6 := Lib.hid ((V4.out.below hb).below (newB_low w5 R))
    have Y6 := Lib.hid ((Y4.out.below hb).below (newB_low w5 R))
    have P6 := Lib.hid ((P4.out.below hb).below (newB_low w5 R))
    have R6 := Lib.hid (newB_var w5 R)
    have B6 := Lib.hid (newB_go (low_go B4.out hb) R)
    clear hb V4 Y4 P4 B4 C2 hz
    generalize newB w5 R = w6 at V6 Y6 P6 R6 B6 ⊢
    generalize w5.heap.size = br at R6 ⊢
    have q0 := V6.out.seq
    have q1 := V6.out.start
    go_upto_region 7 with fail
    refine wp_region_class (More w6) (by kernel_rfl) (by kernel_rfl) (More.drew _) ?_
    repeat (first | go_big_quiet_skip | (go_big_quiet_want; first | (go_big_quiet_op; first | go_big_quiet_on | (apply Exists.intro; refine ⟨fun _ _ => ?_, ?_⟩; (with_reducible exact rfl); go_big_quiet_on))))
    refine wpQuiet_nil ?_
    intro w7 hw7
    have B7 := Lib.hid (low_go B6.out hw7)
    clear hw7
    go_wp2_with fail
    go_ret
    exact ⟨rfl, B7.out⟩
  by_cases h2 : x.seq ≤ 2147483648
  rotate_left
  · rw [writeJH_no fun q : MayH x => h2 q.seq.le] at C1
    obtain ⟨P, hP⟩ : ∃ P, Blk.zero = P := ⟨_, rfl⟩
    have C1 := Lib.hid C1.out
    have C1 : Hid (∀ W, Calls Try.prog 11 #[.agg (hcs x)] W fun e w' => e = .returned (.tuple #[.agg (arr P), .int .i64 2]) ∧ Below W.heap.size W w') := hP ▸ C1
    clear hR HY
    have a1 : decide ((1 : Int) ≤ (x.seq : Int)) = true := by simp; omega
    have b1 : ((1 : Int) ≤ (x.seq : Int)) := by omega
    have c1 : decide (1 ≤ x.seq) = true := by simp; omega
    have e1 : (1 ≤ x.seq) := by omega
    have z1 : decide (0 < x.seq) = true := by simp; omega
    have a2 : decide ((x.seq : Int) ≤ 2147483648) = false := by simp; omega
    have b2 : ¬ ((x.seq : Int) ≤ 2147483648) := by omega
    have c2 : decide (x.seq ≤ 2147483648) = false := by simp; omega
    have e2 : ¬ (x.seq ≤ 2147483648) := by omega
    clear hP h1 h2
    go_enter Try.func8, Try.ntmps8
    go_upto_region 1 with fail
    generalize (w.alloc (.cells (hcs x) 24)).alloc (.cells (hcs y) 24) = w1 at V Y B ⊢
    go_upto_region 4 with (first
      | (go_at_call 35; with_reducible refine (CA.out _).mono ?_; rintro e w2 ⟨rfl, hb⟩; have V2 := Lib.hid (V.out.below hb); have Y2 := Lib.hid (Y.out.below hb); have B2 := Lib.hid (low_go B.out hb); clear hb)
      | (refine load_head rfl (.tmp 2) rfl w.heap.size 0 rfl x V2.out.at ?_)
      | (go_at_call 11; with_reducible refine (C1.out _).mono ?_; rintro e w3 ⟨rfl, hb⟩)
      | (refine store_newJ rfl (.tmp 5) (.tmp 14) rfl P rfl rfl ?_))
    have V4 := Lib.hid ((V2.out.below hb).below (newB_low w3 P))
    have Y4 := Lib.hid ((Y2.out.below hb).below (newB_low w3 P))
    have P4 := Lib.hid (newB_var w3 P)
    have B4 := Lib.hid (newB_go (low_go B2.out hb) P)
    clear hb V Y B V2 Y2 B2 C1 CA
    generalize newB w3 P = w4 at V4 Y4 P4 B4 ⊢
    generalize w3.heap.size = bp at P4 ⊢
    go_upto_region 5 with (first
      | (refine load_head rfl (.tmp 3) rfl (w.heap.size + 1) 0 rfl y Y4.out.at ?_)
      | (go_at_call 11; with_reducible refine (C2.out _).mono ?_; rintro e w5 ⟨rfl, hb⟩)
      | (refine store_newJ rfl (.tmp 7) (.tmp 19) rfl R rfl rfl ?_))
    have V6 := Lib.hid ((V4.out.below hb).below (newB_low w5 R))
    have Y6 := Lib.hid ((Y4.out.below hb).below (newB_low w5 R))
    have P6 := Lib.hid ((P4.out.below hb).below (newB_low w5 R))
    have R6 := Lib.hid (newB_var w5 R)
    have B6 := Lib.hid (newB_go (low_go B4.out hb) R)
    clear hb V4 Y4 P4 B4 C2 hz
    generalize newB w5 R = w6 at V6 Y6 P6 R6 B6 ⊢
    generalize w5.heap.size = br at R6 ⊢
    have q0 := V6.out.seq
    have q1 := V6.out.start
    go_upto_region 7 with fail
    refine wp_region_class (More w6) (by kernel_rfl) (by kernel_rfl) (More.drew _) ?_
    repeat (first | go_big_quiet_skip | (go_big_quiet_want; first | (go_big_quiet_op; first | go_big_quiet_on | (apply Exists.intro; refine ⟨fun _ _ => ?_, ?_⟩; (with_reducible exact rfl); go_big_quiet_on))))
    refine wpQuiet_nil ?_
    intro w7 hw7
    have B7 := Lib.hid (low_go B6.out hw7)
    clear hw7
    go_wp2_with fail
    go_ret
    exact ⟨rfl, B7.out⟩
  by_cases h3 : 0 ≤ x.start
  rotate_left
  · rw [writeJH_no fun q : MayH x => h3 q.lo] at C1
    obtain ⟨P, hP⟩ : ∃ P, Blk.zero = P := ⟨_, rfl⟩
    have C1 := Lib.hid C1.out
    have C1 : Hid (∀ W, Calls Try.prog 11 #[.agg (hcs x)] W fun e w' => e = .returned (.tuple #[.agg (arr P), .int .i64 2]) ∧ Below W.heap.size W w') := hP ▸ C1
    clear hR HY
    have a1 : decide ((1 : Int) ≤ (x.seq : Int)) = true := by simp; omega
    have b1 : ((1 : Int) ≤ (x.seq : Int)) := by omega
    have c1 : decide (1 ≤ x.seq) = true := by simp; omega
    have e1 : (1 ≤ x.seq) := by omega
    have z1 : decide (0 < x.seq) = true := by simp; omega
    have a2 : decide ((x.seq : Int) ≤ 2147483648) = true := by simp; omega
    have b2 : ((x.seq : Int) ≤ 2147483648) := by omega
    have c2 : decide (x.seq ≤ 2147483648) = true := by simp; omega
    have e2 : (x.seq ≤ 2147483648) := by omega
    have a3 : decide ((0 : Int) ≤ x.start) = false := by simp; omega
    have b3 : ¬ ((0 : Int) ≤ x.start) := by omega
    clear hP h1 h2 h3
    go_enter Try.func8, Try.ntmps8
    go_upto_region 1 with fail
    generalize (w.alloc (.cells (hcs x) 24)).alloc (.cells (hcs y) 24) = w1 at V Y B ⊢
    go_upto_region 4 with (first
      | (go_at_call 35; with_reducible refine (CA.out _).mono ?_; rintro e w2 ⟨rfl, hb⟩; have V2 := Lib.hid (V.out.below hb); have Y2 := Lib.hid (Y.out.below hb); have B2 := Lib.hid (low_go B.out hb); clear hb)
      | (refine load_head rfl (.tmp 2) rfl w.heap.size 0 rfl x V2.out.at ?_)
      | (go_at_call 11; with_reducible refine (C1.out _).mono ?_; rintro e w3 ⟨rfl, hb⟩)
      | (refine store_newJ rfl (.tmp 5) (.tmp 14) rfl P rfl rfl ?_))
    have V4 := Lib.hid ((V2.out.below hb).below (newB_low w3 P))
    have Y4 := Lib.hid ((Y2.out.below hb).below (newB_low w3 P))
    have P4 := Lib.hid (newB_var w3 P)
    have B4 := Lib.hid (newB_go (low_go B2.out hb) P)
    clear hb V Y B V2 Y2 B2 C1 CA
    generalize newB w3 P = w4 at V4 Y4 P4 B4 ⊢
    generalize w3.heap.size = bp at P4 ⊢
    go_upto_region 5 with (first
      | (refine load_head rfl (.tmp 3) rfl (w.heap.size + 1) 0 rfl y Y4.out.at ?_)
      | (go_at_call 11; with_reducible refine (C2.out _).mono ?_; rintro e w5 ⟨rfl, hb⟩)
      | (refine store_newJ rfl (.tmp 7) (.tmp 19) rfl R rfl rfl ?_))
    have V6 := Lib.hid ((V4.out.below hb).below (newB_low w5 R))
    have Y6 := Lib.hid ((Y4.out.below hb).below (newB_low w5 R))
    have P6 := Lib.hid ((P4.out.below hb).below (newB_low w5 R))
    have R6 := Lib.hid (newB_var w5 R)
    have B6 := Lib.hid (newB_go (low_go B4.out hb) R)
    clear hb V4 Y4 P4 B4 C2 hz
    generalize newB w5 R = w6 at V6 Y6 P6 R6 B6 ⊢
    generalize w5.heap.size = br at R6 ⊢
    have q0 := V6.out.seq
    have q1 := V6.out.start
    go_upto_region 7 with fail
    refine wp_region_class (More w6) (by kernel_rfl) (by kernel_rfl) (More.drew _) ?_
    repeat (first | go_big_quiet_skip | (go_big_quiet_want; first | (go_big_quiet_op; first | go_big_quiet_on | (apply Exists.intro; refine ⟨fun _ _ => ?_, ?_⟩; (with_reducible exact rfl); go_big_quiet_on))))
    refine wpQuiet_nil ?_
    intro w7 hw7
    have B7 := Lib.hid (low_go B6.out hw7)
    clear hw7
    go_wp2_with fail
    go_ret
    exact ⟨rfl, B7.out⟩
  by_cases h4 : x.start < 256
  rotate_left
  · rw [writeJH_no fun q : MayH x => h4 (by have := q.hi; omega)] at C1
    obtain ⟨P, hP⟩ : ∃ P, Blk.zero = P := ⟨_, rfl⟩
    have C1 := Lib.hid C1.out
    have C1 : Hid (∀ W, Calls Try.prog 11 #[.agg (hcs x)] W fun e w' => e = .returned (.tuple #[.agg (arr P), .int .i64 2]) ∧ Below W.heap.size W w') := hP ▸ C1
    clear hR HY
    have a1 : decide ((1 : Int) ≤ (x.seq : Int)) = true := by simp; omega
    have b1 : ((1 : Int) ≤ (x.seq : Int)) := by omega
    have c1 : decide (1 ≤ x.seq) = true := by simp; omega
    have e1 : (1 ≤ x.seq) := by omega
    have z1 : decide (0 < x.seq) = true := by simp; omega
    have a2 : decide ((x.seq : Int) ≤ 2147483648) = true := by simp; omega
    have b2 : ((x.seq : Int) ≤ 2147483648) := by omega
    have c2 : decide (x.seq ≤ 2147483648) = true := by simp; omega
    have e2 : (x.seq ≤ 2147483648) := by omega
    have a3 : decide ((0 : Int) ≤ x.start) = true := by simp; omega
    have b3 : ((0 : Int) ≤ x.start) := by omega
    have a4 : decide (x.start < 256) = false := by simp; omega
    have b4 : ¬ (x.start < 256) := by omega
    clear hP h1 h2 h3 h4
    go_enter Try.func8, Try.ntmps8
    go_upto_region 1 with fail
    generalize (w.alloc (.cells (hcs x) 24)).alloc (.cells (hcs y) 24) = w1 at V Y B ⊢
    go_upto_region 4 with (first
      | (go_at_call 35; with_reducible refine (CA.out _).mono ?_; rintro e w2 ⟨rfl, hb⟩; have V2 := Lib.hid (V.out.below hb); have Y2 := Lib.hid (Y.out.below hb); have B2 := Lib.hid (low_go B.out hb); clear hb)
      | (refine load_head rfl (.tmp 2) rfl w.heap.size 0 rfl x V2.out.at ?_)
      | (go_at_call 11; with_reducible refine (C1.out _).mono ?_; rintro e w3 ⟨rfl, hb⟩)
      | (refine store_newJ rfl (.tmp 5) (.tmp 14) rfl P rfl rfl ?_))
    have V4 := Lib.hid ((V2.out.below hb).below (newB_low w3 P))
    have Y4 := Lib.hid ((Y2.out.below hb).below (newB_low w3 P))
    have P4 := Lib.hid (newB_var w3 P)
    have B4 := Lib.hid (newB_go (low_go B2.out hb) P)
    clear hb V Y B V2 Y2 B2 C1 CA
    generalize newB w3 P = w4 at V4 Y4 P4 B4 ⊢
    generalize w3.heap.size = bp at P4 ⊢
    go_upto_region 5 with (first
      | (refine load_head rfl (.tmp 3) rfl (w.heap.size + 1) 0 rfl y Y4.out.at ?_)
      | (go_at_call 11; with_reducible refine (C2.out _).mono ?_; rintro e w5 ⟨rfl, hb⟩)
      | (refine store_newJ rfl (.tmp 7) (.tmp 19) rfl R rfl rfl ?_))
    have V6 := Lib.hid ((V4.out.below hb).below (newB_low w5 R))
    have Y6 := Lib.hid ((Y4.out.below hb).below (newB_low w5 R))
    have P6 := Lib.hid ((P4.out.below hb).below (newB_low w5 R))
    have R6 := Lib.hid (newB_var w5 R)
    have B6 := Lib.hid (newB_go (low_go B4.out hb) R)
    clear hb V4 Y4 P4 B4 C2 hz
    generalize newB w5 R = w6 at V6 Y6 P6 R6 B6 ⊢
    generalize w5.heap.size = br at R6 ⊢
    have q0 := V6.out.seq
    have q1 := V6.out.start
    go_upto_region 7 with fail
    refine wp_region_class (More w6) (by kernel_rfl) (by kernel_rfl) (More.drew _) ?_
    repeat (first | go_big_quiet_skip | (go_big_quiet_want; first | (go_big_quiet_op; first | go_big_quiet_on | (apply Exists.intro; refine ⟨fun _ _ => ?_, ?_⟩; (with_reducible exact rfl); go_big_quiet_on))))
    refine wpQuiet_nil ?_
    intro w7 hw7
    have B7 := Lib.hid (low_go B6.out hw7)
    clear hw7
    go_wp2_with fail
    go_ret
    exact ⟨rfl, B7.out⟩
  have hx : MayH x := ⟨⟨h1, h2⟩, h3, by omega⟩
  have C1 : Hid (∀ W, Calls Try.prog 11 #[.agg (hcs x)] W fun e w' => e = .returned (.tuple #[.agg (arr (listB (headL x))), .int .i64 0]) ∧ Below W.heap.size W w') := Lib.hid fun W => by
    have := C1.out W
    rwa [writeJH_yes hx] at this
  obtain ⟨P, hP⟩ : ∃ P, listB (headL x) = P := ⟨_, rfl⟩
  rw [hP] at C1
  have a1 : decide ((1 : Int) ≤ (x.seq : Int)) = true := by simp; omega
  have b1 : ((1 : Int) ≤ (x.seq : Int)) := by omega
  have c1 : decide (1 ≤ x.seq) = true := by simp; omega
  have e1 : (1 ≤ x.seq) := by omega
  have z1 : decide (0 < x.seq) = true := by simp; omega
  have a2 : decide ((x.seq : Int) ≤ 2147483648) = true := by simp; omega
  have b2 : ((x.seq : Int) ≤ 2147483648) := by omega
  have c2 : decide (x.seq ≤ 2147483648) = true := by simp; omega
  have e2 : (x.seq ≤ 2147483648) := by omega
  have a3 : decide ((0 : Int) ≤ x.start) = true := by simp; omega
  have b3 : ((0 : Int) ≤ x.start) := by omega
  have a4 : decide (x.start < 256) = true := by simp; omega
  have b4 : (x.start < 256) := by omega
  by_cases hy : MayH y
  rotate_left
  · rw [writeJH_no hy] at hR
    cases hR
    clear hx hP hy HY h1 h2 h3 h4
    obtain ⟨R, hR⟩ : ∃ P, Blk.zero = P := ⟨_, rfl⟩
    have C2 : Hid (∀ W, Calls Try.prog 11 #[.agg (hcs y)] W fun e w' => e = .returned (.tuple #[.agg (arr R), .int .i64 2]) ∧ Below W.heap.size W w') := hR ▸ C2
    clear hR
    go_enter Try.func8, Try.ntmps8
    go_upto_region 1 with fail
    generalize (w.alloc (.cells (hcs x) 24)).alloc (.cells (hcs y) 24) = w1 at V Y B ⊢
    go_upto_region 4 with (first
      | (go_at_call 35; with_reducible refine (CA.out _).mono ?_; rintro e w2 ⟨rfl, hb⟩; have V2 := Lib.hid (V.out.below hb); have Y2 := Lib.hid (Y.out.below hb); have B2 := Lib.hid (low_go B.out hb); clear hb)
      | (refine load_head rfl (.tmp 2) rfl w.heap.size 0 rfl x V2.out.at ?_)
      | (go_at_call 11; with_reducible refine (C1.out _).mono ?_; rintro e w3 ⟨rfl, hb⟩)
      | (refine store_newJ rfl (.tmp 5) (.tmp 14) rfl P rfl rfl ?_))
    have V4 := Lib.hid ((V2.out.below hb).below (newB_low w3 P))
    have Y4 := Lib.hid ((Y2.out.below hb).below (newB_low w3 P))
    have P4 := Lib.hid (newB_var w3 P)
    have B4 := Lib.hid (newB_go (low_go B2.out hb) P)
    clear hb V Y B V2 Y2 B2 C1 CA
    generalize newB w3 P = w4 at V4 Y4 P4 B4 ⊢
    generalize w3.heap.size = bp at P4 ⊢
    go_upto_region 5 with (first
      | (refine load_head rfl (.tmp 3) rfl (w.heap.size + 1) 0 rfl y Y4.out.at ?_)
      | (go_at_call 11; with_reducible refine (C2.out _).mono ?_; rintro e w5 ⟨rfl, hb⟩)
      | (refine store_newJ rfl (.tmp 7) (.tmp 19) rfl R rfl rfl ?_))
    have V6 := Lib.hid ((V4.out.below hb).below (newB_low w5 R))
    have Y6 := Lib.hid ((Y4.out.below hb).below (newB_low w5 R))
    have P6 := Lib.hid ((P4.out.below hb).below (newB_low w5 R))
    have R6 := Lib.hid (newB_var w5 R)
    have B6 := Lib.hid (newB_go (low_go B4.out hb) R)
    clear hb V4 Y4 P4 B4 C2 hz
    generalize newB w5 R = w6 at V6 Y6 P6 R6 B6 ⊢
    generalize w5.heap.size = br at R6 ⊢
    have q0 := V6.out.seq
    have q1 := V6.out.start
    go_upto_region 7 with fail
    refine wp_region_class (More w6) (by kernel_rfl) (by kernel_rfl) (More.drew _) ?_
    repeat (first | go_big_quiet_skip | (go_big_quiet_want; first | (go_big_quiet_op; first | go_big_quiet_on | (apply Exists.intro; refine ⟨fun _ _ => ?_, ?_⟩; (with_reducible exact rfl); go_big_quiet_on))))
    refine wpQuiet_nil ?_
    intro w7 hw7
    have B7 := Lib.hid (low_go B6.out hw7)
    clear hw7
    go_wp2_with fail
    go_ret
    exact ⟨rfl, B7.out⟩
  · rw [writeJH_yes hy] at hR
    cases hR
    obtain ⟨R, hR⟩ : ∃ P, listB (headL y) = P := ⟨_, rfl⟩
    rw [hR] at C2
    have hs := heads_same hx hy
    rw [hP, hR] at hs
    have hg1 := blk_guard
    have hg2 := head_guard
    have he1 := fun W => equalIn_blk P R W
    have he2 := fun W => equalIn_head x y W
    rw [hs] at he1
    obtain ⟨bb, hbb⟩ : ∃ bb, decide (x = y) = bb := ⟨_, rfl⟩
    rw [hbb] at he1 he2
    clear hs hbb hR hP hx hy HY h1 h2 h3 h4
    go_enter Try.func8, Try.ntmps8
    go_upto_region 1 with fail
    generalize (w.alloc (.cells (hcs x) 24)).alloc (.cells (hcs y) 24) = w1 at V Y B ⊢
    go_upto_region 4 with (first
      | (go_at_call 35; with_reducible refine (CA.out _).mono ?_; rintro e w2 ⟨rfl, hb⟩; have V2 := Lib.hid (V.out.below hb); have Y2 := Lib.hid (Y.out.below hb); have B2 := Lib.hid (low_go B.out hb); clear hb)
      | (refine load_head rfl (.tmp 2) rfl w.heap.size 0 rfl x V2.out.at ?_)
      | (go_at_call 11; with_reducible refine (C1.out _).mono ?_; rintro e w3 ⟨rfl, hb⟩)
      | (refine store_newJ rfl (.tmp 5) (.tmp 14) rfl P rfl rfl ?_))
    have V4 := Lib.hid ((V2.out.below hb).below (newB_low w3 P))
    have Y4 := Lib.hid ((Y2.out.below hb).below (newB_low w3 P))
    have P4 := Lib.hid (newB_var w3 P)
    have B4 := Lib.hid (newB_go (low_go B2.out hb) P)
    clear hb V Y B V2 Y2 B2 C1 CA
    generalize newB w3 P = w4 at V4 Y4 P4 B4 ⊢
    generalize w3.heap.size = bp at P4 ⊢
    go_upto_region 5 with (first
      | (refine load_head rfl (.tmp 3) rfl (w.heap.size + 1) 0 rfl y Y4.out.at ?_)
      | (go_at_call 11; with_reducible refine (C2.out _).mono ?_; rintro e w5 ⟨rfl, hb⟩)
      | (refine store_newJ rfl (.tmp 7) (.tmp 19) rfl R rfl rfl ?_))
    have V6 := Lib.hid ((V4.out.below hb).below (newB_low w5 R))
    have Y6 := Lib.hid ((Y4.out.below hb).below (newB_low w5 R))
    have P6 := Lib.hid ((P4.out.below hb).below (newB_low w5 R))
    have R6 := Lib.hid (newB_var w5 R)
    have B6 := Lib.hid (newB_go (low_go B4.out hb) R)
    clear hb V4 Y4 P4 B4 C2 hz
    generalize newB w5 R = w6 at V6 Y6 P6 R6 B6 ⊢
    generalize w5.heap.size = br at R6 ⊢
    have q0 := V6.out.seq
    have q1 := V6.out.start
    go_upto_region 7 with fail
    cases bb
    · refine wp_region_class (More w6) (by kernel_rfl) (by kernel_rfl) (More.drew _) ?_
      repeat (first | go_big_quiet_skip | (go_big_quiet_want; first | (refine quiet_load (.tmp 5) rfl bp 0 rfl P (by intro w' hw'; exact (P6.out.below hw').at) ?_; simp only [Act.put, List.setIfInBounds_toArray, List.set_cons_zero, List.set_cons_succ]; go_big_quiet_on) | (refine quiet_load (.tmp 7) rfl br 0 rfl R (by intro w' hw'; exact (R6.out.below hw').at) ?_; simp only [Act.put, List.setIfInBounds_toArray, List.set_cons_zero, List.set_cons_succ]; go_big_quiet_on) | (refine quiet_head (.tmp 2) rfl w.heap.size 0 rfl x (by intro w' hw'; exact (V6.out.below hw').at) ?_; simp only [Act.put, List.setIfInBounds_toArray, List.set_cons_zero, List.set_cons_succ]; go_big_quiet_on) | (refine quiet_head (.tmp 3) rfl (w.heap.size + 1) 0 rfl y (by intro w' hw'; exact (Y6.out.below hw').at) ?_; simp only [Act.put, List.setIfInBounds_toArray, List.set_cons_zero, List.set_cons_succ]; go_big_quiet_on) | (go_big_quiet_op; first | go_big_quiet_on | (apply Exists.intro; refine ⟨fun _ _ => ?_, ?_⟩; (with_reducible exact rfl); go_big_quiet_on))))
      refine wpQuiet_nil ?_
      intro w7 hw7
      have B7 := Lib.hid (low_go B6.out hw7)
      clear hw7
      go_wp2_with fail
      go_ret
      exact ⟨rfl, B7.out⟩
    · refine wp_region_class (More w6) (by kernel_rfl) (by kernel_rfl) (More.drew _) ?_
      repeat (first | go_big_quiet_skip | (go_big_quiet_want; first | (refine quiet_load (.tmp 5) rfl bp 0 rfl P (by intro w' hw'; exact (P6.out.below hw').at) ?_; simp only [Act.put, List.setIfInBounds_toArray, List.set_cons_zero, List.set_cons_succ]; go_big_quiet_on) | (refine quiet_load (.tmp 7) rfl br 0 rfl R (by intro w' hw'; exact (R6.out.below hw').at) ?_; simp only [Act.put, List.setIfInBounds_toArray, List.set_cons_zero, List.set_cons_succ]; go_big_quiet_on) | (refine quiet_head (.tmp 2) rfl w.heap.size 0 rfl x (by intro w' hw'; exact (V6.out.below hw').at) ?_; simp only [Act.put, List.setIfInBounds_toArray, List.set_cons_zero, List.set_cons_succ]; go_big_quiet_on) | (refine quiet_head (.tmp 3) rfl (w.heap.size + 1) 0 rfl y (by intro w' hw'; exact (Y6.out.below hw').at) ?_; simp only [Act.put, List.setIfInBounds_toArray, List.set_cons_zero, List.set_cons_succ]; go_big_quiet_on) | (go_big_quiet_op; first | go_big_quiet_on | (apply Exists.intro; refine ⟨fun _ _ => ?_, ?_⟩; (with_reducible exact rfl); go_big_quiet_on))))
      refine wpQuiet_nil ?_
      intro w7 hw7
      have B7 := Lib.hid (low_go B6.out hw7)
      clear hw7
      go_wp2_with fail
      go_ret
      exact ⟨rfl, B7.out⟩
end Go.Proofs.Ytjiooadakklmlaa
