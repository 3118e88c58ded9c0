import Derived.Test.YtjiooadakklmlaaJbA2
namespace Go.Proofs.Ytjiooadakklmlaa
open Go.RowKit

/-! JblockCommits. -/
set_option maxRecDepth 100000 in
set_option maxHeartbeats 8000000 in
theorem jCommits (hS : JSays) (s : Nat) (ct : Int) (sm : Nat) (w : World) (hsm : sm < 4294967296) : Calls Try.prog 9 #[.int .u32 (s : Int), .int .i64 ct, .int .u32 (sm : Int)] w fun e w' => e = .returned (.bool true) ∧ Below w.heap.size w w' := by
  have hz := fun W => zero_blk W
  have CA := Lib.hid fun W => jAwake hS W
  have C1 := Lib.hid fun W => hS.writeCommit s ct sm W hsm
  by_cases h1 : 1 ≤ s
  rotate_left
  · rw [writeJC_no fun q : MayC s ct => h1 q.seq.pos] at C1
    have hg1 := blk_guard
    have he1 := fun W => equalIn_blk .zero .zero W
    simp only [decide_true] at he1
    clear hS hsm
    have a1 : decide ((1 : Int) ≤ (s : Int)) = false := by simp; omega
    have b1 : ¬ ((1 : Int) ≤ (s : Int)) := by omega
    have c1 : decide (1 ≤ s) = false := by simp; omega
    have e1 : ¬ (1 ≤ s) := by omega
    have z1 : decide (0 < s) = false := by simp; omega
    clear h1
    go_enter Try.func9, Try.ntmps9
    go_upto_region 4 with (first
      | (go_at_call 35; with_reducible refine (CA.out _).mono ?_; rintro e w2 ⟨rfl, hb⟩; have B2 := Lib.hid hb; clear hb)
      | (go_at_call 17; with_reducible refine (C1.out _).mono ?_; rintro e w3 ⟨rfl, hb⟩)
      | (refine store_newJ rfl (.tmp 7) (.tmp 22) rfl .zero rfl rfl ?_))
    have P4 := Lib.hid (newB_var w3 .zero)
    have B4 := Lib.hid (newB_go (low_go B2.out hb) .zero)
    clear hb B2 C1 CA hz
    generalize newB w3 .zero = w4 at P4 B4 ⊢
    generalize w3.heap.size = bp at P4 ⊢
    go_wp2_with (first
      | (refine load_blk rfl (.tmp 7) rfl bp 0 rfl .zero P4.out.at ?_)
      | (refine build_zeroB rfl rfl ?_))
    go_ret
    exact ⟨rfl, B4.out⟩
  by_cases h2 : s ≤ 2147483648
  rotate_left
  · rw [writeJC_no fun q : MayC s ct => h2 q.seq.le] at C1
    have hg1 := blk_guard
    have he1 := fun W => equalIn_blk .zero .zero W
    simp only [decide_true] at he1
    clear hS hsm
    have a1 : decide ((1 : Int) ≤ (s : Int)) = true := by simp; omega
    have b1 : ((1 : Int) ≤ (s : Int)) := by omega
    have c1 : decide (1 ≤ s) = true := by simp; omega
    have e1 : (1 ≤ s) := by omega
    have z1 : decide (0 < s) = true := by simp; omega
    have a2 : decide ((s : Int) ≤ 2147483648) = false := by simp; omega
    have b2 : ¬ ((s : Int) ≤ 2147483648) := by omega
    have c2 : decide (s ≤ 2147483648) = false := by simp; omega
    have e2 : ¬ (s ≤ 2147483648) := by omega
    clear h1 h2
    go_enter Try.func9, Try.ntmps9
    go_upto_region 4 with (first
      | (go_at_call 35; with_reducible refine (CA.out _).mono ?_; rintro e w2 ⟨rfl, hb⟩; have B2 := Lib.hid hb; clear hb)
      | (go_at_call 17; with_reducible refine (C1.out _).mono ?_; rintro e w3 ⟨rfl, hb⟩)
      | (refine store_newJ rfl (.tmp 7) (.tmp 22) rfl .zero rfl rfl ?_))
    have P4 := Lib.hid (newB_var w3 .zero)
    have B4 := Lib.hid (newB_go (low_go B2.out hb) .zero)
    clear hb B2 C1 CA hz
    generalize newB w3 .zero = w4 at P4 B4 ⊢
    generalize w3.heap.size = bp at P4 ⊢
    go_wp2_with (first
      | (refine load_blk rfl (.tmp 7) rfl bp 0 rfl .zero P4.out.at ?_)
      | (refine build_zeroB rfl rfl ?_))
    go_ret
    exact ⟨rfl, B4.out⟩
  by_cases h3 : 1 ≤ ct
  rotate_left
  · rw [writeJC_no fun q : MayC s ct => h3 q.lo] at C1
    have hg1 := blk_guard
    have he1 := fun W => equalIn_blk .zero .zero W
    simp only [decide_true] at he1
    clear hS hsm
    have a1 : decide ((1 : Int) ≤ (s : Int)) = true := by simp; omega
    have b1 : ((1 : Int) ≤ (s : Int)) := by omega
    have c1 : decide (1 ≤ s) = true := by simp; omega
    have e1 : (1 ≤ s) := by omega
    have z1 : decide (0 < s) = true := by simp; omega
    have a2 : decide ((s : Int) ≤ 2147483648) = true := by simp; omega
    have b2 : ((s : Int) ≤ 2147483648) := by omega
    have c2 : decide (s ≤ 2147483648) = true := by simp; omega
    have e2 : (s ≤ 2147483648) := by omega
    have a3 : decide ((1 : Int) ≤ ct) = false := by simp; omega
    have b3 : ¬ ((1 : Int) ≤ ct) := by omega
    clear h1 h2 h3
    go_enter Try.func9, Try.ntmps9
    go_upto_region 4 with (first
      | (go_at_call 35; with_reducible refine (CA.out _).mono ?_; rintro e w2 ⟨rfl, hb⟩; have B2 := Lib.hid hb; clear hb)
      | (go_at_call 17; with_reducible refine (C1.out _).mono ?_; rintro e w3 ⟨rfl, hb⟩)
      | (refine store_newJ rfl (.tmp 7) (.tmp 22) rfl .zero rfl rfl ?_))
    have P4 := Lib.hid (newB_var w3 .zero)
    have B4 := Lib.hid (newB_go (low_go B2.out hb) .zero)
    clear hb B2 C1 CA hz
    generalize newB w3 .zero = w4 at P4 B4 ⊢
    generalize w3.heap.size = bp at P4 ⊢
    go_wp2_with (first
      | (refine load_blk rfl (.tmp 7) rfl bp 0 rfl .zero P4.out.at ?_)
      | (refine build_zeroB rfl rfl ?_))
    go_ret
    exact ⟨rfl, B4.out⟩
  by_cases h4 : ct ≤ 256
  rotate_left
  · rw [writeJC_no fun q : MayC s ct => h4 q.hi] at C1
    have hg1 := blk_guard
    have he1 := fun W => equalIn_blk .zero .zero W
    simp only [decide_true] at he1
    clear hS hsm
    have a1 : decide ((1 : Int) ≤ (s : Int)) = true := by simp; omega
    have b1 : ((1 : Int) ≤ (s : Int)) := by omega
    have c1 : decide (1 ≤ s) = true := by simp; omega
    have e1 : (1 ≤ s) := by omega
    have z1 : decide (0 < s) = true := by simp; omega
    have a2 : decide ((s : Int) ≤ 2147483648) = true := by simp; omega
    have b2 : ((s : Int) ≤ 2147483648) := by omega
    have c2 : decide (s ≤ 2147483648) = true := by simp; omega
    have e2 : (s ≤ 2147483648) := by omega
    have a3 : decide ((1 : Int) ≤ ct) = true := by simp; omega
    have b3 : ((1 : Int) ≤ ct) := by omega
    have a4 : decide (ct ≤ 256) = false := by simp; omega
    have b4 : ¬ (ct ≤ 256) := by omega
    clear h1 h2 h3 h4
    go_enter Try.func9, Try.ntmps9
    go_upto_region 4 with (first
      | (go_at_call 35; with_reducible refine (CA.out _).mono ?_; rintro e w2 ⟨rfl, hb⟩; have B2 := Lib.hid hb; clear hb)
      | (go_at_call 17; with_reducible refine (C1.out _).mono ?_; rintro e w3 ⟨rfl, hb⟩)
      | (refine store_newJ rfl (.tmp 7) (.tmp 22) rfl .zero rfl rfl ?_))
    have P4 := Lib.hid (newB_var w3 .zero)
    have B4 := Lib.hid (newB_go (low_go B2.out hb) .zero)
    clear hb B2 C1 CA hz
    generalize newB w3 .zero = w4 at P4 B4 ⊢
    generalize w3.heap.size = bp at P4 ⊢
    go_wp2_with (first
      | (refine load_blk rfl (.tmp 7) rfl bp 0 rfl .zero P4.out.at ?_)
      | (refine build_zeroB rfl rfl ?_))
    go_ret
    exact ⟨rfl, B4.out⟩
  have hx : MayC s ct := ⟨⟨h1, h2⟩, h3, h4⟩
  obtain ⟨hi, n2, n3, n4⟩ := commit_is hx hsm
  rw [writeJC_yes hx] at C1
  have C2 := Lib.hid fun W => hS.readCommit (listB (commitL s ct sm)) W
  have C3 := Lib.hid fun W => hS.kind (listB (commitL s ct sm)) W
  rw [readJC_yes hi] at C2
  rw [kind_of hi.begins (by decide) (by decide)] at C3
  unfold tup4 at C2
  simp only [n2, n3, n4] at C2 C3
  obtain ⟨P, hP⟩ : ∃ P, listB (commitL s ct sm) = P := ⟨_, rfl⟩
  rw [hP] at C1 C2 C3
  have a1 : decide ((1 : Int) ≤ (s : Int)) = true := by simp; omega
  have b1 : ((1 : Int) ≤ (s : Int)) := by omega
  have c1 : decide (1 ≤ s) = true := by simp; omega
  have e1 : (1 ≤ s) := by omega
  have z1 : decide (0 < s) = true := by simp; omega
  have a2 : decide ((s : Int) ≤ 2147483648) = true := by simp; omega
  have b2 : ((s : Int) ≤ 2147483648) := by omega
  have c2 : decide (s ≤ 2147483648) = true := by simp; omega
  have e2 : (s ≤ 2147483648) := by omega
  have a3 : decide ((1 : Int) ≤ ct) = true := by simp; omega
  have b3 : ((1 : Int) ≤ ct) := by omega
  have a4 : decide (ct ≤ 256) = true := by simp; omega
  have b4 : (ct ≤ 256) := by omega
  clear hS hsm hx hi n2 n3 n4 hP h1 h2 h3 h4
  go_enter Try.func9, Try.ntmps9
  go_upto_region 4 with (first
    | (go_at_call 35; with_reducible refine (CA.out _).mono ?_; rintro e w2 ⟨rfl, hb⟩; have B2 := Lib.hid hb; clear hb)
    | (go_at_call 17; with_reducible refine (C1.out _).mono ?_; rintro e w3 ⟨rfl, hb⟩)
    | (refine store_newJ rfl (.tmp 7) (.tmp 22) rfl P rfl rfl ?_))
  have P4 := Lib.hid (newB_var w3 P)
  have B4 := Lib.hid (newB_go (low_go B2.out hb) P)
  clear hb B2 C1 CA hz
  generalize newB w3 P = w4 at P4 B4 ⊢
  generalize w3.heap.size = bp at P4 ⊢
  go_wp2_with (first
    | (refine load_blk rfl (.tmp 7) rfl bp 0 rfl P P4.out.at ?_)
    | (go_at_call 23; with_reducible refine (C2.out _).mono ?_; rintro e w5 ⟨rfl, hb⟩; have P5 := Lib.hid (P4.out.below hb); have B5 := Lib.hid (low_go B4.out hb); clear hb)
    | (refine load_blk rfl (.tmp 7) rfl bp 0 rfl P P5.out.at ?_)
    | (go_at_call 25; with_reducible refine (C3.out _).mono ?_; rintro e w6 ⟨rfl, hb⟩; have B6 := Lib.hid (low_go B5.out hb); clear hb))
  go_ret
  exact ⟨rfl, B6.out⟩
end Go.Proofs.Ytjiooadakklmlaa
