import Derived.Test.YtjiooadakklmlaaJbO
namespace Go.Proofs.Ytjiooadakklmlaa
open Go.RowKit

/-! one, again. -/
set_option maxRecDepth 100000 in
set_option maxHeartbeats 8000000 in
theorem jOne3 (hS : JSays) (X : Blk) (w : World) (h : IsJR X) : Calls Try.prog 36 #[.agg (arr X), .bool true, .int .u8 3] w fun e w' => e = .returned (.bool true) ∧ Below w.heap.size w w' := by
  have hz := fun W => zero_head W
  have V := Lib.hid (show BVar (w.alloc (.cells (arr X) 28)) w.heap.size X from heap_alloc_new w _)
  have B := Lib.hid (below_new w (.cells (arr X) 28))
  have n1 : ¬ IsJT X := fun q => absurd (q.begins.kind.symm.trans h.begins.kind) (by decide)
  have n2 : ¬ IsJC X := fun q => absurd (q.begins.kind.symm.trans h.begins.kind) (by decide)
  have n4 : ¬ IsJH X := fun q => absurd (q.begins.kind.symm.trans h.begins.kind) (by decide)
  have CK := Lib.hid fun W => hS.kind X W
  rw [kind_of h.begins (by decide) (by decide)] at CK
  have CH : Hid (∀ W, ∃ x, Calls Try.prog 21 #[.agg (arr X)] W fun e w' => e = .returned (.tuple #[.agg (hcs x), .int .i64 90]) ∧ Below W.heap.size W w') := Lib.hid fun W => by
    have := hS.readHead X W
    rw [readJH_no n4] at this
    exact ⟨_, this⟩
  have CT : Hid (∀ W, Calls Try.prog 29 #[.agg (arr X)] W fun e w' => (∃ v1 v2, e = .returned (.tuple #[v1, v2, .int .i64 90])) ∧ Below W.heap.size W w') := Lib.hid fun W => (hS.readDesc X W).mono fun e w' h' => ⟨by
    rcases h'.1 with ⟨q, v, rfl, _⟩ | ⟨q, rfl⟩
    · exact absurd q n1
    · exact ⟨_, _, rfl⟩, h'.2⟩
  have CR : Hid (∀ W, Calls Try.prog 30 #[.agg (arr X)] W fun e w' => (∃ v1 v2, e = .returned (.tuple #[v1, v2, .int .i64 0])) ∧ Below W.heap.size W w') := Lib.hid fun W => (hS.readRevoke X W).mono fun e w' h' => ⟨by
    rcases h'.1 with ⟨q, v, rfl, _⟩ | ⟨q, rfl⟩
    · exact ⟨_, _, rfl⟩
    · exact absurd h q, h'.2⟩
  have CC : Hid (∀ W, Calls Try.prog 23 #[.agg (arr X)] W fun e w' => (∃ v1 v2 v3, e = .returned (.tuple #[v1, v2, v3, .int .i64 90])) ∧ Below W.heap.size W w') := Lib.hid fun W => by
    have := hS.readCommit X W
    rw [readJC_no n2] at this
    exact this.mono fun e w' h' => ⟨⟨_, _, _, h'.1⟩, h'.2⟩
  clear hS n1 n2 n4 h
  go_enter Try.func36, Try.ntmps36
  go_upto_region 1 with fail
  generalize w.alloc (.cells (arr X) 28) = w1 at V B ⊢
  obtain ⟨x, CH⟩ := CH.out w1
  have CH := Lib.hid CH
  go_upto_region 2 with (first
    | (refine load_blk rfl (.tmp 3) rfl w.heap.size 0 rfl X V.out.at ?_)
    | (go_at_call 21; with_reducible refine (CH.out).mono ?_; rintro e w2 ⟨rfl, hb⟩)
    | (refine store_newH rfl (.tmp 7) (.tmp 26) rfl x rfl rfl ?_))
  have V3 := Lib.hid ((V.out.below hb).below (newH_low w2 x))
  have B3 := Lib.hid (newH_go (low_go B.out hb) x)
  clear hb V B CH hz
  generalize newH w2 x = w3 at V3 B3 ⊢
  go_upto_region 7 with (first
    | (refine load_blk rfl (.tmp 3) rfl w.heap.size 0 rfl X V3.out.at ?_)
    | (go_at_call 29; with_reducible refine (CT.out _).mono ?_; rintro e w4 ⟨⟨v1, v2, rfl⟩, hb⟩; have V4 := Lib.hid (V3.out.below hb); have B4 := Lib.hid (low_go B3.out hb); clear hb)
    | (refine load_blk rfl (.tmp 3) rfl w.heap.size 0 rfl X V4.out.at ?_)
    | (go_at_call 30; with_reducible refine (CR.out _).mono ?_; rintro e w5 ⟨⟨v3, v4, rfl⟩, hb⟩; have V5 := Lib.hid (V4.out.below hb); have B5 := Lib.hid (low_go B4.out hb); clear hb)
    | (refine load_blk rfl (.tmp 3) rfl w.heap.size 0 rfl X V5.out.at ?_)
    | (go_at_call 23; with_reducible refine (CC.out _).mono ?_; rintro e w6 ⟨⟨v5, v6, v7, rfl⟩, hb⟩; have V6 := Lib.hid (V5.out.below hb); have B6 := Lib.hid (low_go B5.out hb); clear hb)
    | (refine build_bools5 rfl (.const (.bool false)) (.tmp 48) (.tmp 50) (.tmp 52) (.tmp 54) rfl false false false true false rfl rfl rfl rfl rfl ?_; have V7 := Lib.hid (V6.out.below (below_new _ (.cells #[.bool false, .bool false, .bool false, .bool true, .bool false] 4))); have B7 := Lib.hid (low_go B6.out (below_new _ (.cells #[.bool false, .bool false, .bool false, .bool true, .bool false] 4))); have L7 := Lib.hid (heap_alloc_new w6 (.cells #[.bool false, .bool false, .bool false, .bool true, .bool false] 4)); generalize w6.alloc (.cells #[.bool false, .bool false, .bool false, .bool true, .bool false] 4) = w7 at V7 B7 L7 ⊢; generalize w6.heap.size = bl at L7 ⊢)
    | (refine load_blk rfl (.tmp 3) rfl w.heap.size 0 rfl X V7.out.at ?_)
    | (go_at_call 25; with_reducible refine (CK.out _).mono ?_; rintro e w8 ⟨rfl, hb⟩))
  have B8 := Lib.hid (low_go B7.out hb)
  have L8 := (hb.block bl (size_of L7.out)).trans L7.out
  have l1 := cell_of_row _ bl 1 _ _ _ L8
  have l2 := cell_of_row _ bl 2 _ _ _ L8
  have l3 := cell_of_row _ bl 3 _ _ _ L8
  have l4 := cell_of_row _ bl 4 _ _ _ L8
  replace l1 : w8.cell? ⟨bl, 1, none⟩ = some (.bool false) := l1
  replace l2 : w8.cell? ⟨bl, 2, none⟩ = some (.bool false) := l2
  replace l3 : w8.cell? ⟨bl, 3, none⟩ = some (.bool true) := l3
  replace l4 : w8.cell? ⟨bl, 4, none⟩ = some (.bool false) := l4
  clear hb L8 L7 B7 V7 B6 V6 B5 V5 B4 V4 B3 V3 CT CR CC CK
  go_wp2_with fail
  go_loop [22] (fun iv => iv = .int .i64 1 ∨ iv = .int .i64 2 ∨ iv = .int .i64 3 ∨ iv = .int .i64 4 ∨ iv = .int .i64 5) (fun iv => 5 - (intOf iv).toNat)
  case atStart => exact .inl rfl
  case round =>
    rcases hrel with rfl | rfl | rfl | rfl | rfl
    · go_wp2
      go_round
      case rel => exact .inr (.inl rfl)
      case measure => simp [intOf]
    · go_wp2
      go_round
      case rel => exact .inr (.inr (.inl rfl))
      case measure => simp [intOf]
    · go_wp2
      go_round
      case rel => exact .inr (.inr (.inr (.inl rfl)))
      case measure => simp [intOf]
    · go_wp2
      go_round
      case rel => exact .inr (.inr (.inr (.inr rfl)))
      case measure => simp [intOf]
    · go_wp2
      go_ret
      exact ⟨rfl, B8.out⟩
set_option maxRecDepth 100000 in
set_option maxHeartbeats 8000000 in
theorem jOneNo (hS : JSays) (X : Blk) (kd : Nat) (w : World) (n1 : ¬ IsJT X) (n2 : ¬ IsJC X) (n3 : ¬ IsJR X) (n4 : ¬ IsJH X) : Calls Try.prog 36 #[.agg (arr X), .bool false, .int .u8 (kd : Int)] w fun e w' => e = .returned (.bool true) ∧ Below w.heap.size w w' := by
  have hz := fun W => zero_head W
  have V := Lib.hid (show BVar (w.alloc (.cells (arr X) 28)) w.heap.size X from heap_alloc_new w _)
  have B := Lib.hid (below_new w (.cells (arr X) 28))
  have CK := Lib.hid fun W => hS.kind X W
  obtain ⟨k1, hk1⟩ : ∃ k1, (kindOf X).1 = k1 := ⟨_, rfl⟩
  obtain ⟨k2, hk2⟩ : ∃ k2, (kindOf X).2 = k2 := ⟨_, rfl⟩
  rw [hk1, hk2] at CK
  clear hk1 hk2
  have CH : Hid (∀ W, ∃ x, Calls Try.prog 21 #[.agg (arr X)] W fun e w' => e = .returned (.tuple #[.agg (hcs x), .int .i64 90]) ∧ Below W.heap.size W w') := Lib.hid fun W => by
    have := hS.readHead X W
    rw [readJH_no n4] at this
    exact ⟨_, this⟩
  have CT : Hid (∀ W, Calls Try.prog 29 #[.agg (arr X)] W fun e w' => (∃ v1 v2, e = .returned (.tuple #[v1, v2, .int .i64 90])) ∧ Below W.heap.size W w') := Lib.hid fun W => (hS.readDesc X W).mono fun e w' h' => ⟨by
    rcases h'.1 with ⟨q, v, rfl, _⟩ | ⟨q, rfl⟩
    · exact absurd q n1
    · exact ⟨_, _, rfl⟩, h'.2⟩
  have CR : Hid (∀ W, Calls Try.prog 30 #[.agg (arr X)] W fun e w' => (∃ v1 v2, e = .returned (.tuple #[v1, v2, .int .i64 90])) ∧ Below W.heap.size W w') := Lib.hid fun W => (hS.readRevoke X W).mono fun e w' h' => ⟨by
    rcases h'.1 with ⟨q, v, rfl, _⟩ | ⟨q, rfl⟩
    · exact absurd q n3
    · exact ⟨_, _, rfl⟩, h'.2⟩
  have CC : Hid (∀ W, Calls Try.prog 23 #[.agg (arr X)] W fun e w' => (∃ v1 v2 v3, e = .returned (.tuple #[v1, v2, v3, .int .i64 90])) ∧ Below W.heap.size W w') := Lib.hid fun W => by
    have := hS.readCommit X W
    rw [readJC_no n2] at this
    exact this.mono fun e w' h' => ⟨⟨_, _, _, h'.1⟩, h'.2⟩
  clear hS n1 n2 n3 n4
  go_enter Try.func36, Try.ntmps36
  go_upto_region 1 with fail
  generalize w.alloc (.cells (arr X) 28) = w1 at V B ⊢
  obtain ⟨x, CH⟩ := CH.out w1
  have CH := Lib.hid CH
  go_upto_region 2 with (first
    | (refine load_blk rfl (.tmp 3) rfl w.heap.size 0 rfl X V.out.at ?_)
    | (go_at_call 21; with_reducible refine (CH.out).mono ?_; rintro e w2 ⟨rfl, hb⟩)
    | (refine store_newH rfl (.tmp 7) (.tmp 26) rfl x rfl rfl ?_))
  have V3 := Lib.hid ((V.out.below hb).below (newH_low w2 x))
  have B3 := Lib.hid (newH_go (low_go B.out hb) x)
  clear hb V B CH hz
  generalize newH w2 x = w3 at V3 B3 ⊢
  go_upto_region 7 with (first
    | (refine load_blk rfl (.tmp 3) rfl w.heap.size 0 rfl X V3.out.at ?_)
    | (go_at_call 29; with_reducible refine (CT.out _).mono ?_; rintro e w4 ⟨⟨v1, v2, rfl⟩, hb⟩; have V4 := Lib.hid (V3.out.below hb); have B4 := Lib.hid (low_go B3.out hb); clear hb)
    | (refine load_blk rfl (.tmp 3) rfl w.heap.size 0 rfl X V4.out.at ?_)
    | (go_at_call 30; with_reducible refine (CR.out _).mono ?_; rintro e w5 ⟨⟨v3, v4, rfl⟩, hb⟩; have V5 := Lib.hid (V4.out.below hb); have B5 := Lib.hid (low_go B4.out hb); clear hb)
    | (refine load_blk rfl (.tmp 3) rfl w.heap.size 0 rfl X V5.out.at ?_)
    | (go_at_call 23; with_reducible refine (CC.out _).mono ?_; rintro e w6 ⟨⟨v5, v6, v7, rfl⟩, hb⟩; have V6 := Lib.hid (V5.out.below hb); have B6 := Lib.hid (low_go B5.out hb); clear hb)
    | (refine build_bools5 rfl (.const (.bool false)) (.tmp 48) (.tmp 50) (.tmp 52) (.tmp 54) rfl false false false false false rfl rfl rfl rfl rfl ?_; have V7 := Lib.hid (V6.out.below (below_new _ (.cells #[.bool false, .bool false, .bool false, .bool false, .bool false] 4))); have B7 := Lib.hid (low_go B6.out (below_new _ (.cells #[.bool false, .bool false, .bool false, .bool false, .bool false] 4))); have L7 := Lib.hid (heap_alloc_new w6 (.cells #[.bool false, .bool false, .bool false, .bool false, .bool false] 4)); generalize w6.alloc (.cells #[.bool false, .bool false, .bool false, .bool false, .bool false] 4) = w7 at V7 B7 L7 ⊢; generalize w6.heap.size = bl at L7 ⊢)
    | (refine load_blk rfl (.tmp 3) rfl w.heap.size 0 rfl X V7.out.at ?_)
    | (go_at_call 25; with_reducible refine (CK.out _).mono ?_; rintro e w8 ⟨rfl, hb⟩))
  have B8 := Lib.hid (low_go B7.out hb)
  have L8 := (hb.block bl (size_of L7.out)).trans L7.out
  have l1 := cell_of_row _ bl 1 _ _ _ L8
  have l2 := cell_of_row _ bl 2 _ _ _ L8
  have l3 := cell_of_row _ bl 3 _ _ _ L8
  have l4 := cell_of_row _ bl 4 _ _ _ L8
  replace l1 : w8.cell? ⟨bl, 1, none⟩ = some (.bool false) := l1
  replace l2 : w8.cell? ⟨bl, 2, none⟩ = some (.bool false) := l2
  replace l3 : w8.cell? ⟨bl, 3, none⟩ = some (.bool false) := l3
  replace l4 : w8.cell? ⟨bl, 4, none⟩ = some (.bool false) := l4
  clear hb L8 L7 B7 V7 B6 V6 B5 V5 B4 V4 B3 V3 CT CR CC CK
  go_wp2_with fail
  go_loop [22] (fun iv => iv = .int .i64 1 ∨ iv = .int .i64 2 ∨ iv = .int .i64 3 ∨ iv = .int .i64 4 ∨ iv = .int .i64 5) (fun iv => 5 - (intOf iv).toNat)
  case atStart => exact .inl rfl
  case round =>
    rcases hrel with rfl | rfl | rfl | rfl | rfl
    · go_wp2
      go_round
      case rel => exact .inr (.inl rfl)
      case measure => simp [intOf]
    · go_wp2
      go_round
      case rel => exact .inr (.inr (.inl rfl))
      case measure => simp [intOf]
    · go_wp2
      go_round
      case rel => exact .inr (.inr (.inr (.inl rfl)))
      case measure => simp [intOf]
    · go_wp2
      go_round
      case rel => exact .inr (.inr (.inr (.inr rfl)))
      case measure => simp [intOf]
    · go_wp2
      go_ret
      exact ⟨rfl, B8.out⟩
end Go.Proofs.Ytjiooadakklmlaa
