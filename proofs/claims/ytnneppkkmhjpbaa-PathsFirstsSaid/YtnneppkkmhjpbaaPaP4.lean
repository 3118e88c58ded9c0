import Derived.Test.YtnneppkkmhjpbaaPaP3
namespace Go.Proofs.Ytnneppkkmhjpbaa
open Go.RowKit Go.Shelf Go.BigFrame

/-! Index. -/
set_option maxRecDepth 100000 in
set_option maxHeartbeats 4000000 in
theorem pIndex (p : Int) (A : Option Addr) (c : Nat) (l : List Int) (w : World) (hl : l.length ≤ 1000) (hA : IntsAt w A l) : Calls Try.prog 26 #[.int .i64 p, .slice A l.length c] w fun e w' => e = .returned (.tuple #[.int .i64 (indexN p l).1, .int .i64 (indexN p l).2]) ∧ Below w.heap.size w w' := by
  have H := Lib.hid hA
  clear hA
  by_cases h0 : 0 ≤ p ∧ p < 11
  rotate_left
  · have E := indexN_no (p := p) (l := l) fun q => h0 ⟨q.lo, by have := q.hi; omega⟩
    rw [E]
    have C : Hid (∀ W, Calls Try.prog 31 #[.int .i64 p] W fun e w' => e = .returned (.tuple #[.agg #[.int .i64 0, .int .i64 0, .int .i64 0, .int .i64 0], .bool false]) ∧ Below W.heap.size W w') := Lib.hid fun W => find_no h0 W
    clear h0 E
    go_enter Try.func26, Try.ntmps26
    go_wp2_with (go_at_call 31; with_reducible refine (C.out _).mono ?_; rintro e w2 ⟨rfl, hb⟩)
    go_ret2
    exact ⟨rfl, hb.alloc hb.size _⟩
  have C : Hid (∀ W, Calls Try.prog 31 #[.int .i64 p] W fun e w' => (∃ nm sp, e = .returned (.tuple #[.agg #[.int .i64 nm, .int .i64 (levelN p), .int .i64 (firstN p), .int .i64 sp], .bool true])) ∧ Below W.heap.size W w') := Lib.hid fun W => find_yes h0 W
  by_cases h1 : (l.length : Int) = levelN p
  rotate_left
  · have E := indexN_no (p := p) (l := l) fun q => h1 q.len
    rw [E]
    have d1 : ((l.length : Int) != levelN p) = true := by rw [bne_iff_ne]; exact h1
    have d2 : ((l.length : Int) == levelN p) = false := by rw [beq_eq_false_iff_ne]; exact h1
    clear h0 E h1
    generalize levelN p = lv at d1 d2 C
    generalize firstN p = fs at C
    go_enter Try.func26, Try.ntmps26
    go_wp2_with (go_at_call 31; with_reducible refine (C.out _).mono ?_; rintro e w2 ⟨⟨nm, sp, rfl⟩, hb⟩)
    go_ret2
    exact ⟨rfl, hb.alloc hb.size _⟩
  have h3 : l.length ≤ 3 := by have := (levelN_le p).2; omega
  have IW : Hid (MayW p l → indexN p l = (firstN p + placeN l 0, 0)) := Lib.hid indexN_yes
  have IN : Hid (¬ MayW p l → indexN p l = (0, 100)) := Lib.hid indexN_no
  have MK : Hid (Fit l l.length → firstN p + placeN l 0 < 65536 → MayW p l) := Lib.hid fun a b => ⟨h0.1, by omega, h1, a.all, b⟩
  have hfs : 0 ≤ firstN p ∧ firstN p ≤ 4168 := by
    refine ⟨?_, firstN_le.2⟩
    rw [← ptr_fst h0]
    exact (ptr_fits (k := p.toNat) (by omega)).2.2.2.1
  rw [← h1] at C
  clear h0 h1
  go_enter Try.func26, Try.ntmps26
  go_upto_region 2 with (go_at_call 31; with_reducible refine (C.out _).mono ?_; rintro e w2 ⟨⟨nm, sp, rfl⟩, hb⟩)
  clear C
  have hb3 := hb.alloc hb.size (.cells #[.int .i64 nm, .int .i64 l.length, .int .i64 (firstN p), .int .i64 sp] 42)
  have hn := heap_alloc_new w2 (.cells #[.int .i64 nm, .int .i64 l.length, .int .i64 (firstN p), .int .i64 sp] 42)
  generalize w2.alloc (.cells #[.int .i64 nm, .int .i64 l.length, .int .i64 (firstN p), .int .i64 sp] 42) = w3 at hb3 hn ⊢
  have B3 := Lib.hid hb3
  have c1 : w3.cell? ⟨w2.heap.size, 1, none⟩ = some (.int .i64 l.length) := (cell_of_row w3 _ 1 _ _ _ hn).trans rfl
  have c2 : w3.cell? ⟨w2.heap.size, 2, none⟩ = some (.int .i64 (firstN p)) := (cell_of_row w3 _ 2 _ _ _ hn).trans rfl
  have H3 := Lib.hid (H.out.below hb3)
  clear hb3 hn hb H
  generalize w2.heap.size = g at c1 c2 ⊢
  have CI := Lib.hid fun i W => pIsIndex i W
  go_wp2_with fail
  go_loop [8, 27] (fun av kv => ∃ k : Nat, k ≤ l.length ∧ kv = .int .i64 k ∧ av = .int .i64 (placeN (l.take k) 0) ∧ Hid (Fit l k)) (fun _ kv => l.length - (intOf kv).toNat)
  case atStart => exact ⟨0, Nat.zero_le _, rfl, rfl, Lib.hid fun j x hj => by omega⟩
  case round =>
    obtain ⟨k, hk, rfl, rfl, FT⟩ := hrel
    obtain ⟨pl1, pl2, pl3⟩ := place_lt FT.out hk (by omega)
    by_cases hlt : k < l.length
    rotate_left
    · obtain rfl : k = l.length := by omega
      have t1 : decide ((l.length : Int) < l.length) = false := decide_eq_false (by omega)
      rw [List.take_length] at pl1 pl2 pl3
      simp only [List.take_length]
      by_cases hb : firstN p + placeN l 0 < 65536
      · have E := Lib.hid (IW.out (MK.out FT.out hb))
        have CI2 : Hid (∀ W, Calls Try.prog 29 #[.int .i64 (firstN p + placeN l 0)] W fun e w' => e = .returned (.bool true) ∧ w' = W) := Lib.hid fun W => by
          have := CI.out (firstN p + placeN l 0) W
          rwa [decide_eq_true (⟨by omega, hb⟩ : MayI (firstN p + placeN l 0))] at this
        clear hb CI IW IN MK FT
        generalize placeN l 0 = r at pl1 pl2 CI2 E ⊢
        generalize firstN p = fs at hfs CI2 E c2 ⊢
        clear pl3
        go_wp2_with (go_at_call 29; with_reducible refine (CI2.out _).mono ?_; rintro e w5 ⟨rfl, rfl⟩)
        go_ret2
        exact ⟨by rw [E.out]; rfl, B3.out⟩
      · have E := Lib.hid (IN.out fun q => hb q.all)
        have CI2 : Hid (∀ W, Calls Try.prog 29 #[.int .i64 (firstN p + placeN l 0)] W fun e w' => e = .returned (.bool false) ∧ w' = W) := Lib.hid fun W => by
          have := CI.out (firstN p + placeN l 0) W
          rwa [decide_eq_false fun q : MayI (firstN p + placeN l 0) => hb q.hi] at this
        clear hb CI IW IN MK FT
        generalize placeN l 0 = r at pl1 pl2 CI2 ⊢
        generalize firstN p = fs at hfs CI2 c2 ⊢
        clear pl3
        go_wp2_with (go_at_call 29; with_reducible refine (CI2.out _).mono ?_; rintro e w5 ⟨rfl, rfl⟩)
        go_ret2
        exact ⟨by rw [E.out]; rfl, B3.out⟩
    obtain ⟨b, o, rfl, hb, hc⟩ := H3.out (by omega)
    obtain ⟨x, hx⟩ : ∃ x, l[k]? = some x := ⟨l[k], List.getElem?_eq_getElem hlt⟩
    have dx := hc k x hx
    have t1 : decide ((k : Int) < l.length) = true := decide_eq_true (by omega)
    have k0 : (0 : Int) ≤ (k : Int) := by omega
    have kl : (k : Int) < (l.length : Int) := by omega
    by_cases x0 : 0 ≤ x
    rotate_left
    · have E := Lib.hid (IN.out fun q => x0 (q.num x (List.mem_of_getElem? hx)).1)
      have g0 : decide (x < 0) = true := by simp; omega
      have g1 : x < 0 := by omega
      clear hc hx pl1 pl2 pl3 x0
      go_wp2_with fail
      go_ret2
      exact ⟨by rw [E.out]; rfl, B3.out⟩
    have g0 : decide (x < 0) = false := by simp; omega
    have g1 : ¬ x < 0 := by omega
    by_cases x3 : x ≤ 63
    rotate_left
    · have E := Lib.hid (IN.out fun q => x3 (q.num x (List.mem_of_getElem? hx)).2)
      have g2 : decide (64 ≤ x) = true := by simp; omega
      have g3 : 64 ≤ x := by omega
      clear hc hx pl1 pl2 pl3 x0 x3
      go_wp2_with fail
      go_ret2
      exact ⟨by rw [E.out]; rfl, B3.out⟩
    have g2 : decide (64 ≤ x) = false := by simp; omega
    have g3 : ¬ 64 ≤ x := by omega
    have P2 := Lib.hid (place_take hx)
    have F2 := Lib.hid (FT.out.next hx x0 x3)
    have pl4 := pl3 (by omega)
    clear hc hx pl3 FT IW IN MK CI
    generalize placeN (l.take k) 0 = r at pl1 pl2 pl4 P2 ⊢
    have w1 : wrap64 (r * 64) = r * 64 := by unfold wrap64; omega
    have w2' : wrap64 (r * 64 + x) = r * 64 + x := by unfold wrap64; omega
    go_wp2_with fail
    refine ⟨⟨k + 1, by omega, by go_num, by first | rw [P2.out, Int.mul_comm] | rw [P2.out, w1, w2', Int.mul_comm], F2⟩, ?_⟩
    simp [intOf]; omega
end Go.Proofs.Ytnneppkkmhjpbaa
