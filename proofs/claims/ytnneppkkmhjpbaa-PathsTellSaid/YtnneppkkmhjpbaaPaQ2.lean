import Derived.Test.YtnneppkkmhjpbaaPaQ1
namespace Go.Proofs.Ytnneppkkmhjpbaa
open Go.RowKit

/-! The document's own: where a way leads; are numbers the same. -/
theorem place_app : ∀ (l : List Int) (k x : Int), placeN (l ++ [x]) k = 64 * placeN l k + x
  | [], _, _ => rfl
  | y :: l, k, x => place_app l (64 * k + y) x
theorem place_take {l : List Int} {i : Nat} {x : Int} (h : l[i]? = some x) : placeN (l.take (i + 1)) 0 = 64 * placeN (l.take i) 0 + x := by
  rw [List.take_add_one, h]
  exact place_app _ _ _
def Fit (l : List Int) (i : Nat) : Prop := ∀ (j : Nat) x, j < i → l[j]? = some x → 0 ≤ x ∧ x ≤ 63
theorem Fit.next {l : List Int} {i : Nat} {x : Int} (h : Fit l i) (hx : l[i]? = some x) (h0 : 0 ≤ x) (h1 : x ≤ 63) : Fit l (i + 1) := fun j y hj hy => by
  by_cases e : j = i
  · subst e; rw [hx] at hy; cases hy; exact ⟨h0, h1⟩
  · exact h j y (by omega) hy
theorem Fit.all {l : List Int} (h : Fit l l.length) : ∀ x ∈ l, 0 ≤ x ∧ x ≤ 63 := fun x hx => by
  obtain ⟨j, hj⟩ := List.getElem?_of_mem hx
  exact h j x ((List.getElem?_eq_some_iff.1 hj).1) hj
/-- A way's place, as far as it has been gone. -/
theorem place_lt {l : List Int} {i : Nat} (h : Fit l i) (hi : i ≤ l.length) (h3 : i ≤ 3) : 0 ≤ placeN (l.take i) 0 ∧ placeN (l.take i) 0 < 262144 ∧ (i ≤ 2 → placeN (l.take i) 0 < 4096) := by
  have key : ∀ i, i ≤ l.length → Fit l i → 0 ≤ placeN (l.take i) 0 ∧ placeN (l.take i) 0 < 64 ^ i := by
    intro i
    induction i with
    | zero => intro _ _; exact ⟨Int.le_refl _, by show (0 : Int) < 64 ^ 0; decide⟩
    | succ i ih =>
      intro hi h
      obtain ⟨x, hx⟩ : ∃ x, l[i]? = some x := ⟨l[i]'(by omega), List.getElem?_eq_getElem (by omega)⟩
      obtain ⟨a, b⟩ := ih (by omega) fun j y hj hy => h j y (by omega) hy
      obtain ⟨c, d⟩ := h i x (by omega) hx
      rw [place_take hx, Int.pow_succ]
      omega
  obtain ⟨a, b⟩ := key i hi h
  rcases (by omega : i = 0 ∨ i = 1 ∨ i = 2 ∨ i = 3) with rfl | rfl | rfl | rfl
  · exact ⟨a, by omega, fun _ => by omega⟩
  · exact ⟨a, by omega, fun _ => by omega⟩
  · exact ⟨a, by omega, fun _ => by omega⟩
  · exact ⟨a, by omega, fun q => by omega⟩
theorem level_ptr {p : Int} (h : 0 ≤ levelN p) : 0 ≤ p ∧ p ≤ 10 := by
  unfold levelN at h
  split at h
  · omega
  split at h <;> omega
set_option maxRecDepth 100000 in
set_option maxHeartbeats 4000000 in
theorem rIndex (p : Int) (A : Option Addr) (c : Nat) (l : List Int) (w : World) (hl : l.length ≤ 1000) (hA : IntsAt w A l) : Calls Try.prog 27 #[.int .i64 p, .slice A l.length c] w fun e w' => e = .returned (.tuple #[.int .i64 (indexN p l).1, .int .i64 (indexN p l).2]) ∧ Below w.heap.size w w' := by
  have CL := Lib.hid fun q W => rLevel q W
  have CF := Lib.hid fun q W => rFirst q W
  have H := Lib.hid hA
  clear hA
  by_cases h0 : 0 ≤ levelN p
  rotate_left
  · have E := indexN_no (p := p) (l := l) fun q => h0 (by have := q.len; omega)
    rw [E]
    have d0 : decide (levelN p < 0) = true := by simp; omega
    have e0 : levelN p < 0 := by omega
    clear h0 E
    go_enter Try.func27, Try.ntmps27
    go_wp2_with (go_at_call 17; with_reducible refine (CL.out _ _).mono ?_; rintro e w2 ⟨rfl, rfl⟩)
    go_ret2
    exact ⟨rfl, Below.refl _ _⟩
  have d0 : decide (levelN p < 0) = false := by simp; omega
  have e0 : ¬ levelN p < 0 := by omega
  by_cases h1 : (l.length : Int) = levelN p
  rotate_left
  · have E := indexN_no (p := p) (l := l) fun q => h1 q.len
    rw [E]
    have d1 : ((l.length : Int) != levelN p) = true := by rw [bne_iff_ne]; exact h1
    have d2 : ((l.length : Int) == levelN p) = false := by rw [beq_eq_false_iff_ne]; exact h1
    clear h0 E
    go_enter Try.func27, Try.ntmps27
    go_wp2_with (go_at_call 17; with_reducible refine (CL.out _ _).mono ?_; rintro e w2 ⟨rfl, rfl⟩)
    go_ret2
    exact ⟨rfl, Below.refl _ _⟩
  have h3 : l.length ≤ 3 := by have := (levelN_le p).2; omega
  have MP := level_ptr h0
  have C1 := Lib.hid (CL.out p)
  rw [← h1] at C1 d0 e0
  have IW : Hid (MayW p l → indexN p l = (firstN p + placeN l 0, 0)) := Lib.hid indexN_yes
  have IN : Hid (¬ MayW p l → indexN p l = (0, 100)) := Lib.hid indexN_no
  have MK : Hid (Fit l l.length → firstN p + placeN l 0 < 65536 → MayW p l) := Lib.hid fun a b => ⟨MP.1, MP.2, h1, a.all, b⟩
  clear h0 h1
  go_enter Try.func27, Try.ntmps27
  go_upto_region 4 with (go_at_call 17; with_reducible refine (C1.out _).mono ?_; rintro e w2 ⟨rfl, rfl⟩)
  clear C1
  go_wp2_with fail
  go_loopw [7, 8] (fun av kv wr => ∃ k : Nat, k ≤ l.length ∧ kv = .int .i64 k ∧ av = .int .i64 (placeN (l.take k) 0) ∧ Hid (Fit l k) ∧ Hid (Below w2.heap.size w2 wr)) (fun _ kv _ => l.length - (intOf kv).toNat)
  case atStart => exact ⟨0, Nat.zero_le _, rfl, rfl, Lib.hid fun j x hj => by omega, Lib.hid (Below.refl _ _)⟩
  case round =>
    obtain ⟨k, hk, rfl, rfl, FT, B2⟩ := hrel
    obtain ⟨pl1, pl2, pl3⟩ := place_lt FT.out hk (by omega)
    by_cases hlt : k < l.length
    rotate_left
    · obtain rfl : k = l.length := by omega
      have kl : ¬ (l.length : Int) < (l.length : Int) := by omega
      rw [List.take_length] at pl1 pl2 pl3
      simp only [List.take_length]
      have wf : IntKind.i64.wrap (firstN p + placeN l 0) = firstN p + placeN l 0 := by rw [IntKind.wrap_i64]; have := @firstN_le p; omega
      by_cases hb : firstN p + placeN l 0 < 65536
      · have E := Lib.hid (IW.out (MK.out FT.out hb))
        have g1 : decide (65536 ≤ firstN p + placeN l 0) = false := by simp; omega
        have g2 : ¬ 65536 ≤ firstN p + placeN l 0 := by omega
        clear pl1 pl2 pl3 hb MP
        go_wp2_with (first
          | (go_at_call 21; with_reducible refine (CF.out _ wr).mono ?_; rintro e w5 ⟨rfl, hb⟩; have B5 := Lib.hid (low_go B2.out hb); clear hb)
          | (go_at_call 21; with_reducible refine (CF.out _ w5).mono ?_; rintro e w6 ⟨rfl, hb⟩; have B6 := Lib.hid (low_go B5.out hb); clear hb))
        go_ret2
        exact ⟨by rw [E.out]; rfl, B6.out⟩
      · have E := Lib.hid (IN.out fun q => hb q.all)
        have g1 : decide (65536 ≤ firstN p + placeN l 0) = true := by simp; omega
        have g2 : 65536 ≤ firstN p + placeN l 0 := by omega
        clear pl1 pl2 pl3 hb MP
        go_wp2_with (go_at_call 21; with_reducible refine (CF.out _ wr).mono ?_; rintro e w5 ⟨rfl, hb⟩; have B5 := Lib.hid (low_go B2.out hb); clear hb)
        go_ret2
        exact ⟨by rw [E.out]; rfl, B5.out⟩
    obtain ⟨b, o, rfl, hb, hc⟩ := (H.out.below B2.out) (by omega)
    obtain ⟨x, hx⟩ : ∃ x, l[k]? = some x := ⟨l[k], List.getElem?_eq_getElem hlt⟩
    have dx := hc k x hx
    have k0 : (0 : Int) ≤ (k : Int) := by omega
    have kl : (k : Int) < (l.length : Int) := by omega
    by_cases x0 : 0 ≤ x
    rotate_left
    · have E := Lib.hid (IN.out fun q => x0 (q.num x (List.mem_of_getElem? hx)).1)
      have g0 : decide (x < 0) = true := by simp; omega
      have g1 : x < 0 := by omega
      clear hc hx pl1 pl2 pl3 x0 MP
      go_wp2_with fail
      go_ret2
      exact ⟨by rw [E.out]; rfl, B2.out⟩
    have g0 : decide (x < 0) = false := by simp; omega
    have g1 : ¬ x < 0 := by omega
    by_cases x3 : x ≤ 63
    rotate_left
    · have E := Lib.hid (IN.out fun q => x3 (q.num x (List.mem_of_getElem? hx)).2)
      have g2 : decide (63 < x) = true := by simp; omega
      have g3 : 63 < x := by omega
      clear hc hx pl1 pl2 pl3 x0 x3 MP
      go_wp2_with fail
      go_ret2
      exact ⟨by rw [E.out]; rfl, B2.out⟩
    have g2 : decide (63 < x) = false := by simp; omega
    have g3 : ¬ 63 < x := by omega
    have P2 := Lib.hid (place_take hx)
    have F2 := Lib.hid (FT.out.next hx x0 x3)
    have pl4 := pl3 (by omega)
    have wm : IntKind.i64.wrap (64 * placeN (l.take k) 0) = 64 * placeN (l.take k) 0 := by rw [IntKind.wrap_i64]; omega
    have wa : IntKind.i64.wrap (64 * placeN (l.take k) 0 + x) = 64 * placeN (l.take k) 0 + x := by rw [IntKind.wrap_i64]; omega
    have wk : IntKind.i64.wrap ((k : Int) + 1) = (k : Int) + 1 := by rw [IntKind.wrap_i64]; omega
    clear hc hx pl1 pl2 pl3 pl4 x0 x3 MP FT
    go_wp2_with fail
    go_roundw
    case rel => exact ⟨k + 1, by omega, by congr 1, by rw [P2.out], F2, B2⟩
    case measure => simp [intOf]; omega
set_option maxRecDepth 100000 in
set_option maxHeartbeats 4000000 in
theorem rSame (A B : Option Addr) (c c' : Nat) (l m : List Int) (w : World) (hl : l.length ≤ 1000) (hA : IntsAt w A l) (hB : IntsAt w B m) : Calls Try.prog 15 #[.slice A l.length c, .slice B m.length c'] w fun e w' => e = .returned (.bool (decide (l = m))) ∧ Below w.heap.size w w' := by
  have RA := Lib.hid hA
  have RB := Lib.hid hB
  clear hA hB
  by_cases hn : l.length = m.length
  rotate_left
  · have E := Lib.hid (decide_eq_false fun q : l = m => hn (by rw [q]))
    have d1 : ((l.length : Int) == (m.length : Int)) = false := by rw [beq_eq_false_iff_ne]; omega
    have d2 : ¬ (l.length : Int) = (m.length : Int) := by omega
    have d3 : ¬ l.length = m.length := hn
    have d4 : (l.length == m.length) = false := by rw [beq_eq_false_iff_ne]; omega
    have d5 : decide (l.length = m.length) = false := by simp; omega
    have d6 : ((l.length : Int) != (m.length : Int)) = true := by simp; omega
    clear hn
    go_enter Try.func15, Try.ntmps15
    go_wp2_with fail
    go_ret
    exact ⟨congrArg (fun b => Ending.returned (.bool b)) E.out.symm, Below.refl _ _⟩
  have EQ : Hid ((∀ j, j < l.length → l[j]? = m[j]?) → l = m) := Lib.hid fun q => List.ext_getElem? fun j => by
    by_cases h : j < l.length
    · exact q j h
    · rw [List.getElem?_eq_none (by omega), List.getElem?_eq_none (by omega)]
  have NE : Hid (∀ j : Nat, ¬ (l[j]? = m[j]?) → ¬ (l = m)) := Lib.hid (fun (j : Nat) q r => q (congrArg (fun z => z[j]?) r))
  have GA : Hid (∀ j, j < l.length → ∃ x, l[j]? = some x) := Lib.hid fun j h => ⟨l[j], List.getElem?_eq_getElem h⟩
  have GB : Hid (∀ j, j < l.length → ∃ x, m[j]? = some x) := Lib.hid fun j h => ⟨m[j]'(by omega), List.getElem?_eq_getElem (by omega)⟩
  obtain ⟨n, hnl⟩ : ∃ n, l.length = n := ⟨_, rfl⟩
  have hnm : m.length = n := by omega
  have PA : Hid (0 < n → ∀ W, Below w.heap.size w W → ∃ b o, A = some ⟨b, o, none⟩ ∧ b < W.heap.size ∧ ∀ i v, l[i]? = some v → W.cell? ⟨b, o + i, none⟩ = some (.int .i64 v)) := Lib.hid fun h W hb => RA.out.below hb (by omega)
  have PB : Hid (0 < n → ∀ W, Below w.heap.size w W → ∃ b o, B = some ⟨b, o, none⟩ ∧ b < W.heap.size ∧ ∀ i v, m[i]? = some v → W.cell? ⟨b, o + i, none⟩ = some (.int .i64 v)) := Lib.hid fun h W hb => RB.out.below hb (by omega)
  rw [hnl] at EQ GA GB
  rw [hnl, hnm]
  have n1000 : n ≤ 1000 := by omega
  clear RA RB hn hnl hnm hl
  go_enter Try.func15, Try.ntmps15
  go_wp2_with fail
  go_loopw [5] (fun iv wr => ∃ k : Nat, k ≤ n ∧ iv = .int .i64 k ∧ Hid (Below w.heap.size w wr) ∧ Hid (∀ j, j < k → l[j]? = m[j]?)) (fun iv _ => n - (intOf iv).toNat)
  case atStart => exact ⟨0, Nat.zero_le _, rfl, Lib.hid (Below.refl _ _), Lib.hid fun j h => absurd h (Nat.not_lt_zero _)⟩
  case round =>
    obtain ⟨k, hk, rfl, B0, ALL⟩ := hrel
    by_cases hlt : k < n
    rotate_left
    · obtain rfl : k = n := by omega
      have g1 : ¬ (k : Int) < (k : Int) := by omega
      have E := Lib.hid (decide_eq_true (EQ.out ALL.out))
      go_wp2_with fail
      go_ret
      exact ⟨congrArg (fun b => Ending.returned (.bool b)) E.out.symm, B0.out⟩
    obtain ⟨ba, oa, rfl, hba, ha⟩ := PA.out (by omega) _ B0.out
    obtain ⟨bb, ob, rfl, hbb, hb⟩ := PB.out (by omega) _ B0.out
    obtain ⟨x, hx⟩ := GA.out k hlt
    obtain ⟨y, hy⟩ := GB.out k hlt
    have CA := ha k x hx
    have CB := hb k y hy
    clear ha hb
    have g0 : (0 : Int) ≤ (k : Int) := by omega
    have g1 : (k : Int) < (n : Int) := by omega
    have wk : IntKind.i64.wrap ((k : Int) + 1) = (k : Int) + 1 := by rw [IntKind.wrap_i64]; omega
    by_cases q : x = y
    · subst q
      have A2 : Hid (∀ j, j < k + 1 → l[j]? = m[j]?) := Lib.hid fun j hj => by
        by_cases h : j < k
        · exact ALL.out j h
        · obtain rfl : j = k := by omega
          rw [hx, hy]
      clear hx hy
      go_wp2_with fail
      go_quiet (fail)
      go_wp2_with fail
      go_roundw
      case rel => exact ⟨k + 1, by omega, by congr 1, Lib.hid (low_drewN B0.out _), A2⟩
      case measure => simp [intOf]; omega
    · have E := Lib.hid (decide_eq_false (NE.out k (by rw [hx, hy]; intro r; injection r with r; exact q r)))
      have t1 : (x != y) = true := by rw [bne_iff_ne]; exact q
      have t2 : (x == y) = false := by rw [beq_eq_false_iff_ne]; exact q
      clear hx hy
      go_wp2_with fail
      go_quiet (fail)
      go_wp2_with fail
      go_ret
      exact ⟨congrArg (fun b => Ending.returned (.bool b)) E.out.symm, low_drewN B0.out _⟩
end Go.Proofs.Ytnneppkkmhjpbaa
