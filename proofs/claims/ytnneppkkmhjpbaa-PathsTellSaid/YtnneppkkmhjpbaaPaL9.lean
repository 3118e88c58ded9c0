import Derived.Test.YtnneppkkmhjpbaaPaA
namespace Go.Proofs.Ytnneppkkmhjpbaa
open Go.RowKit

/-! PathsTell: what is told is the caller's own. -/
def RoomI (w : World) (g k : Nat) : Prop := ∃ cur, w.heap[g]? = some (.cells cur 3 (0, 0)) ∧ k ≤ cur.size
section
variable {w w' : World} {g k : Nat}
theorem RoomI.lt (h : RoomI w g k) : g < w.heap.size := by
  obtain ⟨cur, h, _⟩ := h
  exact (Array.getElem?_eq_some_iff.1 h).1
theorem RoomI.below (h : RoomI w g k) (hb : Below w.heap.size w w') : RoomI w' g k := by
  have hl := h.lt
  obtain ⟨cur, h, hs⟩ := h
  exact ⟨cur, (hb.block _ hl).trans h, hs⟩
theorem RoomI.cell (h : RoomI w g k) {i : Nat} (hi : i < k) : ∃ v, w.cell? ⟨g, i, none⟩ = some v := by
  obtain ⟨cur, h, hs⟩ := h
  exact ⟨cur[i]'(by omega), by rw [cell_of_row w g i _ _ _ h, Array.getElem?_eq_getElem (by omega)]⟩
theorem RoomI.frozen (h : RoomI w g k) (i : Nat) : w.frozen? ⟨g, i, none⟩ = false := by
  obtain ⟨cur, h, _⟩ := h
  simp [World.frozen?, h]
theorem RoomI.set (h : RoomI w g k) (i : Nat) (v : Value) : RoomI (w.setCell ⟨g, i, none⟩ v) g k := by
  obtain ⟨cur, h, hs⟩ := h
  exact ⟨_, heap_setCell_same w g i _ _ _ h, by simpa using hs⟩
end
def ToldI (w : World) (base : Nat) (A : Option Addr) (n : Nat) : Prop := 0 < n → ∃ g, A = some ⟨g, 0, none⟩ ∧ base ≤ g ∧ RoomI w g n
theorem ToldI.below {w w' : World} {base n : Nat} {A : Option Addr} (h : ToldI w base A n) (hb : Below w.heap.size w w') : ToldI w' base A n := fun h0 => by
  obtain ⟨g, e, hg, hr⟩ := h h0
  exact ⟨g, e, hg, hr.below hb⟩
theorem toldI_of {w : World} {base n : Nat} {A : Option Addr} {c : Nat} {cs : List Value} (h : w.ownsRow base 3 1 (.slice A n c) n cs) : ToldI w base A n := fun h0 => by
  rcases h.2 with ⟨_, q⟩ | ⟨g, cap, cur, e1, hb, hg, h1, h2, h3, _⟩
  · omega
  · injection e1 with e1 _ _
    exact ⟨g, e1, hb, cur, hg, by rw [h3]; omega⟩
theorem of_short (i : Int) : (ofN i).2.1.length ≤ 3 := by
  by_cases h : MayI i
  · rw [ofN_yes h]; exact way_short h
  · rw [ofN_no h]; exact Nat.zero_le _
set_option maxRecDepth 100000 in
set_option maxHeartbeats 8000000 in
theorem paTell (hS : PaSays) (n : Int) (w : World) (hn : I64 n) : Calls Try.prog 3 #[.int .i64 n] w fun e w' => e = .returned (.bool true) ∧ Below w.heap.size w w' := by
  have C1 : Hid (∀ W, Calls Try.prog 13 #[.int .i64 n] W fun e w' => (∃ A c, e = .returned (.tuple #[.int .i64 (ofN n).1, .slice A (ofN n).2.1.length c, .int .i64 (ofN n).2.2]) ∧ IntsAt w' A (ofN n).2.1) ∧ Below W.heap.size W w') := Lib.hid fun W => (rOf n W).mono fun e w' q => by
    obtain ⟨v, he, ho⟩ := q.1
    obtain ⟨A, c, rfl, _, hA⟩ := own_ints ho rfl
    exact ⟨⟨A, c, he, hA⟩, q.2⟩
  have C2 : Hid (∀ W, Calls Try.prog 14 #[.int .i64 n] W fun e w' => (∃ A c, e = .returned (.tuple #[.int .i64 (ofN n).1, .slice A (ofN n).2.1.length c, .int .i64 (ofN n).2.2]) ∧ IntsAt w' A (ofN n).2.1 ∧ ToldI w' W.heap.size A (ofN n).2.1.length) ∧ Below W.heap.size W w') := Lib.hid fun W => (hS.of n W hn).mono fun e w' q => by
    obtain ⟨v, he, ho⟩ := q.1
    obtain ⟨A, c, rfl, _, hA⟩ := own_ints ho rfl
    exact ⟨⟨A, c, he, hA, toldI_of ho⟩, q.2⟩
  have sh := of_short n
  have SM := Lib.hid fun A B c c' W (q : IntsAt W A (ofN n).2.1) (r : IntsAt W B (ofN n).2.1) => rSame A B c c' (ofN n).2.1 (ofN n).2.1 W (by omega) q r
  simp only [decide_true] at SM
  have L1 := Lib.hid fun W => hS.level n W hn
  have L2 := Lib.hid fun W => rLevel n W
  have P1 := Lib.hid fun W => hS.span n W hn
  have P2 := Lib.hid fun W => rSpan n W
  have F1 := Lib.hid fun W => hS.first n W hn
  have F2 := Lib.hid fun W => rFirst n W
  have N1 := Lib.hid fun W => hS.next n W hn
  have N2 := Lib.hid fun W => rNext n W ⟨hn.1, by have := hn.2; omega⟩
  have I1 := Lib.hid fun W => hS.indirect n W hn
  have I2 := Lib.hid fun W => rIndirect n W
  generalize levelN n = lv at L1 L2
  generalize spanN n = sp at P1 P2
  generalize firstN n = fi at F1 F2
  generalize nextN n = nx at N1 N2
  generalize indirN n = ind at I1 I2
  generalize (ofN n).1 = p at *
  generalize (ofN n).2.2 = z at *
  generalize (ofN n).2.1 = x at *
  clear hS hn
  go_enter Try.func3, Try.ntmps3
  go_upto_region 2 with (go_at_call 13; with_reducible refine (C1.out w).mono ?_; rintro e w1 ⟨⟨A, c, rfl, h1⟩, hb⟩; have B := Lib.hid hb; have H := Lib.hid h1; clear hb h1)
  clear C1
  go_wp2_with fail
  go_loopw [6] (fun tv wr => ∃ t : Nat, t ≤ 2 ∧ tv = .int .i64 t ∧ Hid (Below w1.heap.size w1 wr)) (fun tv _ => 2 - (intOf tv).toNat)
  case atStart => exact ⟨0, by omega, rfl, Lib.hid (Below.refl _ _)⟩
  case round =>
    obtain ⟨t, ht, rfl, B2⟩ := hrel
    by_cases hlt : t < 2
    rotate_left
    · obtain rfl : t = 2 := by omega
      have BB := Lib.hid (low_go B.out B2.out)
      clear C2 SM H B2
      go_wp2_with (first
        | (go_at_call 16; with_reducible refine (L1.out _).mono ?_; rintro e w2 ⟨rfl, hb⟩; replace BB := Lib.hid (low_go BB.out hb); clear hb)
        | (go_at_call 17; with_reducible refine (L2.out _).mono ?_; rintro e w3 ⟨rfl, rfl⟩)
        | (go_at_call 18; with_reducible refine (P1.out _).mono ?_; rintro e w4 ⟨rfl, hb⟩; replace BB := Lib.hid (low_go BB.out hb); clear hb)
        | (go_at_call 19; with_reducible refine (P2.out _).mono ?_; rintro e w5 ⟨rfl, hb⟩; replace BB := Lib.hid (low_go BB.out hb); clear hb)
        | (go_at_call 20; with_reducible refine (F1.out _).mono ?_; rintro e w6 ⟨rfl, hb⟩; replace BB := Lib.hid (low_go BB.out hb); clear hb)
        | (go_at_call 21; with_reducible refine (F2.out _).mono ?_; rintro e w7 ⟨rfl, hb⟩; replace BB := Lib.hid (low_go BB.out hb); clear hb)
        | (go_at_call 22; with_reducible refine (N1.out _).mono ?_; rintro e w8 ⟨rfl, hb⟩; replace BB := Lib.hid (low_go BB.out hb); clear hb)
        | (go_at_call 23; with_reducible refine (N2.out _).mono ?_; rintro e w9 ⟨rfl, hb⟩; replace BB := Lib.hid (low_go BB.out hb); clear hb)
        | (go_at_call 24; with_reducible refine (I1.out _).mono ?_; rintro e wa ⟨rfl, hb⟩; replace BB := Lib.hid (low_go BB.out hb); clear hb)
        | (go_at_call 25; with_reducible refine (I2.out _).mono ?_; rintro e wb ⟨rfl, hb⟩; replace BB := Lib.hid (low_go BB.out hb); clear hb))
      go_ret
      exact ⟨rfl, BB.out⟩
    obtain ⟨W0, rfl⟩ : ∃ W0, W0 = wr := ⟨_, rfl⟩
    have tl : (t : Int) < 2 := by omega
    have wt : IntKind.i64.wrap ((t : Int) + 1) = (t : Int) + 1 := by rw [IntKind.wrap_i64]; omega
    go_upto_region 8 with (first
      | (go_at_call 14; with_reducible refine (C2.out W0).mono ?_; rintro e wc ⟨⟨G, gc, rfl, h1, h2⟩, hb⟩; have Bc := Lib.hid hb; have Hc := Lib.hid h1; have Tc := Lib.hid h2; have Kc := Lib.hid (H.out.below (low_go B2.out hb)); clear hb h1 h2)
      | (go_at_call 15; with_reducible refine (SM.out _ _ _ _ wc Hc.out Kc.out).mono ?_; rintro e wd ⟨rfl, hb⟩; have Bd := Lib.hid (low_go Bc.out hb); have Td := Lib.hid (Tc.out.below hb); clear hb))
    clear Bc Hc Tc Kc
    go_wp2_with fail
    go_loopw [10] (fun av wg => ∃ a : Nat, a ≤ x.length ∧ av = .int .i64 a ∧ Hid (Below W0.heap.size W0 wg) ∧ Hid (ToldI wg W0.heap.size G x.length)) (fun av _ => x.length - (intOf av).toNat)
    case atStart => exact ⟨0, Nat.zero_le _, rfl, Bd, Td⟩
    case round =>
      obtain ⟨a, ha, rfl, B3, T3⟩ := hrel
      clear Bd Td
      by_cases hal : a < x.length
      · obtain ⟨g, hG, hg, hr⟩ := T3.out (by omega)
        obtain ⟨v, hv⟩ := hr.cell (i := a) hal
        have hf := hr.frozen a
        have T4 : Hid (ToldI (wr.setCell ⟨g, a, none⟩ (.int .i64 (-5))) W0.heap.size G x.length) := Lib.hid fun _ => ⟨g, hG, hg, hr.set a _⟩
        have B4 := Lib.hid (low_only B3.out (Only.set wr g a (.int .i64 (-5))) hg)
        subst hG
        have al : (a : Int) < (x.length : Int) := by omega
        have a0 : (0 : Int) ≤ (a : Int) := by omega
        have wk : IntKind.i64.wrap ((a : Int) + 1) = (a : Int) + 1 := by rw [IntKind.wrap_i64]; omega
        clear hr hg T3 B3
        go_wp2_with fail
        go_roundw
        case rel => exact ⟨a + 1, by omega, by congr 1, B4, T4⟩
        case measure => simp [intOf]; omega
      obtain rfl : a = x.length := by omega
      have al : ¬ (x.length : Int) < (x.length : Int) := by omega
      have B5 := Lib.hid (low_go B2.out B3.out)
      go_wp2_with fail
      go_roundw
      case rel => exact ⟨t + 1, by omega, by congr 1, B5⟩
      case measure => simp [intOf]; omega
end Go.Proofs.Ytnneppkkmhjpbaa
