import Derived.Test.YtinpdomcfijnmaaSloA
import Derived.Test.YtinpdomcfijnmaaSloE
namespace Go.Proofs.Ytinpdomcfijnmaa
open Go.RowKit

/-! SlotsTell. -/
/-- A list of slots that its holder may spoil. -/
def Spoil (g : Nat) (w : World) : Prop := ∃ cur, w.heap[g]? = some (.cells cur 33 (0, 0)) ∧ 16 ≤ cur.size
theorem Spoil.cell {g : Nat} {w : World} (h : Spoil g w) {k : Nat} (hk : k < 8) : (∃ u, w.cell? ⟨g, k * 2 + 1, none⟩ = some u) ∧ w.frozen? ⟨g, k * 2 + 1, none⟩ = false := by
  obtain ⟨cur, hg, hs⟩ := h
  refine ⟨⟨cur[k * 2 + 1]'(by omega), ?_⟩, by simp [World.frozen?, hg]⟩
  rw [cell_of_row w g _ _ _ _ hg]
  exact Array.getElem?_eq_getElem (by omega)
theorem Spoil.set {g : Nat} {w : World} (h : Spoil g w) (k : Nat) (v : Value) : Spoil g (w.setCell ⟨g, k, none⟩ v) := by
  obtain ⟨cur, hg, hs⟩ := h
  exact ⟨_, heap_setCell_same w g k _ _ v hg, by simpa using hs⟩
theorem own_spoil {w : World} {base c : Nat} {A : Option Addr} {xs : List Value} (h : w.ownsRow base 33 2 (.slice A 8 c) 8 xs) : ∃ g, A = some ⟨g, 0, none⟩ ∧ base ≤ g ∧ Spoil g w := by
  rcases h.2 with ⟨_, h⟩ | ⟨g, cap, cur, h1, h2, h3, h4, _, h6, _⟩
  · omega
  · injection h1 with h1 _ _
    exact ⟨g, h1, h2, cur, h3, by omega⟩
/-- What SlotsTell keeps in memory. -/
structure TL (w0 : World) (X : Blk) (w : World) : Prop where
  blk : BVar w w0.heap.size X
  low : Below w0.heap.size w0 w
theorem TL.below {w0 w w' : World} {X : Blk} (h : TL w0 X w) (hb : Below w.heap.size w w') : TL w0 X w' := ⟨h.blk.below hb, low_go h.low hb⟩
set_option maxRecDepth 100000 in
set_option maxHeartbeats 4000000 in
theorem sTell (hS : SlotsSays) (X : Blk) (s : ByteArray) (w : World) : Calls Try.prog 3 #[.agg (arr X), .string s] w fun e w' => e = .returned (.bool true) ∧ Below w.heap.size w w' := by
  have P := Lib.hid (show TL w X (w.alloc (.cells (arr X) 23)) from ⟨heap_alloc_new w _, below_new w _⟩)
  by_cases h2 : 20000 < s.size
  · have t1 : decide ((20000 : Int) < (s.size : Int)) = true := by simp; omega
    have v1 : (20000 : Int) < (s.size : Int) := by omega
    go_enter Try.func3, Try.ntmps3
    go_wp2
    go_ret
    exact ⟨rfl, P.out.low⟩
  have t1 : decide ((20000 : Int) < (s.size : Int)) = false := by simp; omega
  have v1 : ¬ (20000 : Int) < (s.size : Int) := by omega
  have CR := Lib.hid fun W => rList X W
  have CL := Lib.hid fun W => hS.list X W
  obtain ⟨fi, hfi⟩ : ∃ fi, (findD X s).1 = fi := ⟨_, rfl⟩
  obtain ⟨fo, hfo⟩ : ∃ fo, (findD X s).2 = fo := ⟨_, rfl⟩
  obtain ⟨may, hmay⟩ : ∃ may, decide (MayN s) = may := ⟨_, rfl⟩
  have CF := Lib.hid fun W => hS.find X s W
  have CG := Lib.hid fun W => rFind X s W
  have CM := Lib.hid fun W => hS.may s W
  have CN := Lib.hid fun W => rMayN s W
  rw [hfi, hfo] at CF CG
  rw [hmay] at CM CN
  have bb : (may == may) = true := by cases may <;> rfl
  clear h2 hS hfi hfo hmay
  go_enter Try.func3, Try.ntmps3
  go_upto_region 1 with fail
  generalize w.alloc (.cells (arr X) 23) = w1 at P ⊢
  by_cases hr : Right X
  rotate_left
  · have HR := Lib.hid hr
    clear hr
    have CS := Lib.hid fun W => rSameS none none 0 0 0 (slotS X) W (by omega) (SRow.nil _ _ _) (SRow.nil _ _ _)
    go_upto_region 4 with (first
      | (refine load_blk rfl (.tmp 2) rfl w.heap.size 0 rfl X P.out.blk.at ?_)
      | (go_at_call 10; with_reducible refine (CR.out _).mono ?_; rintro e w2 ⟨hl, hb⟩; obtain rfl : e = .returned (.tuple #[.slice none 0 0, .int .i64 80]) := hl.no HR.out))
    have P2 := Lib.hid (P.out.below hb)
    clear hb hl P CR t1 v1
    go_wp2_with fail
    go_loopw [7] (fun tv wr => ∃ k : Nat, k ≤ 2 ∧ tv = .int .i64 k ∧ Hid (TL w X wr)) (fun tv _ => 2 - (intOf tv).toNat)
    case atStart => exact ⟨0, Nat.zero_le _, rfl, P2⟩
    case round =>
      obtain ⟨k, hk, rfl, P3⟩ := hrel
      clear P2
      by_cases hlt : k < 2
      · have g1 : (k : Int) < 2 := by omega
        go_wp2_with (first
          | (refine load_blk rfl (.tmp 2) rfl w.heap.size 0 rfl X P3.out.blk.at ?_)
          | (go_at_call 11; with_reducible refine (CL.out _).mono ?_; rintro e w3 ⟨hl, hb⟩; obtain rfl : e = .returned (.tuple #[.slice none 0 0, .int .i64 80]) := hl.no HR.out; clear hl)
          | (go_at_call 12; with_reducible refine (CS.out _).mono ?_; rintro e w4 ⟨rfl, hc⟩))
        have P5 := Lib.hid ((P3.out.below hb).below hc)
        clear hb hc
        go_loopw [10] (fun iv wr => iv = .int .i64 0 ∧ wr = w4) (fun _ _ => 0)
        case atStart => exact ⟨rfl, rfl⟩
        case round =>
          obtain ⟨rfl, hw⟩ := hrel
          subst hw
          go_wp2_with fail
          go_roundw
          case rel => exact ⟨k + 1, by omega, by congr 1, P5⟩
          case measure => simp [intOf]; omega
      · obtain rfl : k = 2 := by omega
        go_wp2_with (first
          | (refine load_blk rfl (.tmp 2) rfl w.heap.size 0 rfl X P3.out.blk.at ?_)
          | (go_at_call 13; with_reducible refine (CF.out _).mono ?_; rintro e w3 ⟨rfl, hb⟩; have P4 := Lib.hid (P3.out.below hb); clear hb)
          | (refine load_blk rfl (.tmp 2) rfl w.heap.size 0 rfl X P4.out.blk.at ?_)
          | (go_at_call 14; with_reducible refine (CG.out _).mono ?_; rintro e w5 ⟨rfl, hb⟩)
          | (go_at_call 15; with_reducible refine (CM.out _).mono ?_; rintro e w6 ⟨rfl, rfl⟩)
          | (go_at_call 16; with_reducible refine (CN.out _).mono ?_; rintro e w7 ⟨rfl, rfl⟩))
        go_ret
        exact ⟨rfl, (P4.out.below hb).low⟩
  have HR := Lib.hid hr
  clear hr
  go_upto_region 4 with (first
    | (refine load_blk rfl (.tmp 2) rfl w.heap.size 0 rfl X P.out.blk.at ?_)
    | (go_at_call 10; with_reducible refine (CR.out _).mono ?_; rintro e w2 ⟨hl, hb⟩; obtain ⟨A, c, rfl, hs⟩ : ∃ A c, e = .returned (.tuple #[.slice A 8 c, .int .i64 0]) ∧ SRow w2 A 8 (slotS X) := hl.yes HR.out))
  have P2 := Lib.hid (P.out.below hb)
  have S2 := Lib.hid hs
  clear hb hl hs P CR t1 v1
  go_wp2_with fail
  go_loopw [7] (fun tv wr => ∃ k : Nat, k ≤ 2 ∧ tv = .int .i64 k ∧ Hid (Below w2.heap.size w2 wr)) (fun tv _ => 2 - (intOf tv).toNat)
  case atStart => exact ⟨0, Nat.zero_le _, rfl, Lib.hid (Below.refl _ _)⟩
  case round =>
    obtain ⟨k, hk, rfl, BB⟩ := hrel
    have P3 := Lib.hid (P2.out.below BB.out)
    by_cases hlt : k < 2
    · have g1 : (k : Int) < 2 := by omega
      go_upto_region 8 with (first
        | (refine load_blk rfl (.tmp 2) rfl w.heap.size 0 rfl X P3.out.blk.at ?_)
        | (go_at_call 11; with_reducible refine (CL.out _).mono ?_; rintro e w3 ⟨hl, hb⟩; obtain ⟨A', c', rfl, ho⟩ := hl.own HR.out; clear hl))
      obtain ⟨g, rfl, hg, hsp⟩ := own_spoil ho
      have gw : w2.heap.size ≤ g := Nat.le_trans BB.out.size hg
      have B3 := Lib.hid (low_go BB.out hb)
      have CS := Lib.hid (rSameS _ A 8 c' c (slotS X) w3 (by omega) (own_srow1 ho) (S2.out.below B3.out))
      have SP := Lib.hid hsp
      clear ho hsp hb BB P3 hg
      go_upto_region 10 with (go_at_call 12; with_reducible refine (CS.out).mono ?_; rintro e w4 ⟨rfl, hc⟩)
      have B4 := Lib.hid (low_go B3.out hc)
      have SP4 : Hid (Spoil g w4) := Lib.hid (by
        obtain ⟨cur, h1, h2⟩ := SP.out
        exact ⟨cur, (hc.block g (Array.getElem?_eq_some_iff.1 h1).1).trans h1, h2⟩)
      clear hc CS B3 SP
      go_wp2_with fail
      go_loopw [10] (fun iv wr => ∃ i : Nat, i ≤ 8 ∧ iv = .int .i64 i ∧ Hid (Below w2.heap.size w2 wr) ∧ Hid (Spoil g wr)) (fun iv _ => 8 - (intOf iv).toNat)
      case atStart => exact ⟨0, Nat.zero_le _, rfl, B4, SP4⟩
      case round =>
        obtain ⟨i, hi, rfl, B5, SP5⟩ := hrel
        clear B4 SP4
        by_cases hi8 : i < 8
        · obtain ⟨⟨u, du⟩, zu⟩ := SP5.out.cell hi8
          have g2 : (i : Int) < 8 := by omega
          have g3 : (0 : Int) ≤ (i : Int) := by omega
          have B6 := Lib.hid (low_only B5.out (Only.set _ g (i * 2 + 1) (.string ⟨#[115, 112, 111, 105, 108, 116]⟩)) gw)
          have SP6 := Lib.hid (SP5.out.set (i * 2 + 1) (.string ⟨#[115, 112, 111, 105, 108, 116]⟩))
          go_wp2_with fail
          go_roundw
          case rel => exact ⟨i + 1, by omega, by congr 1, B6, SP6⟩
          case measure => simp [intOf]; omega
        · obtain rfl : i = 8 := by omega
          go_wp2_with fail
          go_roundw
          case rel => exact ⟨k + 1, by omega, by congr 1, B5⟩
          case measure => simp [intOf]; omega
    · obtain rfl : k = 2 := by omega
      go_wp2_with (first
        | (refine load_blk rfl (.tmp 2) rfl w.heap.size 0 rfl X P3.out.blk.at ?_)
        | (go_at_call 13; with_reducible refine (CF.out _).mono ?_; rintro e w3 ⟨rfl, hb⟩; have P4 := Lib.hid (P3.out.below hb); clear hb)
        | (refine load_blk rfl (.tmp 2) rfl w.heap.size 0 rfl X P4.out.blk.at ?_)
        | (go_at_call 14; with_reducible refine (CG.out _).mono ?_; rintro e w5 ⟨rfl, hb⟩)
        | (go_at_call 15; with_reducible refine (CM.out _).mono ?_; rintro e w6 ⟨rfl, rfl⟩)
        | (go_at_call 16; with_reducible refine (CN.out _).mono ?_; rintro e w7 ⟨rfl, rfl⟩))
      go_ret
      exact ⟨rfl, (P4.out.below hb).low⟩
end Go.Proofs.Ytinpdomcfijnmaa
