import Derived.Test.YtinpdomcfijnmaaSloP3
import Derived.WalkMore
namespace Go.Proofs.Ytinpdomcfijnmaa
open Go.RowKit

/-! The landed look. -/
def FreeL (d : Nat → SlotV) (n : Nat) (fr : Int) : Prop := (∃ k : Nat, k < n ∧ fr = k ∧ (d k).ino = 0 ∧ ∀ j, j < k → (d j).ino ≠ 0) ∨ (fr = -1 ∧ ∀ j, j < n → (d j).ino ≠ 0)
def NoneL (d : Nat → SlotV) (n : Nat) (s : ByteArray) : Prop := ∀ k, k < n → (d k).ino ≠ 0 → (d k).name ≠ s
/-- What look answers. -/
def LookS (d : Nat → SlotV) (n : Nat) (s : ByteArray) (hs fr : Int) : Prop := (∃ k : Nat, k < n ∧ (d k).ino ≠ 0 ∧ (d k).name = s ∧ hs = k) ∨ (hs = -1 ∧ NoneL d n s ∧ FreeL d n fr)
theorem NoneL.next {d : Nat → SlotV} {n : Nat} {s : ByteArray} (h : NoneL d n s) (h1 : (d n).ino ≠ 0 → (d n).name ≠ s) : NoneL d (n + 1) s := fun k hk h0 => by
  rcases Nat.lt_or_ge k n with q | q
  · exact h k q h0
  · obtain rfl : k = n := by omega
    exact h1 h0
theorem FreeL.used {d : Nat → SlotV} {n : Nat} {fr : Int} (h : FreeL d n fr) (h1 : (d n).ino ≠ 0) : FreeL d (n + 1) fr := by
  rcases h with ⟨k, hk, e, h0, ha⟩ | ⟨e, ha⟩
  · exact .inl ⟨k, by omega, e, h0, ha⟩
  · refine .inr ⟨e, fun j hj => ?_⟩
    rcases Nat.lt_or_ge j n with q | q
    · exact ha j q
    · obtain rfl : j = n := by omega
      exact h1
theorem FreeL.first {d : Nat → SlotV} {n : Nat} {fr : Int} (h : FreeL d n fr) (h1 : (d n).ino = 0) (hf : fr < 0) : FreeL d (n + 1) (n : Int) := by
  rcases h with ⟨k, hk, e, h0, ha⟩ | ⟨e, ha⟩
  · omega
  · exact .inl ⟨n, by omega, rfl, h1, ha⟩
theorem FreeL.still {d : Nat → SlotV} {n : Nat} {fr : Int} (h : FreeL d n fr) (hf : ¬ fr < 0) : FreeL d (n + 1) fr := by
  rcases h with ⟨k, hk, e, h0, ha⟩ | ⟨e, ha⟩
  · exact .inl ⟨k, by omega, e, h0, ha⟩
  · omega
set_option maxRecDepth 100000 in
set_option maxHeartbeats 4000000 in
theorem pLook (A : Option Addr) (n c : Nat) (d : Nat → SlotV) (s : ByteArray) (w : World) (hn : n ≤ 8) (hR : SRow w A n d) : Calls Try.prog 28 #[.slice A n c, .string s] w fun e w' => (∃ hs fr : Int, e = .returned (.tuple #[.int .i64 hs, .int .i64 fr]) ∧ LookS d n s hs fr) ∧ Below w.heap.size w w' := by
  have hz := fun W => zero_slot W
  have R := Lib.hid hR
  clear hR
  go_enter Try.func28, Try.ntmps28
  go_wp2
  go_step3
  go_wp2
  go_step3
  go_wp2
  go_loopw [4, 5, 10] (fun hv fv iv wr => ∃ (k : Nat) (fr : Int), k ≤ n ∧ hv = .int .i64 (-1) ∧ fv = .int .i64 fr ∧ iv = .int .i64 k ∧ Hid (NoneL d k s) ∧ Hid (FreeL d k fr) ∧ Hid (Below w.heap.size w wr)) (fun _ _ iv _ => n - (intOf iv).toNat)
  case atStart => exact ⟨0, -1, Nat.zero_le _, rfl, rfl, rfl, Lib.hid fun k h => absurd h (Nat.not_lt_zero _), Lib.hid (.inr ⟨rfl, fun k h => absurd h (Nat.not_lt_zero _)⟩), Lib.hid (Below.refl _ _)⟩
  case round =>
    obtain ⟨k, fr, hk, rfl, rfl, rfl, N, F, B⟩ := hrel
    by_cases hlt : k < n
    · obtain ⟨b, o, rfl, hb, hc⟩ := (R.out.below B.out).mem (by omega)
      have ck := Lib.hid (hc k hlt)
      clear hc
      obtain ⟨x, hx⟩ : ∃ x, d k = x := ⟨_, rfl⟩
      rw [hx] at ck
      have g0 : (0 : Int) ≤ (k : Int) := by omega
      have g1 : (k : Int) < (n : Int) := by omega
      go_upto_region 5 with (first
        | (refine load_slot rfl (.tmp 13) rfl b (o + k * 2) rfl x ck.out ?_)
        | (refine store_newSl rfl (.tmp 7) (.tmp 14) rfl x rfl rfl ?_))
      have SV := Lib.hid (SVar.new wr x)
      have B2 := Lib.hid (low_go B.out (below_new wr (.cells (sls x) 33)))
      clear ck hz
      generalize wr.alloc (.cells (sls x) 33) = w2 at SV B2 ⊢
      generalize wr.heap.size = bx at SV ⊢
      obtain ⟨ino, hino⟩ : ∃ ino, x.ino = ino := ⟨_, rfl⟩
      obtain ⟨nm, hnm⟩ : ∃ nm, x.name = nm := ⟨_, rfl⟩
      have c0 := SV.out.ino
      have c1 := SV.out.name
      rw [hino] at c0
      rw [hnm] at c1
      clear SV
      by_cases i0 : ino = 0
      · have N2 := Lib.hid (N.out.next (fun q => absurd (by rw [hx, hino]; exact i0) q))
        by_cases f0 : fr < 0
        · have F2 := Lib.hid (F.out.first (by rw [hx, hino]; exact i0) f0)
          have t1 : decide (fr < 0) = true := decide_eq_true f0
          subst i0
          clear hino hnm hx
          go_wp2_with fail
          go_roundw
          case rel => exact ⟨k + 1, k, by omega, rfl, rfl, by congr 1, N2, F2, B2⟩
          case measure => simp [intOf]; omega
        · have F2 := Lib.hid (F.out.still f0)
          have t1 : decide (fr < 0) = false := decide_eq_false f0
          subst i0
          clear hino hnm hx
          go_wp2_with fail
          go_roundw
          case rel => exact ⟨k + 1, fr, by omega, rfl, rfl, by congr 1, N2, F2, B2⟩
          case measure => simp [intOf]; omega
      · have t0 : (((ino : Nat) : Int) == 0) = false := by rw [beq_eq_false_iff_ne]; omega
        have t2 : (((ino : Nat) : Int) != 0) = true := by rw [bne_iff_ne]; omega
        by_cases he : nm = s
        · have te : (nm.toList == s.toList) = true := by rw [he]; simp
          have Y : Hid (LookS d n s (k : Int) fr) := Lib.hid (.inl ⟨k, hlt, by rw [hx, hino]; exact i0, by rw [hx, hnm]; exact he, rfl⟩)
          clear he hnm hino hx i0
          go_wp2_with fail
          rw [Exit.noGoto_ret]
          go_ret2
          exact ⟨⟨_, _, rfl, Y.out⟩, B2.out⟩
        · have te : (nm.toList == s.toList) = false := by rw [beq_eq_false_iff_ne]; exact fun q => he (list_same q)
          have N2 := Lib.hid (N.out.next (fun _ => by rw [hx, hnm]; exact he))
          have F2 := Lib.hid (F.out.used (by rw [hx, hino]; exact i0))
          clear he hnm hino hx i0
          go_wp2_with fail
          go_roundw
          case rel => exact ⟨k + 1, fr, by omega, rfl, rfl, by congr 1, N2, F2, B2⟩
          case measure => simp [intOf]; omega
    · obtain rfl : k = n := by omega
      have g1 : ¬ (k : Int) < (k : Int) := by omega
      have Y : Hid (LookS d k s (-1) fr) := Lib.hid (.inr ⟨rfl, N.out, F.out⟩)
      go_wp2_with fail
      try rw [Exit.noGoto_ret]
      go_ret2
      exact ⟨⟨_, _, rfl, Y.out⟩, B.out⟩
end Go.Proofs.Ytinpdomcfijnmaa
