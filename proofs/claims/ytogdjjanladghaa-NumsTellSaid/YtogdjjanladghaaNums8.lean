import Derived.Test.YtogdjjanladghaaNums7
import Derived.Deep.OwnRows
namespace Go.Proofs.Ytogdjjanladghaa
open Go.RowKit

theorem made_get (z : Value) (n i : Nat) (h : i < n) : (madeCells #[z] n)[i]? = some z := by
  simp [madeCells, h, Nat.mod_one]
theorem Own.made (w : World) (base : Nat) (t : TypeId) (n : Nat) (hb : base ≤ w.heap.size) : Own (w.alloc (.cells (madeCells #[.int .u8 0] n) t)) base (some ⟨w.heap.size, 0, none⟩) n (fun _ => 0) :=
  ⟨fun _ => by show 0 < 256; omega, fun _ => ⟨_, 0, rfl, hb, t, _, heap_alloc_new w _, fun i hi => by rw [Nat.zero_add]; exact made_get _ n i hi⟩⟩

set_option maxRecDepth 100000 in
set_option maxHeartbeats 1000000 in
theorem numsNoughts_any (n at_ v : Int) (w : World) (hn0 : -9223372036854775808 ≤ n) (hn1 : n ≤ 9223372036854775807) (h0 : -9223372036854775808 ≤ at_) (h1 : at_ ≤ 9223372036854775807) (hv0 : 0 ≤ v) (hv1 : v < 256) :
    Calls Try.prog 10 #[.int .i64 n, .int .i64 at_, .int .u8 v] w fun e w' => e = .returned (.bool true) ∧ Below w.heap.size w w' := by
  by_cases ha : n < 0
  · go_enter Try.func10, Try.ntmps10
    go_wp2_with (go_at_call 23; refine (awake_any _).mono ?_; rintro e w1 ⟨rfl, hB⟩)
    go_ret
    exact ⟨rfl, hB⟩
  have d1 : decide (n < 0) = false := by simp; omega
  by_cases hb : 20000 < n
  · have d2 : decide ((20000 : Int) < n) = true := by simp; omega
    go_enter Try.func10, Try.ntmps10
    go_wp2_with (go_at_call 23; refine (awake_any _).mono ?_; rintro e w1 ⟨rfl, hB⟩)
    go_ret
    exact ⟨rfl, hB⟩
  have d2 : decide ((20000 : Int) < n) = false := by simp; omega
  obtain ⟨m, rfl⟩ := Int.eq_ofNat_of_zero_le (show 0 ≤ n by omega)
  obtain ⟨x, rfl⟩ := Int.eq_ofNat_of_zero_le hv0
  clear hn0 hn1 ha
  have hmk := fun W => run_make_row' (P := Try.prog) 22 5 (.int .u8 0) 1 Try.underlying22 u8_info rfl .i64 .i64 m (by omega) (by omega) W
  by_cases hc : at_ < 0 ∨ (m : Int) ≤ at_ ∨ x = 0
  · have HC := Lib.hid hc
    clear hc
    go_enter Try.func10, Try.ntmps10
    go_wp2_with (go_at_call 23; refine (awake_any _).mono ?_; rintro e w1 ⟨rfl, hB⟩; have HB := Lib.hid hB; clear hB)
    have HO := Lib.hid (Own.made w1 w.heap.size 5 m HB.out.size)
    have HB2 := Lib.hid (HB.out.alloc HB.out.size (.cells (madeCells #[.int .u8 0] m) 5))
    generalize w1.alloc (.cells (madeCells #[.int .u8 0] m) 5) = w2 at HO HB2 ⊢
    refine (Zero_yes _ _ _ _ _ (by omega) (HO.out.row (Nat.le_refl _)) (fun _ _ => rfl)).mono ?_
    rintro e w' ⟨rfl, rfl⟩
    rcases HC.out with h | h | h
    · have d3 : decide (at_ < 0) = true := by simp; omega
      go_wp2_with fail
      go_ret
      exact ⟨rfl, HB2.out⟩
    · have d3 : decide (at_ < 0) = false := by simp; omega
      have d4 : decide ((m : Int) ≤ at_) = true := by simp; omega
      go_wp2_with fail
      go_ret
      exact ⟨rfl, HB2.out⟩
    · subst h
      by_cases d3 : at_ < 0
      · go_wp2_with fail
        go_ret
        exact ⟨rfl, HB2.out⟩
      · by_cases d4 : (m : Int) ≤ at_
        · have d3 : decide (at_ < 0) = false := by simp; omega
          go_wp2_with fail
          go_ret
          exact ⟨rfl, HB2.out⟩
        · have d3 : decide (at_ < 0) = false := by simp; omega
          have d4 : decide ((m : Int) ≤ at_) = false := by simp; omega
          go_wp2_with fail
          go_ret
          exact ⟨rfl, HB2.out⟩
  · obtain ⟨a, rfl⟩ := Int.eq_ofNat_of_zero_le (show 0 ≤ at_ by omega)
    have hx : 0 < x := by omega
    have ham : a < m := by omega
    clear hc h0 h1
    have d4 : decide ((m : Int) ≤ a) = false := by simp; omega
    have d5 : ((x : Int) == 0) = false := by simp; omega
    go_enter Try.func10, Try.ntmps10
    go_wp2_with (go_at_call 23; refine (awake_any _).mono ?_; rintro e w1 ⟨rfl, hB⟩; have HB := Lib.hid hB; clear hB)
    have HO := Lib.hid (Own.made w1 w.heap.size 5 m HB.out.size)
    have HB2 := Lib.hid (HB.out.alloc HB.out.size (.cells (madeCells #[.int .u8 0] m) 5))
    have hg := HB.out.size
    generalize w1.alloc (.cells (madeCells #[.int .u8 0] m) 5) = w2 at HO HB2 ⊢
    refine (Zero_yes _ _ _ _ _ (by omega) (HO.out.row (Nat.le_refl _)) (fun _ _ => rfl)).mono ?_
    rintro e w' ⟨rfl, rfl⟩
    obtain ⟨g', o', e', hb', hcells⟩ := HO.out.2 (by omega)
    injection e' with e'
    injection e' with e1 e2
    subst e2
    rw [e1]
    have c0 : w2.cell? ⟨g', a, none⟩ = some (.int .u8 0) := by simpa using hcells.cell a ham
    have z0 := hcells.frozen a
    have HS := Lib.hid (hcells.set a x ham)
    have HF := Lib.hid HO.out.1
    clear hcells HO
    go_wp2_with fail
    refine (Zero_no _ m _ (upd (fun _ => 0) a x) _ a (by omega) ?_ ham (by unfold upd; rw [if_pos rfl]; exact hx)).mono ?_
    · have h := HS.out
      rw [Nat.zero_add] at h
      exact (Own.row (base := 0) (N := m) ⟨upd_lt HF.out a x (by omega), fun _ => ⟨g', 0, rfl, Nat.zero_le _, h⟩⟩ (Nat.le_refl _))
    rintro e w' ⟨rfl, rfl⟩
    go_wp2_with fail
    go_ret
    exact ⟨rfl, HB2.out.setCell hb' _⟩

end Go.Proofs.Ytogdjjanladghaa
