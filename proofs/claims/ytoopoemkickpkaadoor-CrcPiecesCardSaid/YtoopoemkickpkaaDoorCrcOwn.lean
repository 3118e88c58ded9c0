import Derived.Test.YtoopoemkickpkaaDoorCrcOwnJ
import Derived.Test.YtoopoemkickpkaaDoorCrcSay
namespace Go.Proofs.YtoopoemkickpkaaDoor
open Go.RowKit CrcM

theorem u32_low4 (x : Nat) (h : x < 4294967296) : bits .and .u32 (x : Int) 15 = ((x % 16 : Nat) : Int) := by
  have := u32_and_nat x 15 h (by omega)
  rw [nat_mask4] at this
  exact this

set_option maxRecDepth 100000 in
set_option maxHeartbeats 400000 in
theorem four_any (x : Nat) (w : World) (h1 : x < 4294967296) (hE : Env w) :
    Calls Tryd.prog 17 #[.int .u32 (x : Int)] w fun e w' => e = .returned (.int .u32 (shN 4 x : Nat)) ∧ w = w' := by
  have hc := hE.2 (x % 16) (Nat.mod_lt _ (by omega))
  have hl := u32_low4 x h1
  have L4 : Hid (shN 4 (x % 16) < 4294967296) := Lib.hid (shN_lt 4 (by omega))
  have FX := Lib.hid (u32_xor_nat (x / 16) (shN 4 (x % 16)) (by omega) L4.out)
  have T := Lib.hid (shN4_table x)
  have hm : x % 16 < 16 := Nat.mod_lt _ (by omega)
  clear hE
  go_enter Tryd.func17, Tryd.ntmps17
  go_wp2
  go_ret
  exact ⟨ret32 (by rw [T.out]; exact FX.out), rfl⟩

theorem runs_snoc (v : Nat) (ps : List (Nat × (Nat → Nat))) (p : Nat × (Nat → Nat)) : runs v (ps ++ [p]) = run (runs v ps) p.2 p.1 := by
  induction ps generalizing v with
  | nil => rfl
  | cons q ps ih => exact ih _
theorem runs_take {ps : List (Nat × (Nat → Nat))} {k : Nat} (h : k < ps.length) (v : Nat) : runs v (ps.take (k + 1)) = run (runs v (ps.take k)) ps[k].2 ps[k].1 := by
  rw [List.take_succ_eq_append_getElem h, runs_snoc]

set_option maxRecDepth 100000 in
set_option maxHeartbeats 1000000 in
theorem sum_calls (A : Option Addr) (m c : Nat) (ps : List (Nat × (Nat → Nat))) (w : World) (hm : m = ps.length) (hm1 : m ≤ 100) (hP : Pcs w A ps) (hF : ∀ p ∈ ps, ∀ i, p.2 i < 256) :
    Calls Tryd.prog 11 #[.slice A m c] w fun e w' => e = .returned (.int .u32 (sums ps : Nat)) ∧ w = w' := by
  have M := Lib.hid hm
  have HP := Lib.hid hP
  have HF := Lib.hid hF
  clear hm hP hF
  go_enter Tryd.func11, Tryd.ntmps11
  go_wp2
  go_loop [3, 10] (fun v i => ∃ k : Nat, k ≤ m ∧ i = .int .i64 k ∧ v = .int .u32 ((runs ff (ps.take k) : Nat) : Int)) (fun _ i => m - (intOf i).toNat)
  case atStart => exact ⟨0, Nat.zero_le _, rfl, rfl⟩
  case round =>
    obtain ⟨k, hk, rfl, rfl⟩ := hrel
    have hV : runs ff (ps.take k) < 4294967296 := runs_lt (by unfold ff; omega) fun p hp => HF.out p (List.mem_of_mem_take hp)
    by_cases hl : k < m
    · have hkp : k < ps.length := M.out ▸ hl
      obtain ⟨b, o, rfl, _, hc⟩ := HP.out.2.2 (by omega)
      obtain ⟨Ai, ci, hcell, hrow⟩ := hc k ps[k] (List.getElem?_eq_getElem hkp)
      have hn := HP.out.2.1 ps[k] (List.getElem_mem hkp)
      have RT := Lib.hid (runs_take hkp ff)
      have hf := hrow.1
      clear hc
      generalize hq : ps[k] = q at hcell hrow hn RT hf
      obtain ⟨n, f⟩ := q
      dsimp only at hcell hrow hn RT hf
      have HV := Lib.hid hV
      have HR := Lib.hid hrow
      have HFf := Lib.hid hf
      clear hq hrow hf hV hkp
      generalize hvv : runs ff (ps.take k) = V at RT HV
      have HVV := Lib.hid hvv
      clear hvv
      go_wp2
      go_loop [3, 16] (fun v i => ∃ j : Nat, j ≤ n ∧ i = .int .i64 j ∧ v = .int .u32 ((run V f j : Nat) : Int)) (fun _ i => n - (intOf i).toNat)
      case atStart => exact ⟨0, Nat.zero_le _, rfl, rfl⟩
      case round =>
        obtain ⟨j, hj, rfl, rfl⟩ := hrel
        have hlt := run_lt HV.out HFf.out j
        by_cases hl2 : j < n
        · obtain ⟨b2, o2, rfl, _, hc2⟩ := HR.out.2 (by omega)
          have cj := hc2 j hl2
          have bj := HFf.out j
          have fx := u32_xor_nat (run V f j) (f j) hlt (by omega)
          have hx : run V f j ^^^ f j < 4294967296 := Nat.xor_lt_two_pow (n := 32) hlt (by omega)
          have HX := Lib.hid hx
          have HX4 := Lib.hid (shN_lt 4 hx)
          have FS : Hid (shN 4 (shN 4 (run V f j ^^^ f j)) = run V f (j + 1)) := Lib.hid (byte_four _)
          clear hc2 hx hlt
          go_wp2_with fail
          refine (four_any _ _ HX.out HP.out.1).mono ?_
          rintro e w' ⟨rfl, rfl⟩
          go_wp2_with fail
          refine (four_any _ _ HX4.out HP.out.1).mono ?_
          rintro e w' ⟨rfl, rfl⟩
          rw [FS.out]
          go_wp2_with fail
          go_round
          case rel => exact ⟨j + 1, by omega, by go_num, rfl⟩
          case measure => simp [intOf]; omega
        · obtain rfl : j = n := by omega
          clear hlt
          go_wp2
          go_round
          case rel => exact ⟨k + 1, by omega, by go_num, by rw [RT.out]⟩
          case measure => simp [intOf]; omega
    · have hk' : k = m := by omega
      have G := Lib.hid (show ps.take k = ps by rw [hk', M.out, List.take_length])
      have t : decide ((k : Int) < m) = false := by simp; omega
      have f1 := Lib.hid (show bits .xor .u32 IntKind.u32.max ((runs ff (ps.take k) : Nat) : Int) = ((runs ff (ps.take k) ^^^ ff : Nat) : Int) by
        rw [Nat.xor_comm]
        exact u32_xor_nat ff (runs ff (ps.take k)) (by unfold ff; omega) hV)
      clear hk' hV
      go_wp2
      go_ret
      exact ⟨ret32 (by unfold sums; rw [f1.out, G.out]), rfl⟩

theorem Pcs.bytes {w : World} {A : Option Addr} {ps : List (Nat × (Nat → Nat))} (h : Pcs w A ps) : ∀ p ∈ ps, ∀ i, p.2 i < 256 := by
  intro p hp i
  obtain ⟨k, hk, rfl⟩ := List.mem_iff_getElem.1 hp
  obtain ⟨b, o, _, _, hc⟩ := h.2.2 (by omega)
  obtain ⟨_, _, _, hr⟩ := hc k _ (List.getElem?_eq_getElem hk)
  exact hr.1 i
theorem sumSays : SumSays := fun A m c ps w hm h1 hP => (sum_calls A m c ps w hm h1 hP hP.bytes).mono fun _ _ ⟨he, hw⟩ => ⟨he, hw ▸ Below.refl _ _⟩

end Go.Proofs.YtoopoemkickpkaaDoor
