import Derived.Test.YtmlmpflfejbbcaaDoorGeoRa
import Derived.Test.YtmlmpflfejbbcaaDoorGeoPb
namespace Go.Proofs.YtmlmpflfejbbcaaDoor
open Go.RowKit

/-! The document's own answers over its list: Data, Inode; Home. -/
def cntD (g : GeoV) : Nat → Nat
  | 0 => 0
  | b + 1 => cntD g b + if (whatG g (b : Int)).1 = 7 ∧ (whatG g (b : Int)).2.1 = 0 then 1 else 0
theorem cntD_le (g : GeoV) : ∀ b, cntD g b ≤ b
  | 0 => Nat.le_refl _
  | b + 1 => by
    have := cntD_le g b
    rw [cntD]
    split <;> omega
theorem cntD_run {g : GeoV} {k : Nat} (hk : k < numG g) (hm : May g) : ∀ m : Nat, (m : Int) ≤ (partG g k).cnt → cntD g ((partG g k).first.toNat + m) = cntD g (partG g k).first.toNat + if (partG g k).kind = 7 ∧ (partG g k).grp = 0 then m else 0
  | 0, _ => by simp
  | m + 1, h => by
    obtain ⟨q1, q2, q3, q4, q5, q6⟩ := partG_fits hm (Nat.le_of_lt hk)
    have hw := what_part hk (b := ((partG g k).first.toNat + m : Nat)) (by omega) (by omega)
    rw [← Nat.add_assoc, cntD, cntD_run hk hm m (by omega)]
    simp only [hw]
    by_cases e : (partG g k).kind = 7 ∧ (partG g k).grp = 0
    · rw [if_pos e, if_pos e, if_pos e]; omega
    · rw [if_neg e, if_neg e, if_neg e]
theorem cntD_part {g : GeoV} {k : Nat} (hk : k < numG g) (hm : May g) : cntD g (partG g (k + 1)).first.toNat = cntD g (partG g k).first.toNat + if (partG g k).kind = 7 ∧ (partG g k).grp = 0 then (partG g k).cnt.toNat else 0 := by
  obtain ⟨q1, q2, q3, q4, q5, q6⟩ := partG_fits hm (Nat.le_of_lt hk)
  have h := cntD_run hk hm (partG g k).cnt.toNat (by omega)
  rw [← partG_next, show ((partG g k).first + (partG g k).cnt).toNat = (partG g k).first.toNat + (partG g k).cnt.toNat by omega, h]
theorem cntD_upto {g : GeoV} (hm : May g) : ∀ k, k ≤ numG g → cntD g (partG g k).first.toNat = if 7 ≤ k then (g.sz - ownG g).toNat else 0
  | 0, _ => rfl
  | k + 1, h => by
    rw [cntD_part (by omega) hm, cntD_upto hm k (by omega)]
    match k with
    | 0 => rfl
    | 1 => rfl
    | 2 => rfl
    | 3 => rfl
    | 4 => rfl
    | 5 => rfl
    | 6 => simp [partG, inG]
    | k + 7 =>
      have : ¬ ((partG g (k + 7)).kind = 7 ∧ (partG g (k + 7)).grp = 0) := by
        show ¬ ((inG g ((k + 4) / 4) ((k + 4) % 4)).kind = 7 ∧ (inG g ((k + 4) / 4) ((k + 4) % 4)).grp = 0)
        have h : (k + 4) % 4 = 0 ∨ (k + 4) % 4 = 1 ∨ (k + 4) % 4 = 2 ∨ (k + 4) % 4 = 3 := by omega
        rcases h with h | h | h | h <;> rw [h] <;> simp [inG]
        omega
      rw [if_neg this, if_pos (by omega), if_pos (by omega)]
      rfl
theorem cntD_all (g : GeoV) : ((cntD g (blocksG g).toNat : Nat) : Int) = dataG g := by
  by_cases hm : May g
  · have h := cntD_upto hm (numG g) (Nat.le_refl _)
    rw [first_num] at h
    have hn : 7 ≤ numG g := by unfold numG; rw [if_pos hm]; have := hm.1; omega
    rw [h, if_pos hn]
    unfold dataG
    rw [if_pos hm]
    have := hm.2.2.2.2.2.2.2.2.2.1
    unfold ownG
    omega
  · have h1 : blocksG g = 0 := if_neg hm
    have h2 : dataG g = 0 := if_neg hm
    rw [h1, h2]
    rfl
set_option maxRecDepth 100000 in
set_option maxHeartbeats 1000000 in
theorem rData (g : GeoV) (w : World) : Calls Tryd.prog 50 #[.agg (gcs g)] w fun e w' => e = .returned (.int .i64 (dataG g)) ∧ Below w.heap.size w w' := by
  have P0 := Lib.hid (gp_start w g)
  have BF := Lib.hid (blocks_fits g)
  have CA := Lib.hid (cntD_all g)
  obtain ⟨n, hn⟩ : ∃ n, (blocksG g).toNat = n := ⟨_, rfl⟩
  have n2 : n ≤ 2048 := by have := BF.out; omega
  rw [hn] at CA
  go_enter Tryd.func50, Tryd.ntmps50
  go_wp2_with (first
    | (refine load_geo rfl (.tmp 1) rfl w.heap.size 0 rfl g P0.out.2.at ?_)
    | (go_at_call 60; refine (rAll g _).mono ?_; rintro e w2 ⟨v, rfl, hT⟩; have HB := Lib.hid (P0.out.step hT.gp.1); rw [hn] at hT; obtain ⟨A, cap, rfl, hth⟩ := hT.things; have HT := Lib.hid hth; clear hth hT))
  clear hn
  go_loopw [4, 5] (fun cv iv wr => ∃ i : Nat, i ≤ n ∧ iv = .int .i64 i ∧ cv = .int .i64 (cntD g i : Nat) ∧ wr = w2) (fun _ iv _ => n - (intOf iv).toNat)
  case atStart => exact ⟨0, by omega, rfl, rfl, rfl⟩
  case round =>
    obtain ⟨i, hi, rfl, rfl, rfl⟩ := hrel
    by_cases hlt : i < n
    · obtain ⟨bt, rfl, hbt, hcs⟩ := HT.out.view (by omega)
      have hle := HT.out.le
      obtain ⟨e0, e1, _, _⟩ := hcs i hlt
      clear hcs
      have hcl := cntD_le g i
      have HC : Hid (cntD g (i + 1) = cntD g i + if (whatG g (i : Int)).1 = 7 ∧ (whatG g (i : Int)).2.1 = 0 then 1 else 0) := Lib.hid rfl
      by_cases a1 : (whatG g (i : Int)).1 = 7
      · have u1 : ((whatG g (i : Int)).1 == 7) = true := by simp [a1]
        by_cases a2 : (whatG g (i : Int)).2.1 = 0
        · have u2 : ((whatG g (i : Int)).2.1 == 0) = true := by simp [a2]
          have HR : Hid (cntD g (i + 1) = cntD g i + 1) := Lib.hid (by rw [HC.out, if_pos ⟨a1, a2⟩])
          clear a1 a2 HC
          generalize whatG g (i : Int) = h at *
          obtain ⟨x, y, z⟩ := h
          generalize cntD g i = c at *
          go_wp2_with fail
          go_roundw
          case rel => exact ⟨i + 1, by omega, by go_num, by rw [HR.out]; go_num, by first | rfl | trivial⟩
          case measure => simp [intOf]; omega
        · have u2 : ((whatG g (i : Int)).2.1 == 0) = false := by simp [a2]
          have HR : Hid (cntD g (i + 1) = cntD g i) := Lib.hid (by rw [HC.out, if_neg fun z => a2 z.2]; rfl)
          clear a1 a2 HC
          generalize whatG g (i : Int) = h at *
          obtain ⟨x, y, z⟩ := h
          generalize cntD g i = c at *
          go_wp2_with fail
          go_roundw
          case rel => exact ⟨i + 1, by omega, by go_num, by rw [HR.out], by first | rfl | trivial⟩
          case measure => simp [intOf]; omega
      · have u1 : ((whatG g (i : Int)).1 == 7) = false := by simp [a1]
        have HR : Hid (cntD g (i + 1) = cntD g i) := Lib.hid (by rw [HC.out, if_neg fun z => a1 z.1]; rfl)
        clear a1 HC
        generalize whatG g (i : Int) = h at *
        obtain ⟨x, y, z⟩ := h
        generalize cntD g i = c at *
        go_wp2_with fail
        go_roundw
        case rel => exact ⟨i + 1, by omega, by go_num, by rw [HR.out], by first | rfl | trivial⟩
        case measure => simp [intOf]; omega
    · obtain rfl : i = n := by omega
      clear hlt
      go_wp2_with fail
      go_ret
      exact ⟨by rw [← CA.out]; rfl, HB.out.1⟩
end Go.Proofs.YtmlmpflfejbbcaaDoor
