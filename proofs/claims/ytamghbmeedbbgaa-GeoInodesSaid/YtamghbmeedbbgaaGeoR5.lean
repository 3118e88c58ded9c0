import Derived.Test.YtamghbmeedbbgaaGeoR4
namespace Go.Proofs.Ytamghbmeedbbgaa
open Go.RowKit

/-! The document's own answers: Inode, Home. -/
def hit (g : GeoV) (n : Int) (b : Nat) : Prop := (whatG g (b : Int)).1 = 6 ∧ inoW g b ≤ n ∧ n < inoW g b + 4
set_option maxRecDepth 100000 in
set_option maxHeartbeats 1000000 in
theorem rInode (g : GeoV) (m : Int) (w : World) (hm64 : I64 m) : Calls Try.prog 23 #[.agg (gcs g), .int .i64 m] w fun e w' => e = .returned (.tuple #[.int .i64 (inodeG g m).1, .int .i64 (inodeG g m).2, .bool (inInode g m)]) ∧ Below w.heap.size w w' := by
  have P0 := Lib.hid (gp_start w g)
  have BF := Lib.hid (blocks_fits g)
  obtain ⟨n, hn⟩ : ∃ n, (blocksG g).toNat = n := ⟨_, rfl⟩
  have HN : Hid (blocksG g = (n : Int)) := Lib.hid (by have := BF.out; omega)
  have n2 : n ≤ 2048 := by have := BF.out; omega
  have H64 := Lib.hid hm64
  clear hm64
  go_enter Try.func23, Try.ntmps23
  go_wp2_with (first
    | (refine load_geo rfl (.tmp 2) rfl w.heap.size 0 rfl g P0.out.2.at ?_)
    | (go_at_call 30; refine (rAll g _).mono ?_; rintro e w2 ⟨v, rfl, hT⟩; have HB := Lib.hid (P0.out.step hT.gp.1); rw [hn] at hT; obtain ⟨A, cap, rfl, hth⟩ := hT.things; have HT := Lib.hid hth; clear hth hT))
  clear hn
  go_loopw [8] (fun iv wr => ∃ i : Nat, i ≤ n ∧ iv = .int .i64 i ∧ wr = w2 ∧ Hid (∀ j : Nat, j < i → ¬ hit g m j)) (fun iv _ => n - (intOf iv).toNat)
  case atStart => exact ⟨0, by omega, rfl, rfl, Lib.hid fun j h => by omega⟩
  case round =>
    obtain ⟨i, hi, rfl, rfl, HNO⟩ := hrel
    by_cases hlt : i < n
    · obtain ⟨bt, rfl, hbt, hcs⟩ := HT.out.view (by omega)
      have hle := HT.out.le
      obtain ⟨e0, _, _, e3⟩ := hcs i hlt
      clear hcs
      have hbi : (i : Int) < blocksG g := by rw [HN.out]; omega
      obtain ⟨f1, f2⟩ := ino_fits hbi
      have HF := Lib.hid (fun a1 a2 a3 => what_six hbi a1 (n := m) a2 a3)
      have HNX : ¬ hit g m i → Hid (∀ j : Nat, j < i + 1 → ¬ hit g m j) := fun h => Lib.hid fun j hj => by
        rcases Nat.lt_or_ge j i with u | u
        · exact HNO.out j u
        · obtain rfl : j = i := by omega
          exact h
      unfold hit at HNX
      clear hbi
      by_cases a1 : (whatG g (i : Int)).1 = 6
      · have u1 : ((whatG g (i : Int)).1 == 6) = true := by simp [a1]
        by_cases a2 : inoW g i ≤ m
        · have u2 : decide (inoW g i ≤ m) = true := decide_eq_true a2
          by_cases a3 : m < inoW g i + 4
          · have u3 : decide (m < inoW g i + 4) = true := decide_eq_true a3
            have HR := Lib.hid (HF.out a1 a2 a3)
            have r1 : 0 ≤ m - inoW g i := by omega
            have r2 : m - inoW g i ≤ 3 := by omega
            clear a1 a2 a3 HNX HF HNO
            generalize whatG g (i : Int) = h at *
            obtain ⟨x, y, z⟩ := h
            generalize inoW g i = o at *
            go_upto_region 6 with fail
            go_region
            go_wp2
            refine bodyPost_ret (v := .tuple #[.int .i64 i, .int .i64 (64 * (m - o)), .bool true]) (by simp [results, Try.f23, go_sem]) rfl ⟨by rw [HR.out.1, HR.out.2], HB.out.1.drew⟩
          · have u3 : decide (m < inoW g i + 4) = false := decide_eq_false a3
            replace HNX := HNX fun z => a3 z.2.2
            clear a1 a2 a3 HF HNO
            generalize whatG g (i : Int) = h at *
            obtain ⟨x, y, z⟩ := h
            generalize inoW g i = o at *
            go_wp2_with fail
            go_roundw
            case rel => exact ⟨i + 1, by omega, by go_num, by first | rfl | trivial, by unfold hit; exact HNX⟩
            case measure => simp [intOf]; omega
        · have u2 : decide (inoW g i ≤ m) = false := decide_eq_false a2
          replace HNX := HNX fun z => a2 z.2.1
          clear a1 a2 HF HNO
          generalize whatG g (i : Int) = h at *
          obtain ⟨x, y, z⟩ := h
          generalize inoW g i = o at *
          go_wp2_with fail
          go_roundw
          case rel => exact ⟨i + 1, by omega, by go_num, by first | rfl | trivial, by unfold hit; exact HNX⟩
          case measure => simp [intOf]; omega
      · have u1 : ((whatG g (i : Int)).1 == 6) = false := by simp [a1]
        replace HNX := HNX fun z => a1 z.1
        clear a1 HF HNO
        generalize whatG g (i : Int) = h at *
        obtain ⟨x, y, z⟩ := h
        generalize inoW g i = o at *
        go_wp2_with fail
        go_roundw
        case rel => exact ⟨i + 1, by omega, by go_num, by first | rfl | trivial, by unfold hit; exact HNX⟩
        case measure => simp [intOf]; omega
    · obtain rfl : i = n := by omega
      have hno : inInode g m = false := by
        cases hg : inInode g m
        · rfl
        · obtain ⟨b, b1, b2, b3, b4⟩ := six_there hg
          rw [HN.out] at b1
          exact absurd ⟨b2, b3, b4⟩ (HNO.out b (by omega))
      have HR : Hid (inodeG g m = (0, 0) ∧ inInode g m = false) := Lib.hid ⟨by unfold inodeG; rw [hno]; rfl, hno⟩
      clear hno hlt
      go_wp2_with fail
      refine bodyPost_ret (v := .tuple #[.int .i64 0, .int .i64 0, .bool false]) (by simp [results, Try.f23, go_sem]) rfl ⟨by rw [HR.out.1, HR.out.2], HB.out.1⟩
/-- The numbers that have been gone through. -/
theorem home_of {g : GeoV} (hm : May g) {q i : Nat} (hq : (q : Int) < g.gr) (hi : (i : Int) < g.ino) {n : Int} (h : n = q * g.ino + i + 1) : inInode g n = true ∧ homeG g n = ((q : Int), (i : Int)) := by
  have hm' := hm
  obtain ⟨m1, m2, m3, m4, m5, m6, m7, m8, m9, m10, m11⟩ := hm'
  have hq2 := Int.mul_le_mul_of_nonneg_right (show (q : Int) + 1 ≤ g.gr by omega) (show 0 ≤ g.ino by omega)
  rw [Int.add_mul, Int.one_mul] at hq2
  have hq0 : 0 ≤ (q : Int) * g.ino := Int.mul_nonneg (by omega) (by omega)
  have hin : inInode g n = true := by
    unfold inInode inodesG
    rw [if_pos hm]
    exact decide_eq_true ⟨by omega, by omega⟩
  refine ⟨hin, ?_⟩
  rw [home_in hin, show n - 1 = (i : Int) + q * g.ino by omega, Int.add_mul_ediv_right _ _ (by omega), Int.ediv_eq_zero_of_lt (by omega) hi, Int.zero_add, Int.add_mul_emod_self_right, Int.emod_eq_of_lt (by omega) hi]
set_option maxRecDepth 100000 in
set_option maxHeartbeats 1000000 in
theorem rHome (g : GeoV) (n : Int) (w : World) : Calls Try.prog 25 #[.agg (gcs g), .int .i64 n] w fun e w' => e = .returned (.tuple #[.int .i64 (homeG g n).1, .int .i64 (homeG g n).2, .bool (inInode g n)]) ∧ Below w.heap.size w w' := by
  have P0 := Lib.hid (gp_start w g)
  by_cases hm : May g
  · have CM := Lib.hid (fun W => rMay_yes hm W)
    have HM := Lib.hid hm
    have EI : Hid (inodesG g = g.gr * g.ino) := Lib.hid (if_pos hm)
    obtain ⟨m1, m2, m3, m4, m5, m6, m7, m8, m9, m10, m11⟩ := hm
    clear m3 m4 m7 m8 m9 m10 m11
    go_enter Try.func25, Try.ntmps25
    go_wp2_with (first
      | (refine load_geo rfl (.tmp 2) rfl w.heap.size 0 rfl g P0.out.2.at ?_)
      | (go_at_call 15; with_reducible refine (CM.out _).mono ?_; rintro e w2 ⟨rfl, hb⟩; have P := Lib.hid (P0.out.step hb); clear hb))
    clear P0
    go_loopw [7] (fun gv wr => ∃ q : Nat, (q : Int) ≤ g.gr ∧ gv = .int .i64 q ∧ Hid (n < 1 ∨ (q : Int) * g.ino < n) ∧ Hid (GP w g wr)) (fun gv _ => (g.gr - intOf gv).toNat)
    case atStart => exact ⟨0, by omega, rfl, Lib.hid (by simp; omega), P⟩
    case round =>
      obtain ⟨q, hq, rfl, HX, P⟩ := hrel
      have c0 := P.out.2.c0
      by_cases hlt : (q : Int) < g.gr
      · have t1 : decide ((q : Int) < g.gr) = true := decide_eq_true hlt
        have QN : Hid (((q + 1 : Nat) : Int) * g.ino = q * g.ino + g.ino) := Lib.hid (by rw [Int.natCast_add, Int.add_mul]; simp)
        have HQ := Lib.hid hlt
        go_wp2_with fail
        clear hlt
        go_loopw [8] (fun iv wr => ∃ i : Nat, (i : Int) ≤ g.ino ∧ iv = .int .i64 i ∧ Hid (n < 1 ∨ (q : Int) * g.ino + i < n) ∧ Hid (GP w g wr)) (fun iv _ => (g.ino - intOf iv).toNat)
        case atStart => exact ⟨0, by omega, rfl, Lib.hid (by have := HX.out; simp; omega), P⟩
        case round =>
          obtain ⟨i, hi, rfl, HX, P⟩ := hrel
          have c2 := P.out.2.c2
          by_cases hlt : (i : Int) < g.ino
          · have t1 : decide ((i : Int) < g.ino) = true := decide_eq_true hlt
            have hnum : numberG g q i = q * g.ino + i + 1 := by
              unfold numberG
              rw [if_pos ⟨decide_eq_true ⟨HM.out, by omega, HQ.out⟩, by omega, hlt⟩]
            have CN : Hid (∀ W, Calls Try.prog 26 #[.agg (gcs g), .int .i64 q, .int .i64 i] W fun e w' => e = .returned (.int .i64 (q * g.ino + i + 1)) ∧ Below W.heap.size W w') := Lib.hid fun W => (rNumber g q i W).mono fun e w' z => ⟨by rw [z.1, hnum], z.2⟩
            have HH := Lib.hid (fun h => home_of HM.out HQ.out hlt (n := n) h)
            clear hnum
            by_cases he : (q : Int) * g.ino + i + 1 = n
            · have u1 : ((q : Int) * g.ino + i + 1 == n) = true := by simp [he]
              have HR := Lib.hid (HH.out he.symm)
              clear he HH HX
              generalize (q : Int) * g.ino + i + 1 = x at *
              go_wp2_with (first
                | (refine load_geo rfl (.tmp 2) rfl w.heap.size 0 rfl g P.out.2.at ?_)
                | (go_at_call 26; with_reducible refine (CN.out _).mono ?_; rintro e w3 ⟨rfl, hb⟩; have P3 := Lib.hid (P.out.step hb); clear hb))
              refine bodyPost_ret (v := .tuple #[.int .i64 q, .int .i64 i, .bool true]) (by simp [results, Try.f25, go_sem]) rfl ⟨by rw [HR.out.1, HR.out.2], P3.out.1⟩
            · have u1 : ((q : Int) * g.ino + i + 1 == n) = false := by simp [he]
              have HX2 : Hid (n < 1 ∨ (q : Int) * g.ino + ((i + 1 : Nat) : Int) < n) := Lib.hid (by have := HX.out; omega)
              clear he HH HX
              generalize (q : Int) * g.ino + i + 1 = x at *
              go_wp2_with (first
                | (refine load_geo rfl (.tmp 2) rfl w.heap.size 0 rfl g P.out.2.at ?_)
                | (go_at_call 26; with_reducible refine (CN.out _).mono ?_; rintro e w3 ⟨rfl, hb⟩; have P3 := Lib.hid (P.out.step hb); clear hb))
              go_roundw
              case rel => exact ⟨i + 1, by omega, by go_num, HX2, P3⟩
              case measure => simp [intOf]; omega
          · have t1 : decide ((i : Int) < g.ino) = false := decide_eq_false hlt
            have HX2 : Hid (n < 1 ∨ ((q + 1 : Nat) : Int) * g.ino < n) := Lib.hid (by rw [QN.out]; have := HX.out; omega)
            clear hlt HX
            go_wp2_with fail
            go_roundw
            case rel => exact ⟨q + 1, by have := HQ.out; omega, by go_num, HX2, P⟩
            case measure =>
              have := HQ.out
              simp [intOf]; omega
      · have t1 : decide ((q : Int) < g.gr) = false := decide_eq_false hlt
        have hno : inInode g n = false := by
          unfold inInode
          rw [EI.out, show g.gr = (q : Int) by omega]
          exact decide_eq_false (by have := HX.out; omega)
        have HR : Hid (homeG g n = (0, 0) ∧ inInode g n = false) := Lib.hid ⟨by unfold homeG; rw [hno]; rfl, hno⟩
        clear hno hlt HX
        go_wp2_with fail
        refine bodyPost_ret (v := .tuple #[.int .i64 0, .int .i64 0, .bool false]) (by simp [results, Try.f25, go_sem]) rfl ⟨by rw [HR.out.1, HR.out.2], P.out.1⟩
  · have CM := Lib.hid (fun W => rMay_no hm W)
    have hno : inInode g n = false := by
      unfold inInode inodesG
      rw [if_neg hm]
      exact decide_eq_false (by omega)
    have HR : Hid (homeG g n = (0, 0) ∧ inInode g n = false) := Lib.hid ⟨by unfold homeG; rw [hno]; rfl, hno⟩
    clear hno hm
    go_enter Try.func25, Try.ntmps25
    go_wp2_with (first
      | (refine load_geo rfl (.tmp 2) rfl w.heap.size 0 rfl g P0.out.2.at ?_)
      | (go_at_call 15; with_reducible refine (CM.out _).mono ?_; rintro e w2 ⟨rfl, hb⟩; have P := Lib.hid (P0.out.step hb); clear hb))
    refine bodyPost_ret (v := .tuple #[.int .i64 0, .int .i64 0, .bool false]) (by simp [results, Try.f25, go_sem]) rfl ⟨by rw [HR.out.1, HR.out.2], P.out.1⟩
end Go.Proofs.Ytamghbmeedbbgaa
