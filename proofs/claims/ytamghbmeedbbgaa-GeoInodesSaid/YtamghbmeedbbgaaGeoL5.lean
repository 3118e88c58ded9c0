import Derived.Test.YtamghbmeedbbgaaGeoM3
import Derived.Test.YtamghbmeedbbgaaGeoL2
namespace Go.Proofs.Ytamghbmeedbbgaa
open Go.RowKit

/-! GeoPlaces. -/
def placeG (g : GeoV) (a : Int) : Int := (inodeG g a).1 * 256 + (inodeG g a).2
theorem place_home {g : GeoV} {a : Int} (h : inInode g a = true) : placeG g a = 256 * (4 + g.jr + (homeG g a).1 * g.sz) + 64 * (homeG g a).2 := by
  unfold placeG
  rw [inode_in h]
  obtain ⟨h1, h2, h3, h4⟩ := home_bounds h
  generalize (homeG g a).1 * g.sz = q
  generalize (homeG g a).2 = i at *
  simp only
  omega
theorem place_next {g : GeoV} {a : Int} (h : inInode g a = true) (h' : inInode g (a + 1) = true) : placeG g a < placeG g (a + 1) := by
  rw [place_home h, place_home h']
  have e1 := home_back h
  have e2 := home_back h'
  obtain ⟨a1, a2, a3, a4⟩ := home_bounds h
  obtain ⟨b1, b2, b3, b4⟩ := home_bounds h'
  obtain ⟨hm, _, _⟩ := in_may h
  obtain ⟨m1, m2, m3, m4, m5, m6, m7, m8, m9, m10, m11⟩ := hm
  generalize (homeG g a).1 = q at *
  generalize (homeG g a).2 = i at *
  generalize (homeG g (a + 1)).1 = q' at *
  generalize (homeG g (a + 1)).2 = i' at *
  have e3 : q' * g.ino + i' = q * g.ino + i + 1 := by omega
  rcases Int.lt_trichotomy q q' with u | u | u
  · have k1 : q * g.sz + g.sz ≤ q' * g.sz := by
      have := Int.mul_le_mul_of_nonneg_right (show q + 1 ≤ q' by omega) (show 0 ≤ g.sz by omega)
      rw [Int.add_mul, Int.one_mul] at this
      exact this
    omega
  · subst u; omega
  · exfalso
    have k1 : q' * g.ino + g.ino ≤ q * g.ino := by
      have := Int.mul_le_mul_of_nonneg_right (show q' + 1 ≤ q by omega) (show 0 ≤ g.ino by omega)
      rw [Int.add_mul, Int.one_mul] at this
      exact this
    omega
theorem what_inode {g : GeoV} {a : Int} (h : inInode g a = true) : whatG g (inodeG g a).1 = (6, (homeG g a).1, 2 + (homeG g a).2 / 4) := by
  rw [inode_in h]
  obtain ⟨h1, h2, h3, h4⟩ := home_bounds h
  have hm := (in_may h).1
  rw [what_at hm h1 h2 (by omega) (by have := hm.2.2.2.2.2.2.1; have := hm.2.2.2.2.2.2.2.2.2.1; omega)]
  unfold kindG
  rw [if_neg (by omega), if_neg (by omega), if_pos (by have := hm.2.2.2.2.2.2.1; omega)]
theorem inode_fits {g : GeoV} {a : Int} (h : inInode g a = true) : 0 ≤ (inodeG g a).1 ∧ (inodeG g a).1 ≤ 4096 := by
  rw [inode_in h]
  obtain ⟨h1, h2, h3, h4⟩ := home_bounds h
  obtain ⟨hm, _, _⟩ := in_may h
  obtain ⟨m1, m2, m3, m4, m5, m6, m7, m8, m9, m10, m11⟩ := hm
  have k1 : (homeG g a).1 * g.sz ≤ 4 * 512 := Int.mul_le_mul (by omega) m4 (by omega) (by omega)
  have k2 : 0 ≤ (homeG g a).1 * g.sz := Int.mul_nonneg h1 (by omega)
  simp only
  omega
theorem inodes_fits (g : GeoV) : 0 ≤ inodesG g ∧ inodesG g ≤ 256 := by
  unfold inodesG
  split
  · rename_i hm
    have k1 : g.gr * g.ino ≤ 4 * 64 := Int.mul_le_mul hm.2.1 hm.2.2.2.2.2.1 (by have := hm.2.2.2.2.1; omega) (by omega)
    have k2 : 0 ≤ g.gr * g.ino := Int.mul_nonneg (by have := hm.1; omega) (by have := hm.2.2.2.2.1; omega)
    omega
  · omega

set_option maxRecDepth 100000 in
set_option maxHeartbeats 2000000 in
theorem geoPlaces_any (hS : GeoSays) (g : GeoV) (w : World) (h1 : g.Fits) : Calls Try.prog 6 #[.agg (gcs g)] w fun e w' => e = .returned (.bool true) ∧ Below w.heap.size w w' := by
  have HS := Lib.hid hS
  have H1 := Lib.hid h1
  have P0 : Hid (GP w g (w.alloc (.cells (gcs g) 23))) := Lib.hid ⟨(Below.refl w.heap.size w).alloc (Nat.le_refl _) (.cells (gcs g) 23), heap_alloc_new w _⟩
  have hn := inodes_fits g
  have CN : Hid (∀ W, Calls Try.prog 18 #[.agg (gcs g)] W fun e w' => e = .returned (.int .i64 (inodesG g)) ∧ Below W.heap.size W w') := Lib.hid fun W => HS.out.inodes g W H1.out
  have CE : Hid (∀ W, Calls Try.prog 22 #[.agg (gcs g), .int .i64 (inodesG g + 1)] W fun e w' => e = .returned (.tuple #[.int .i64 0, .int .i64 0, .bool false]) ∧ Below W.heap.size W w') := Lib.hid fun W => (HS.out.inode g (inodesG g + 1) W H1.out (by unfold I64; omega)).mono fun e w' q => by
    have hf : inInode g (inodesG g + 1) = false := by unfold inInode; simp; omega
    rw [hf] at q
    exact ⟨by rw [q.1]; unfold inodeG; rw [hf]; rfl, q.2⟩
  have CZ : Hid (∀ W, Calls Try.prog 24 #[.agg (gcs g), .int .i64 0] W fun e w' => e = .returned (.tuple #[.int .i64 0, .int .i64 0, .bool false]) ∧ Below W.heap.size W w') := Lib.hid fun W => (HS.out.home g 0 W H1.out (by unfold I64; omega)).mono fun e w' q => by
    have hf : inInode g 0 = false := by unfold inInode; simp
    rw [hf] at q
    exact ⟨by rw [q.1]; unfold homeG; rw [hf]; rfl, q.2⟩
  have IN : Hid (∀ a, 1 ≤ a → a ≤ inodesG g → inInode g a = true) := Lib.hid fun a p q => by unfold inInode; exact decide_eq_true ⟨p, q⟩
  clear hS h1
  generalize inodesG g = N at *
  go_enter Try.func6, Try.ntmps6
  go_wp2_with fail
  generalize w.alloc (.cells (gcs g) 23) = w1 at P0 ⊢
  refine (gAwake_any HS.out w1).mono ?_
  rintro e w2 ⟨rfl, hb⟩
  have P := Lib.hid (P0.out.step hb)
  clear hb P0
  go_wp2_with (first
    | (refine load_geo rfl (.tmp 1) rfl w.heap.size 0 rfl g P.out.2.at ?_)
    | (go_at_call 18; with_reducible refine (CN.out _).mono ?_; rintro e wn ⟨rfl, hb⟩; have P := Lib.hid (P.out.step hb); clear hb))
  go_loopw [4, 5] (fun lv iv wr => ∃ a L : Int, 1 ≤ a ∧ a ≤ N + 1 ∧ -1 ≤ L ∧ L ≤ 2000000 ∧ lv = .int .i64 L ∧ iv = .int .i64 a ∧ Hid (a ≤ N → L < placeG g a) ∧ Hid (GP w g wr)) (fun _ iv _ => (N + 1 - intOf iv).toNat)
  case atStart =>
    refine ⟨1, -1, by omega, by omega, by omega, by omega, rfl, rfl, Lib.hid fun h => ?_, P⟩
    have hi := IN.out 1 (by omega) h
    rw [place_home hi]
    obtain ⟨b1, b2, b3, b4⟩ := home_bounds hi
    have hm := (in_may hi).1
    have : 0 ≤ (homeG g 1).1 * g.sz := Int.mul_nonneg b1 (by have := hm.2.2.1; omega)
    have := hm.2.2.2.2.2.2.2.1
    omega
  case round =>
    obtain ⟨a, L, a1, a2, l1, l2, rfl, rfl, HL, P⟩ := hrel
    by_cases hlt : a ≤ N
    · have t1 : decide (a ≤ N) = true := decide_eq_true hlt
      have hi := IN.out a a1 hlt
      have a64 : I64 a := by unfold I64; omega
      obtain ⟨b1, b2, b3, b4⟩ := home_bounds hi
      have hm := (in_may hi).1
      have b5 : (homeG g a).1 < 4 := by have := hm.2.1; omega
      have b6 : (homeG g a).2 < 64 := by have := hm.2.2.2.2.2.1; omega
      have hf := inode_fits hi
      have hpl : (inodeG g a).2 = (homeG g a).2 % 4 * 64 := by rw [inode_in hi]
      have CI : Hid (∀ W, Calls Try.prog 22 #[.agg (gcs g), .int .i64 a] W fun e w' => e = .returned (.tuple #[.int .i64 (inodeG g a).1, .int .i64 ((homeG g a).2 % 4 * 64), .bool true]) ∧ Below W.heap.size W w') := Lib.hid fun W => (HS.out.inode g a W H1.out a64).mono fun e w' q => ⟨by rw [q.1, hi, hpl], q.2⟩
      have CH : Hid (∀ W, Calls Try.prog 24 #[.agg (gcs g), .int .i64 a] W fun e w' => e = .returned (.tuple #[.int .i64 (homeG g a).1, .int .i64 (homeG g a).2, .bool true]) ∧ Below W.heap.size W w') := Lib.hid fun W => (HS.out.home g a W H1.out a64).mono fun e w' q => ⟨by rw [q.1, hi], q.2⟩
      have CW : Hid (∀ W, Calls Try.prog 12 #[.agg (gcs g), .int .i64 (inodeG g a).1] W fun e w' => e = .returned (.tuple #[.int .u8 6, .int .i64 (homeG g a).1, .int .i64 (2 + (homeG g a).2 / 4)]) ∧ Below W.heap.size W w') := Lib.hid fun W => (HS.out.what g (inodeG g a).1 W H1.out (by unfold I64; omega)).mono fun e w' q => ⟨by rw [q.1, what_inode hi], q.2⟩
      have CM : Hid (∀ W, Calls Try.prog 27 #[.agg (gcs g), .int .i64 (homeG g a).1, .int .i64 (homeG g a).2] W fun e w' => e = .returned (.int .i64 a) ∧ Below W.heap.size W w') := Lib.hid fun W => (HS.out.number g _ _ W H1.out (by unfold I64; omega) (by unfold I64; omega)).mono fun e w' q => ⟨by rw [q.1, number_home hi], q.2⟩
      have hnx : a + 1 ≤ N → placeG g a < placeG g (a + 1) := fun h => place_next hi (IN.out (a + 1) (by omega) h)
      have hlt2 := HL.out hlt
      have hpd : placeG g a = (inodeG g a).1 * 256 + (homeG g a).2 % 4 * 64 := by unfold placeG; rw [hpl]
      rw [hpd] at hnx hlt2
      have HNX := Lib.hid hnx
      clear hi hm hpl hnx hpd HL b4
      generalize (inodeG g a).1 = bl at *
      generalize homeG g a = h at *
      obtain ⟨q, i⟩ := h
      simp only at b1 b3 b5 b6 hlt2
      have t2 : (q != q) = false := by simp
      have t3 : (2 + i / 4 != 2 + i / 4) = false := by simp
      have t4 : (i % 4 * 64 != i % 4 * 64) = false := by simp
      have t5 : decide (bl * 256 + i % 4 * 64 ≤ L) = false := decide_eq_false (by omega)
      have t6 : (a != a) = false := by simp
      go_wp2_with (first
        | (refine load_geo rfl (.tmp 1) rfl w.heap.size 0 rfl g P.out.2.at ?_)
        | (refine load_geo_w (by rfl) (.tmp 1) rfl w.heap.size 0 rfl g P.out.2.at ?_)
        | (go_at_call 22; with_reducible refine (CI.out _).mono ?_; rintro e wn ⟨rfl, hb⟩; have P := Lib.hid (P.out.step hb); clear hb)
        | (go_at_call 24; with_reducible refine (CH.out _).mono ?_; rintro e wn ⟨rfl, hb⟩; have P := Lib.hid (P.out.step hb); clear hb)
        | (go_at_call 12; with_reducible refine (CW.out _).mono ?_; rintro e wn ⟨rfl, hb⟩; have P := Lib.hid (P.out.step hb); clear hb)
        | (go_at_call 27; with_reducible refine (CM.out _).mono ?_; rintro e wn ⟨rfl, hb⟩; have P := Lib.hid (P.out.step hb); clear hb))
      go_roundw
      case rel => exact ⟨a + 1, bl * 256 + i % 4 * 64, by omega, by omega, by omega, by omega, by go_num, by go_num, HNX, P⟩
      case measure => simp [intOf]; omega
    · have t1 : decide (a ≤ N) = false := decide_eq_false hlt
      obtain rfl : a = N + 1 := by omega
      go_wp2_with (first
        | (refine load_geo rfl (.tmp 1) rfl w.heap.size 0 rfl g P.out.2.at ?_)
        | (go_at_call 22; with_reducible refine (CE.out _).mono ?_; rintro e wn ⟨rfl, hb⟩; have P := Lib.hid (P.out.step hb); clear hb)
        | (go_at_call 24; with_reducible refine (CZ.out _).mono ?_; rintro e wn ⟨rfl, hb⟩; have P := Lib.hid (P.out.step hb); clear hb))
      go_ret
      exact ⟨rfl, P.out.1⟩
end Go.Proofs.Ytamghbmeedbbgaa
