import Derived.Test.YtinpdomcfijnmaaSloN
namespace Go.Proofs.Ytinpdomcfijnmaa
open Go.RowKit

/-! SlotsPlay: holds. -/
theorem used_dec {X : Blk} {k n : Nat} (h : (slotS X k).ino = n) : usedS X k = decide ((0 : Int) < (n : Int)) := by
  unfold usedS
  rw [h, Bool.eq_iff_iff, decide_eq_true_iff]
  simp
  omega
set_option maxRecDepth 100000 in
set_option maxHeartbeats 4000000 in
theorem sHolds (hS : SlotsSays) (X : Blk) (A : Option Addr) (c : Nat) (l : List Entry) (w : World) (hP : PL X l) (hT : TurnsAt w A l) : Calls Try.prog 22 #[.agg (arr X), .slice A l.length c] w fun e w' => e = .returned (.bool true) ∧ Below w.heap.size w w' := by
  have V := Lib.hid (show BVar (w.alloc (.cells (arr X) 23)) w.heap.size X from heap_alloc_new w _)
  have B := Lib.hid (below_new w (.cells (arr X) 23))
  have CL := Lib.hid fun W => hS.list X W
  have HS := Lib.hid hS
  have P := Lib.hid hP
  have HT := Lib.hid hT
  have l8 := hP.le
  clear hS hP hT
  go_enter Try.func22, Try.ntmps22
  go_upto_region 1 with fail
  generalize w.alloc (.cells (arr X) 23) = w1 at V B ⊢
  go_upto_region 4 with (first
    | (refine load_blk rfl (.tmp 2) rfl w.heap.size 0 rfl X V.out.at ?_)
    | (go_at_call 11; with_reducible refine (CL.out _).mono ?_; rintro e w2 ⟨hl, hb⟩; obtain ⟨A', c', rfl, hown⟩ := hl.own P.out.right))
  obtain ⟨g, rfl, _, hgr⟩ := own_gr hown
  have V2 := Lib.hid (V.out.below hb)
  have B2 := Lib.hid (low_go B.out hb)
  have G2 := Lib.hid hgr
  clear hb hl hown hgr V B CL
  go_wp2_with fail
  go_loopw [7, 8] (fun nv iv wr => ∃ k : Nat, k ≤ 8 ∧ nv = .int .i64 (cntN (usedS X) k) ∧ iv = .int .i64 k ∧ wr = w2) (fun _ iv _ => 8 - (intOf iv).toNat)
  case atStart => exact ⟨0, by omega, rfl, rfl, rfl⟩
  case round =>
    obtain ⟨k, hk, rfl, rfl, hw⟩ := hrel
    subst hw
    have nk := cntN_le (p := usedS X) k
    obtain ⟨n, hn⟩ : ∃ n, cntN (usedS X) k = n := ⟨_, rfl⟩
    rw [hn] at nk ⊢
    by_cases hlt : k < 8
    · have g0 : (0 : Int) ≤ (k : Int) := by omega
      have g1 : (k : Int) < 8 := by omega
      have d0 := (G2.out.at_ k hlt).ino
      obtain ⟨ik, hik⟩ : ∃ ik, (slotS X k).ino = ik := ⟨_, rfl⟩
      rw [hik] at d0
      by_cases z : ik = 0
      · have z1 : decide ((0 : Int) < (ik : Int)) = false := by simp; omega
        have E := Lib.hid (show cntN (usedS X) (k + 1) = n by unfold cntN; rw [hn, used_dec hik, z1]; simp)
        subst z
        clear hik hn
        go_wp2_with fail
        go_roundw
        case rel => exact ⟨k + 1, by omega, by rw [E.out], by congr 1, trivial⟩
        case measure => simp [intOf]; omega
      · have z1 : decide ((0 : Int) < (ik : Int)) = true := by simp; omega
        have z2 : (0 : Int) < (ik : Int) := by omega
        have E := Lib.hid (show cntN (usedS X) (k + 1) = n + 1 by unfold cntN; rw [hn, used_dec hik, z1]; simp)
        clear hik hn z
        go_wp2_with fail
        go_roundw
        case rel => exact ⟨k + 1, by omega, by rw [E.out]; congr 1, by congr 1, trivial⟩
        case measure => simp [intOf]; omega
    · obtain rfl : k = 8 := by omega
      obtain rfl : n = l.length := by rw [← hn]; exact P.out.cnt
      clear hn nk hlt hk
      go_wp2_with fail
      go_loopw [9] (fun iv wz => ∃ i : Nat, i ≤ l.length ∧ iv = .int .i64 i ∧ Hid (BVar wz w.heap.size X) ∧ Hid (GR wz g (slotS X)) ∧ Hid (Below w.heap.size w wz)) (fun iv _ => l.length - (intOf iv).toNat)
      case atStart => exact ⟨0, Nat.zero_le _, rfl, V2, G2, B2⟩
      case round =>
        obtain ⟨i, hi, rfl, V3, G3, B3⟩ := hrel
        clear V2 G2 B2
        by_cases hil : i < l.length
        rotate_left
        · obtain rfl : i = l.length := by omega
          have q1 : ¬ (l.length : Int) < (l.length : Int) := by omega
          go_wp2_with fail
          go_ret
          exact ⟨rfl, B3.out⟩
        obtain ⟨⟨nm, n⟩, hp⟩ : ∃ p, l[i]? = some p := ⟨l[i], List.getElem?_eq_getElem hil⟩
        have hp2 : l[i] = (nm, n) := by rw [List.getElem?_eq_getElem hil] at hp; exact Option.some.inj hp
        obtain ⟨a, hwa, hna⟩ := P.out.mem i hil
        rw [hp2] at hwa hna
        have hwa : whereN X nm = some a := hwa
        have hna : (slotS X a).ino = n := hna
        obtain ⟨a8, a0, an⟩ := (where_some P.out.right).1 hwa
        obtain ⟨b, o, rfl, hbl, hc⟩ := HT.out (by omega)
        have C1 : Hid (∀ w', Below w.heap.size w w' → w'.cell? ⟨b, o + i * 2, none⟩ = some (.string nm)) := Lib.hid fun w' h => (h.cell (p := ⟨b, o + i * 2, none⟩) hbl).trans (hc i _ hp).1
        have C2 : Hid (∀ w', Below w.heap.size w w' → w'.cell? ⟨b, o + i * 2 + 1, none⟩ = some (.int .u32 ((n : Nat) : Int))) := Lib.hid fun w' h => (h.cell (p := ⟨b, o + i * 2 + 1, none⟩) hbl).trans (hc i _ hp).2.1
        have CF : Hid (∀ W, Calls Try.prog 13 #[.agg (arr X), .string nm] W fun e w' => e = .returned (.tuple #[.int .i64 (a : Int), .int .u32 (n : Int)]) ∧ Below W.heap.size W w') := Lib.hid fun W => by
          have := HS.out.find X nm W
          rw [find_at P.out.right a8 a0 an, hna] at this
          exact this
        have i0 : (0 : Int) ≤ (i : Int) := by omega
        have i1 : (i : Int) < (l.length : Int) := by omega
        have x0 : (0 : Int) ≤ (a : Int) := by omega
        have x1 : (a : Int) < 8 := by omega
        have x2 : decide ((a : Int) < 0) = false := by simp
        have bn : (((n : Nat) : Int) != ((n : Nat) : Int)) = false := by simp
        have bs : (nm.toList != nm.toList) = false := by simp
        have GN : Hid (∀ w', More wr w' → w'.cell? ⟨g, a * 2 + 1, none⟩ = some (.string nm)) := Lib.hid fun w' h => by rw [← an]; exact ((G3.out.below h).at_ a a8).name
        have GI : Hid (∀ w', More wr w' → w'.cell? ⟨g, a * 2, none⟩ = some (.int .u32 ((n : Nat) : Int))) := Lib.hid fun w' h => by rw [← hna]; exact ((G3.out.below h).at_ a a8).ino
        clear hp hp2 hwa hna a0 an hbl hc
        go_upto_region 13 with fail
        refine wp_region_class (More wr) (by kernel_rfl) (by kernel_rfl) (More.drew _) ?_
        repeat (first | go_big_quiet_skip | (go_big_quiet_want; first | (refine quiet_load _ rfl _ _ rfl X (by intro w' hw'; exact (V3.out.below hw').at) ?_; simp only [Act.put, List.setIfInBounds_toArray, List.set_cons_zero, List.set_cons_succ]; go_big_quiet_on) | (refine quiet_str _ rfl _ rfl _ (by intro w' hw'; exact C1.out w' (low_go B3.out hw')) ?_; simp only [Act.put, List.setIfInBounds_toArray, List.set_cons_zero, List.set_cons_succ]; go_big_quiet_on) | (go_big_quiet_op; first | go_big_quiet_on | (apply Exists.intro; refine ⟨fun _ _ => ?_, ?_⟩; (with_reducible exact rfl); go_big_quiet_on) | go_big_quiet_call ((intro hC; (with_reducible refine (CF.out _).mono ?_); exact fun e w' h => ⟨h.1, hC.on h.2⟩)))))
        refine wpQuiet_nil ?_
        intro w4 hw4
        have V4 := Lib.hid (V3.out.below hw4)
        have G4 := Lib.hid (G3.out.below hw4)
        have B4 := Lib.hid (low_go B3.out hw4)
        have GN4 : Hid (∀ w', More w4 w' → w'.cell? ⟨g, a * 2 + 1, none⟩ = some (.string nm)) := Lib.hid fun w' h => GN.out w' (More.on hw4 h)
        have GI4 : Hid (∀ w', More w4 w' → w'.cell? ⟨g, a * 2, none⟩ = some (.int .u32 ((n : Nat) : Int))) := Lib.hid fun w' h => GI.out w' (More.on hw4 h)
        clear hw4 GN GI V3 G3 B3 CF
        go_upto_region 14 with fail
        refine wp_region_class (More w4) (by kernel_rfl) (by kernel_rfl) (More.drew _) ?_
        repeat (first | go_big_quiet_skip | (go_big_quiet_want; first | (refine quiet_str _ rfl _ rfl _ (by intro w' hw'; first | exact C1.out w' (low_go B4.out hw') | exact GN4.out w' hw') ?_; simp only [Act.put, List.setIfInBounds_toArray, List.set_cons_zero, List.set_cons_succ]; go_big_quiet_on) | (refine quiet_u32 _ rfl _ rfl _ (by intro w' hw'; first | exact C2.out w' (low_go B4.out hw') | exact GI4.out w' hw') ?_; simp only [Act.put, List.setIfInBounds_toArray, List.set_cons_zero, List.set_cons_succ]; go_big_quiet_on) | (go_big_quiet_op; first | go_big_quiet_on | (apply Exists.intro; refine ⟨fun _ _ => ?_, ?_⟩; (with_reducible exact rfl); go_big_quiet_on))))
        refine wpQuiet_nil ?_
        intro w5 hw5
        have V5 := Lib.hid (V4.out.below hw5)
        have G5 := Lib.hid (G4.out.below hw5)
        have B5 := Lib.hid (low_go B4.out hw5)
        clear hw5
        go_wp2_with fail
        go_roundw
        case rel => exact ⟨i + 1, by omega, by congr 1, V5, G5, B5⟩
        case measure => simp [intOf]; omega
end Go.Proofs.Ytinpdomcfijnmaa
