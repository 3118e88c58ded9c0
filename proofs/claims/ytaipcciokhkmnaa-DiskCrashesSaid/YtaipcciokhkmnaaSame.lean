import Derived.Test.YtaipcciokhkmnaaFill
namespace Go.Proofs.Ytaipcciokhkmnaa
open Go.RowKit
theorem take_eq_succ {l r : List Blk} {k : Nat} (kl : k < l.length) (kr : k < r.length) (h : l.take k = r.take k) (e : l[k] = r[k]) : l.take (k + 1) = r.take (k + 1) := by
  rw [List.take_succ_eq_append_getElem kl, List.take_succ_eq_append_getElem kr, h, e]
theorem ne_of_get {l r : List Blk} {k : Nat} (kl : k < l.length) (kr : k < r.length) (e : l[k] ≠ r[k]) : l ≠ r := fun h => by subst h; exact e rfl
theorem ret_bool {a b : Bool} (h : a = b) : Ending.returned (.bool a) = .returned (.bool b) := by rw [h]
set_option maxRecDepth 100000 in
set_option maxHeartbeats 1000000 in
theorem same_all (A B : Option Addr) (c d n m : Nat) (l r : List Blk) (w : World) (hn : n = l.length) (hm : m = r.length) (hl : n ≤ 1000000) (hr : m ≤ 1000000) (hA : Img w A l) (hB : Img w B r) :
    Calls Try.prog 28 #[.slice A n c, .slice B m d] w fun e w' => e = .returned (.bool (decide (l = r))) ∧ ∃ n, w' = w.drewN n := by
  have HN := Lib.hid hn
  have HM := Lib.hid hm
  have HA := Lib.hid hA
  have HB := Lib.hid hB
  clear hn hm hA hB
  by_cases hlen : n = m
  · subst hlen
    go_enter Try.func28, Try.ntmps28
    go_wp2
    go_loopw [5] (fun i wr => ∃ k : Nat, k ≤ n ∧ i = .int .i64 k ∧ (∃ q, wr = w.drewN q) ∧ Hid (l.take k = r.take k)) (fun i _ => n - (intOf i).toNat)
    case atStart => exact ⟨0, Nat.zero_le _, rfl, ⟨0, rfl⟩, Lib.hid rfl⟩
    case round =>
      obtain ⟨k, hk, rfl, ⟨q, rfl⟩, hT⟩ := hrel
      by_cases hlt : k < n
      · have kl : k < l.length := by have := HN.out; omega
        have kr : k < r.length := by have := HM.out; omega
        obtain ⟨b, o, rfl, _, hc⟩ := HA.out (by omega)
        obtain ⟨b2, o2, rfl, _, hc2⟩ := HB.out (by omega)
        have hX : At (w.drewN q) b (o + k * 256) l[k] := hc k _ (List.getElem?_eq_getElem kl)
        have hY : At (w.drewN q) b2 (o2 + k * 256) r[k] := hc2 k _ (List.getElem?_eq_getElem kr)
        have W := Lib.hid (show ∃ q', w.drewN q = w.drewN q' from ⟨q, rfl⟩)
        generalize w.drewN q = w1 at hX hY W ⊢
        clear hc hc2
        have heq := fun W => equalIn_blk l[k] r[k] W
        have hgd := blk_guard
        have j1 : (0 : Int) ≤ k := by omega
        have j2 : (k : Int) < n := by omega
        by_cases hxy : l[k] = r[k]
        all_goals
          first | have hd := decide_eq_false hxy | have hd := decide_eq_true hxy
          have HXY := Lib.hid hxy
          clear hxy
          go_wp2_with fail
          refine wp_region_quiet_lit (by kernel_rfl) (by kernel_rfl) ?_
          repeat (first | go_big_quiet_skip | (go_big_quiet_want; first | (refine quiet_load _ rfl _ _ rfl _ (by rintro w' ⟨m, rfl⟩; first | exact hX | exact hY) ?_; simp only [Act.put, List.setIfInBounds_toArray, List.set_cons_zero, List.set_cons_succ]; go_big_quiet_on) | (go_big_quiet_op; go_big_quiet_on)))
          refine wpQuiet_nil ?_
          intro _ hw'
          obtain ⟨nq, hw''⟩ := hw'
          subst hw''
          go_wp2
        · go_roundw
          case rel => exact ⟨k + 1, by omega, by go_num, by obtain ⟨q, rfl⟩ := W.out; exact ⟨q + nq, by rw [World.drewN_drewN]⟩, Lib.hid (take_eq_succ kl kr hT.out HXY.out)⟩
          case measure => simp [intOf]; omega
        · go_ret
          exact ⟨ret_bool (decide_eq_false (ne_of_get kl kr HXY.out)).symm, by obtain ⟨q, rfl⟩ := W.out; exact ⟨q + nq, by rw [World.drewN_drewN]⟩⟩
      · obtain rfl : k = n := by omega
        go_wp2
        go_ret
        refine ⟨ret_bool (decide_eq_true ?_).symm, q, rfl⟩
        have h := hT.out
        rw [List.take_of_length_le (by have := HN.out; omega), List.take_of_length_le (by have := HM.out; omega)] at h
        exact h
  · have hd : ((n : Int) != (m : Int)) = true := by rw [bne_iff_ne]; omega
    have HL := Lib.hid hlen
    clear hlen
    go_enter Try.func28, Try.ntmps28
    go_wp2
    go_ret
    exact ⟨ret_bool (decide_eq_false (fun e => HL.out (by have := HN.out; have := HM.out; rw [e] at *; omega))).symm, 0, rfl⟩
end Go.Proofs.Ytaipcciokhkmnaa
