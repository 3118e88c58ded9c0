import Derived.Test.YtoopoemkickpkaaDoorCrcSums1
namespace Go.Proofs.YtoopoemkickpkaaDoor
open Go.RowKit CrcM

theorem Lst.lt {w : World} {A : Option Addr} {ps : Pieces} (h : Lst w A ps) : ∀ p ∈ ps, ∀ i, p.2 i < 256 := by
  intro p hp
  obtain ⟨k, hk, e⟩ := List.mem_iff_getElem.1 hp
  obtain ⟨b, o, _, _, hc⟩ := h (by omega)
  obtain ⟨Ai, ci, _, hr⟩ := hc k p (by rw [List.getElem?_eq_getElem hk, e])
  exact hr.1
theorem own_at {w : World} {base : Nat} {e : TypeId} {v : Value} {n : Nat} {xs : List Value} (h : w.ownsRow base e 1 v n xs) : ∀ b, v.ownBlock = some b → base ≤ b := by
  intro b hb
  rcases h.2 with ⟨rfl, _⟩ | ⟨g, cap, cur, rfl, hg, _⟩
  · simp [Value.ownBlock] at hb
  · have : g = b := by simpa [Value.ownBlock] using hb
    omega
theorem u8_info8 : (Tryd.prog.info? 5).map (fun i => (i.zero, i.size, i.bytes)) = some (some (.int .u8 0), 1, 1) := by kernel_rfl

set_option maxHeartbeats 400000 in
theorem All_any (A : Option Addr) (c : Nat) (ps : Pieces) (w : World) (hL : Lst w A ps) (hm : ps.length ≤ 100) (ht : tot ps ≤ 20000) :
    Calls Tryd.prog 13 #[.slice A ps.length c] w fun e w' => ∃ A' c', e = .returned (.slice A' (tot ps) c') ∧ tot ps ≤ c' ∧ Row w' A' (tot ps) (cat ps) ∧ Below w.heap.size w w' := by
  have H := Lib.hid hL
  have HF := Lib.hid hL.lt
  have T := Lib.hid ht
  clear hL ht
  obtain ⟨m, hm2⟩ : ∃ m, ps.length = m := ⟨_, rfl⟩
  have M := Lib.hid hm2
  rw [hm2] at hm ⊢
  clear hm2
  obtain ⟨i0, hi0, hz0, hz1, hz2⟩ := info_parts u8_info8
  go_enter Tryd.func13, Tryd.ntmps13
  go_wp2
  go_loopw [3, 4] (fun v i wr => ∃ k : Nat, k ≤ m ∧ i = .int .i64 k ∧ Hid (wr.ownsRow w.heap.size 5 1 v (tot (ps.take k)) (vals8 (cat ps) (tot (ps.take k)))) ∧ Hid (Below w.heap.size w wr)) (fun _ i _ => m - (intOf i).toNat)
  case atStart => exact ⟨0, Nat.zero_le _, rfl, Lib.hid (World.ownsRow_nil _ _ _ _), Lib.hid (Below.refl _ _)⟩
  case round =>
    obtain ⟨k, hk, rfl, HO, HB⟩ := hrel
    by_cases hlt : k < m
    · obtain ⟨p, hp⟩ : ∃ p, ps[k]? = some p := ⟨_, List.getElem?_eq_getElem (by have := M.out; omega)⟩
      obtain ⟨b, o, rfl, lb, hc⟩ := H.out (by have := M.out; omega)
      obtain ⟨Ai, ci, ck, hr⟩ := hc k p hp
      have ck2 := (HB.out.cell (p := ⟨b, o + k, none⟩) lb).trans ck
      have HR := Lib.hid (hr.below HB.out)
      have E := Lib.hid (tot_take_succ hp)
      have X := Lib.hid (vals8_add (cat ps) p.2 (tot (ps.take k)) p.1 (cat_at hp))
      have hle : tot (ps.take k) + p.1 ≤ 20000 := by rw [← tot_take_succ hp]; exact Nat.le_trans (tot_take_le ps _) T.out
      have l1 : (0 : Int) ≤ k := by omega
      have l2 : (k : Int) < m := by omega
      clear hc hp ck hr lb
      go_wp2_with (at_builtin; refine at_append_row _ rfl (.tmp 11) (.tmp 15) _ rfl w.heap.size 5 i0 Tryd.underlying24 hi0 hz0 hz1 hz2 u3 _ _ rfl HO.out Ai p.1 ci p.2 rfl HR.out (by omega) HB.out.size ?_; intro v' w' h1 h2 h3; have HO2 := Lib.hid h1; have HB2 := Lib.hid (HB.out.grown h2 HB.out.size (own_at HO.out)); clear h1 h2 h3)
      go_roundw
      case rel => exact ⟨k + 1, by omega, by go_num, Lib.hid (by rw [E.out, X.out]; exact HO2.out), HB2⟩
      case measure => simp [intOf]; omega
    · have hkm : k = m := by omega
      have hO := HO.out
      rw [hkm, List.take_of_length_le (by have := M.out; omega)] at hO
      obtain ⟨A', c', rfl, hc1, hc2, hO2⟩ := own_of_row (cat_lt HF.out) hO
      have HO2 := Lib.hid hO2
      clear hO hO2 HO
      go_wp2
      go_ret
      exact ⟨A', c', rfl, hc1, HO2.out.row (Nat.le_refl _), HB.out⟩

end Go.Proofs.YtoopoemkickpkaaDoor
