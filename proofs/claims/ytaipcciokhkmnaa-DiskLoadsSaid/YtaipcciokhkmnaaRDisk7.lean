import Derived.Test.YtaipcciokhkmnaaRDisk6
namespace Go.Proofs.Ytaipcciokhkmnaa
open Go.RowKit

def crashTo (s : DS) (kl : List Bool) (k : Nat) : DS := { s with safe := over s.safe (kept (s.wait.take k) kl) }
theorem crashTo_length (s : DS) (kl : List Bool) (k : Nat) : (crashTo s kl k).safe.length = s.safe.length := by unfold crashTo; exact over_length _ _
theorem crashTo_no {s : DS} {kl : List Bool} {k : Nat} (h : k < s.wait.length) (hk : ¬ kl[k]? = some true) : crashTo s kl (k + 1) = crashTo s kl k := by
  unfold crashTo
  rw [kept_take s.wait kl k h, if_neg hk, List.append_nil]
theorem crashTo_yes {s : DS} {kl : List Bool} {k : Nat} {p : Nat × Blk} (h : s.wait[k]? = some p) (hk : kl[k]? = some true) : crashTo s kl (k + 1) = { crashTo s kl k with safe := (crashTo s kl k).safe.set p.1 p.2 } := by
  obtain ⟨hlt, rfl⟩ := List.getElem?_eq_some_iff.1 h
  unfold crashTo
  rw [kept_take s.wait kl k hlt, if_pos hk, over_append]
  rfl
set_option maxRecDepth 100000 in
set_option maxHeartbeats 2000000 in
theorem rCrash_any (w : World) (b : Nat) (s : DS) (av : Av) (K : Option Addr) (km kc : Nat) (kl : List Bool) (h : RD w b s av) (hkm : km = kl.length) (hK : Bools w K kl) (hKb : 0 < kl.length → ∀ g o, K = some ⟨g, o, none⟩ → av g) (_ : km ≤ 140737488355328) :
    Calls Try.prog 37 #[.pointer (some ⟨b, 0, none⟩), .slice K km kc] w fun e w' => e = .returned noResult ∧ RD w' b (s.crash kl) av ∧ Keep av w w' := by
  have HKM := Lib.hid hkm
  have HK := Lib.hid hK
  have HKB := Lib.hid hKb
  clear hkm hK hKb
  obtain ⟨g, o, n, c, v, h⟩ := h
  obtain ⟨A, cv, rfl⟩ := h.wait.shape
  have hWl : s.wait.length ≤ 1000000 := by have := h.ok.2.2.2; omega
  have HN := Lib.hid h.len
  have R0 : Hid (RDAt w b (crashTo s kl 0) g o n c (.slice A s.wait.length cv) av 0) := Lib.hid h
  have HQ := Lib.hid h.ok.2.2.1
  clear h
  go_enter Try.func37, Try.ntmps37
  go_wp2_with fail
  go_loopw [4] (fun i wr => ∃ k : Nat, k ≤ s.wait.length ∧ i = .int .i64 k ∧ Hid (RDAt wr b (crashTo s kl k) g o n c (.slice A s.wait.length cv) av 0) ∧ Hid (Keep av w wr)) (fun i _ => s.wait.length - (intOf i).toNat)
  case atStart => exact ⟨0, Nat.zero_le _, rfl, R0, Lib.hid (Keep.refl _ _)⟩
  case round =>
    obtain ⟨k, hk, rfl, R, KP⟩ := hrel
    have c0' := (cell_of_row _ b 0 _ _ (0, 0) R.out.cells).trans (by rfl : _ = some (Value.slice (some ⟨g, o, none⟩) n c))
    have c1' := (cell_of_row _ b 1 _ _ (0, 0) R.out.cells).trans (by rfl : _ = some (Value.slice A s.wait.length cv))
    by_cases hlt : k < s.wait.length
    · have j1 : (0 : Int) ≤ k := by omega
      have j2 : (k : Int) < s.wait.length := by omega
      by_cases hrk : k < km
      · obtain ⟨bK, oK, rfl, lK, hcK⟩ := HK.out (by have := HKM.out; omega)
        have hgK : kl[k]? = some (kl[k]'(by have := HKM.out; omega)) := List.getElem?_eq_getElem _
        have cK : wr.cell? ⟨bK, oK + k, none⟩ = _ := (KP.out.cell (p := ⟨bK, oK + k, none⟩) (HKB.out (by have := HKM.out; omega) _ _ rfl)).trans (hcK k _ hgK)
        generalize kl[k]'(by have := HKM.out; omega) = x at hgK cK
        have KX := Lib.hid hgK
        have t4 : decide (k < km) = true := by simp; omega
        have j3 : (k : Int) < km := by omega
        clear hcK hgK
        cases x
        · have KT := Lib.hid (crashTo_no (s := s) (kl := kl) hlt (by rw [KX.out]; simp))
          go_wp2_with fail
          go_roundw
          case rel => exact ⟨k + 1, by omega, by go_num, by rw [KT.out]; exact R, KP⟩
          case measure => simp [intOf]; omega
        · have hW := List.getElem?_eq_getElem hlt
          have hqn0 := HQ.out _ (List.mem_of_getElem? hW)
          generalize s.wait[k] = wr2 at hW hqn0
          obtain ⟨qb, X⟩ := wr2
          have KT := Lib.hid (crashTo_yes (s := s) (kl := kl) hW KX.out)
          dsimp only at KT hqn0
          obtain ⟨gw, rfl⟩ : ∃ gw, A = some ⟨gw, 0, none⟩ := by
            rcases R.out.wait.2 with ⟨h1, h2⟩ | ⟨g', cap, cur, h1, _⟩
            · have : s.wait.length = 0 := h2
              omega
            · injection h1 with h1; exact ⟨g', h1⟩
          have wq := R.out.wait.cell (g := gw) rfl hW
          have wc1 := wq.1
          have hqn : qb < n := by rw [HN.out]; exact hqn0
          have THERE : wr.there g (o + qb * 256) 256 := R.out.img.there (i := qb) (by rw [crashTo_length]; exact hqn0)
          obtain ⟨cl, hcl⟩ : ∃ cl : List Value, arr X = cl.toArray := ⟨(arr X).toList, by simp⟩
          have hcl2 : (arr X).toList = cl := by rw [hcl]
          have wc2 : wr.rangeAt gw (k * 257 + 1) cl := by have := wq.2; unfold At at this; rw [hcl2] at this; exact this
          have hcll : cl.length = 256 := by have := arr_length X; rw [hcl2] at this; exact this
          have hc1 : ∀ v ∈ cl, v.oneCell' = true := by
            have := arr_one X
            rw [Array.all_eq_true_iff_forall_mem] at this
            intro v hv
            exact this v (by rw [hcl]; simpa using hv)
          have hu := Try.underlying26
          have hi : (Try.prog.info? 26).map (·.size) = some cl.length := by rw [hcll]; exact blk_size
          have HCL := Lib.hid hcl2
          have THW : gw ≠ g := fun e => R.out.apart.2.2.1 (by rw [← e]; rfl)
          have THB : b ≠ g := R.out.apart.1
          have j4 : (0 : Int) ≤ qb := by omega
          have j5 : (qb : Int) < n := by omega
          clear hcl hcl2 wq hW
          go_wp2_with fail
          go_region_held3 (fun w' => w'.cell? ⟨b, 0, none⟩ = some (Value.slice (some ⟨g, o, none⟩) n c) ∧ w'.cell? ⟨b, 1, none⟩ = some (Value.slice (some ⟨gw, 0, none⟩) s.wait.length cv) ∧ w'.cell? ⟨gw, k * 257, none⟩ = some (.int .i64 (qb : Int)) ∧ w'.rangeAt gw (k * 257 + 1) cl ∧ w'.there g (o + qb * 256) 256)
            (first
              | go_keep_ranges
              | (go_split_ands; exact ⟨(cell_out THB).trans (by assumption), (cell_out THB).trans (by assumption), (cell_out THW).trans (by assumption), World.rangeAt_setCells_apart (by assumption) _ _ _ (.inl THW), World.there_setCells (by assumption) _ _ _⟩))
            (fail)
          have R2 : Hid (RDAt (wr.drew.setCells g (o + qb * 256) cl) b (crashTo s kl (k + 1)) g o n c (.slice (some ⟨gw, 0, none⟩) s.wait.length cv) av 0) := Lib.hid (by
            have h := (R.out.below (w' := wr.drew) ⟨rfl, rfl, rfl, Nat.le_refl _, fun _ _ => rfl⟩).set (i := qb) (by rw [crashTo_length]; exact hqn0) X
            rw [HCL.out] at h
            rw [KT.out]
            exact h)
          have K2 : Hid (Keep av w (wr.drew.setCells g (o + qb * 256) cl)) := Lib.hid ((KP.out.trans (c := wr.drew) ⟨rfl, rfl, rfl, Nat.le_refl _, fun _ _ => rfl⟩).cells R.out.apart.2.2.2.2.1 _ _)
          generalize wr.drew.setCells g (o + qb * 256) cl = w3 at R2 K2 ⊢
          clear R KP
          go_wp2_with fail
          go_roundw
          case rel => exact ⟨k + 1, by omega, by go_num, R2, K2⟩
          case measure => simp [intOf]; omega
      · have t4 : decide (k < km) = false := by simp; omega
        have KT := Lib.hid (crashTo_no (s := s) (kl := kl) hlt (by rw [List.getElem?_eq_none (by have := HKM.out; omega)]; simp))
        clear hrk
        go_wp2_with fail
        go_roundw
        case rel => exact ⟨k + 1, by omega, by go_num, by rw [KT.out]; exact R, KP⟩
        case measure => simp [intOf]; omega
    · obtain rfl : k = s.wait.length := by omega
      have f1 := row_frozen (k := 1) R.out.cells
      have f3 := row_frozen (k := 3) R.out.cells
      have c3' := (cell_of_row _ b 3 _ _ (0, 0) R.out.cells).trans (by rfl : _ = some (Value.int .i64 (leftOf s.left)))
      have E : Hid (s.crash kl = { crashTo s kl s.wait.length with wait := [], left := none }) := Lib.hid (by unfold DS.crash crashTo; rw [List.take_length])
      go_wp2_with fail
      refine bodyPost_end (results_none Try.results37 _ _ _) rfl ⟨rfl, ?_, (KP.out.trans (rKeep R.out.apart.2.2.2.1 _ _)).trans (rKeep R.out.apart.2.2.2.1 _ _)⟩
      rw [E.out]
      obtain ⟨a1, a2, a3, a4, a5, a6⟩ := R.out.apart
      obtain ⟨o1, o2, o3, o4, o5⟩ := R.out.ok
      refine ⟨g, o, n, c, .slice none 0 0, ?_, R.out.len, R.out.img.keep ?_, WOwn.nil _ _, ⟨a1, by simp [Value.ownBlock], by simp [Value.ownBlock], a4, a5, by simp [Value.ownBlock]⟩, fun i hi => ?_, ⟨o1, o2, by simp, by simp, o5⟩, by simp⟩
      · rw [heap_setCell_same _ b 3 _ _ _ (heap_setCell_same _ b 1 _ _ _ R.out.cells)]; rfl
      · rw [setCell_other _ _ _ _ _ (Ne.symm a1), setCell_other _ _ _ _ _ (Ne.symm a1)]
      · rw [setCell_size, setCell_size]; exact R.out.bound i hi
end Go.Proofs.Ytaipcciokhkmnaa
