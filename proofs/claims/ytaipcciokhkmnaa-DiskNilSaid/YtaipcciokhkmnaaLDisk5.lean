import Derived.Test.YtaipcciokhkmnaaLDisk4
namespace Go.Proofs.Ytaipcciokhkmnaa
open Go.RowKit

/-! settle: what comes through is made safe; then what is newest is settled, block by block. -/
theorem over_other : ∀ (ps : Waits) (l : List Blk) (b : Nat), (∀ p ∈ ps, p.1 ≠ b) → (over l ps)[b]? = l[b]?
  | [], _, _, _ => rfl
  | p :: ps, l, b, h => by
    rw [over, over_other ps _ b (fun q hq => h q (List.mem_cons_of_mem _ hq)), List.getElem?_set_ne (h p List.mem_cons_self)]
theorem kept_sub : ∀ (W : Waits) (kl : List Bool), ∀ p ∈ kept W kl, p ∈ W
  | [], _, p, h => by simp [kept] at h
  | _ :: _, [], p, h => by simp [kept] at h
  | q :: W, b :: kl, p, h => by
    unfold kept at h
    split at h
    · rcases List.mem_cons.1 h with rfl | h
      · exact List.mem_cons_self
      · exact List.mem_cons_of_mem _ (kept_sub W kl p h)
    · exact List.mem_cons_of_mem _ (kept_sub W kl p h)
noncomputable def settleN (S : List Blk) : Waits → List Blk → List Blk
  | [], N => N
  | p :: ps, N => settleN S ps (N.set p.1 (S.getD p.1 .zero))
theorem settleN_length (S : List Blk) : ∀ (ps : Waits) (N : List Blk), (settleN S ps N).length = N.length
  | [], _ => rfl
  | p :: ps, N => by rw [settleN, settleN_length S ps]; simp
theorem settleN_append (S : List Blk) : ∀ (ps qs : Waits) (N : List Blk), settleN S (ps ++ qs) N = settleN S qs (settleN S ps N)
  | [], _, _ => rfl
  | p :: ps, qs, N => by rw [List.cons_append, settleN, settleN, settleN_append S ps]
theorem settleN_all (S : List Blk) : ∀ (ps : Waits) (N : List Blk), N.length = S.length → (∀ b, (∀ p ∈ ps, p.1 ≠ b) → N[b]? = S[b]?) → settleN S ps N = S
  | [], N, _, h => by rw [settleN]; exact List.ext_getElem? fun i => h i (by simp)
  | p :: ps, N, hl, h => by
    rw [settleN]
    refine settleN_all S ps _ (by simp [hl]) fun b hb => ?_
    by_cases e : p.1 = b
    · subst e
      rcases Nat.lt_or_ge p.1 N.length with q | q
      · rw [List.getElem?_set_self q, List.getD_eq_getElem?_getD, List.getElem?_eq_getElem (by omega)]; rfl
      · rw [List.getElem?_eq_none (by simpa using q), List.getElem?_eq_none (by omega)]
    · rw [List.getElem?_set_ne e]
      exact h b fun q hq => by
        rcases List.mem_cons.1 hq with rfl | hq
        · exact e
        · exact hb q hq
theorem settle_now (L : List Blk) (W : Waits) (kl : List Bool) : settleN (over L (kept W kl)) W (over L W) = over L (kept W kl) :=
  settleN_all _ W _ (by rw [over_length, over_length]) fun b hb => by
    rw [over_other W L b hb, over_other _ L b fun p hp => hb p (kept_sub W kl p hp)]

def set1 (s : LS) (kl : List Bool) (k : Nat) : LS := { s with safe := over s.safe (kept (s.wait.take k) kl) }
theorem set1_no {s : LS} {kl : List Bool} {k : Nat} (h : k < s.wait.length) (hk : ¬ kl[k]? = some true) : set1 s kl (k + 1) = set1 s kl k := by
  unfold set1
  rw [kept_take s.wait kl k h, if_neg hk, List.append_nil]
theorem set1_yes {s : LS} {kl : List Bool} {k : Nat} {p : Nat × Blk} (h : s.wait[k]? = some p) (hk : kl[k]? = some true) : set1 s kl (k + 1) = { set1 s kl k with safe := (set1 s kl k).safe.set p.1 p.2 } := by
  obtain ⟨hlt, rfl⟩ := List.getElem?_eq_some_iff.1 h
  unfold set1
  rw [kept_take s.wait kl k hlt, if_pos hk, over_append]
  rfl
noncomputable def set2 (s : LS) (S : List Blk) (k : Nat) : LS := { s with safe := S, now := settleN S (s.wait.take k) s.now }
theorem set2_succ {s : LS} {S : List Blk} {k : Nat} {p : Nat × Blk} (h : s.wait[k]? = some p) : set2 s S (k + 1) = { set2 s S k with now := (set2 s S k).now.set p.1 (S.getD p.1 .zero) } := by
  obtain ⟨hlt, rfl⟩ := List.getElem?_eq_some_iff.1 h
  unfold set2
  rw [List.take_succ_eq_append_getElem hlt, settleN_append]
  rfl
section
variable (w : World) (b : Nat) (s : LS) (g o g2 o2 n c c2 : Nat) (v : Value) (av : Av)
set_option maxRecDepth 100000 in
set_option maxHeartbeats 2000000 in
theorem lSettle_any (fid : Nat) (caps : Array Value) (kl : List Bool) (hE : ∀ args W, (callFunc fid args).run Try.prog W = .ok (.enter fid args) W) (h : LDAt w b s g o g2 o2 n c c2 v av)
    (hT : ∀ (k : Nat) (w' : World), k < s.wait.length → Keep av w w' → Calls Try.prog fid (#[.int .i64 (k : Int)] ++ caps) w' fun e w'' => e = .returned (.bool (decide (kl[k]? = some true))) ∧ w'' = w') :
    Calls Try.prog 42 #[.pointer (some ⟨b, 0, none⟩), .func (.func fid) #[] caps] w fun e w' => e = .returned noResult ∧ LDAt w' b { s with safe := over s.safe (kept s.wait kl), now := settleN (over s.safe (kept s.wait kl)) s.wait s.now, wait := [] } g o g2 o2 n c c2 (.slice none 0 0) av ∧ Keep av w w' := by
  have HT := Lib.hid hT
  clear hT
  obtain ⟨A, cv, rfl⟩ := h.wait.shape
  have hWl : s.wait.length ≤ 1000000 := h.ok.2.2.2.1
  have R0 : Hid (LDAt w b (set1 s kl 0) g o g2 o2 n c c2 (.slice A s.wait.length cv) av) := Lib.hid h
  have HQ := Lib.hid h.ok.2.2.1
  have c2w := h.c2'
  clear h
  go_enter Try.func42, Try.ntmps42
  go_wp2_with fail
  go_loopw [12] (fun i wr => ∃ k : Nat, k ≤ s.wait.length ∧ i = .int .i64 k ∧ Hid (LDAt wr b (set1 s kl k) g o g2 o2 n c c2 (.slice A s.wait.length cv) av) ∧ Hid (Keep av w wr)) (fun i _ => s.wait.length - (intOf i).toNat)
  case atStart => exact ⟨0, Nat.zero_le _, rfl, R0, Lib.hid (Keep.refl _ _)⟩
  case round =>
    obtain ⟨k, hk, rfl, R, KP⟩ := hrel
    clear R0 c2w
    have c0' := R.out.c0
    have c2' := R.out.c2'
    by_cases hlt : k < s.wait.length
    · have j1 : (0 : Int) ≤ k := by omega
      have j2 : (k : Int) < s.wait.length := by omega
      have T := Lib.hid (HT.out k wr hlt KP.out)
      by_cases hx : kl[k]? = some true
      · have T' : Hid (Calls Try.prog fid (#[.int .i64 (k : Int)] ++ caps) wr fun e w'' => e = .returned (.bool true) ∧ w'' = wr) := Lib.hid (by have := T.out; rw [decide_eq_true hx] at this; exact this)
        have hW := List.getElem?_eq_getElem hlt
        have hqn := HQ.out _ (List.mem_of_getElem? hW)
        generalize s.wait[k] = wr2 at hW hqn
        obtain ⟨qb, X⟩ := wr2
        have KT := Lib.hid (set1_yes (s := s) (kl := kl) hW hx)
        dsimp only at KT hqn
        obtain ⟨gw, rfl⟩ : ∃ gw, A = some ⟨gw, 0, none⟩ := by
          rcases R.out.wait.2 with ⟨h1, h2⟩ | ⟨g', cap, cur, h1, _⟩
          · have : s.wait.length = 0 := h2
            omega
          · injection h1 with h1; exact ⟨g', h1⟩
        have wq := R.out.wait.cell (g := gw) rfl hW
        have wc1 := wq.1
        have THERE : wr.there g (o + qb * 256) 256 := R.out.img.there (i := qb) (by rw [← R.out.len]; exact hqn)
        obtain ⟨cl, hcl⟩ : ∃ cl : List Value, arr X = cl.toArray := ⟨(arr X).toList, by simp⟩
        have hcl2 : (arr X).toList = cl := by rw [hcl]
        have wc2 : wr.rangeAt gw (k * 257 + 1) cl := by have := wq.2; unfold At at this; rw [hcl2] at this; exact this
        have hcll : cl.length = 256 := by have := arr_length X; rw [hcl2] at this; exact this
        have hc1 : ∀ v ∈ cl, v.oneCell' = true := by
          have := arr_one X
          rw [Array.all_eq_true_iff_forall_mem] at this
          intro v hv
          exact this v (by rw [hcl]; simpa using hv)
        have hu := Try.underlying26
        have hi : (Try.prog.info? 26).map (·.size) = some cl.length := by rw [hcll]; exact blk_size
        have HCL := Lib.hid hcl2
        have THW : gw ≠ g := fun e => R.out.apart.2.2.2.2.1 (by rw [← e]; rfl)
        have THB : b ≠ g := R.out.apart.1
        have j4 : (0 : Int) ≤ qb := by omega
        have j5 : (qb : Int) < n := by omega
        clear hcl hcl2 wq hW hx T
        go_wp2_with fail
        refine T'.out.mono ?_
        rintro e w1 ⟨rfl, rfl⟩
        go_wp2_with fail
        go_region_held3 (fun w' => w'.cell? ⟨b, 0, none⟩ = some (Value.slice (some ⟨g, o, none⟩) n c) ∧ w'.cell? ⟨b, 2, none⟩ = some (Value.slice (some ⟨gw, 0, none⟩) s.wait.length cv) ∧ w'.cell? ⟨gw, k * 257, none⟩ = some (.int .i64 (qb : Int)) ∧ w'.rangeAt gw (k * 257 + 1) cl ∧ w'.there g (o + qb * 256) 256)
          (first
            | go_keep_ranges
            | (go_split_ands; exact ⟨(cell_out THB).trans (by assumption), (cell_out THB).trans (by assumption), (cell_out THW).trans (by assumption), World.rangeAt_setCells_apart (by assumption) _ _ _ (.inl THW), World.there_setCells (by assumption) _ _ _⟩))
          (fail)
        have R2 : Hid (LDAt (w1.drew.setCells g (o + qb * 256) cl) b (set1 s kl (k + 1)) g o g2 o2 n c c2 (.slice (some ⟨gw, 0, none⟩) s.wait.length cv) av) := Lib.hid (by
          have h := R.out.drew.set (i := qb) hqn X
          rw [HCL.out] at h
          rw [KT.out]
          exact h)
        have K2 : Hid (Keep av w (w1.drew.setCells g (o + qb * 256) cl)) := Lib.hid ((KP.out.trans (c := w1.drew) ⟨rfl, rfl, rfl, Nat.le_refl _, fun _ _ => rfl⟩).cells R.out.out.2.1 _ _)
        generalize w1.drew.setCells g (o + qb * 256) cl = w3 at R2 K2 ⊢
        clear R KP
        go_wp2_with fail
        go_roundw
        case rel => exact ⟨k + 1, by omega, by go_num, R2, K2⟩
        case measure => simp [intOf]; omega
      · have T' : Hid (Calls Try.prog fid (#[.int .i64 (k : Int)] ++ caps) wr fun e w'' => e = .returned (.bool false) ∧ w'' = wr) := Lib.hid (by have := T.out; rw [decide_eq_false hx] at this; exact this)
        have KT := Lib.hid (set1_no (s := s) hlt hx)
        clear hx T
        go_wp2_with fail
        refine T'.out.mono ?_
        rintro e w1 ⟨rfl, rfl⟩
        go_wp2_with fail
        go_roundw
        case rel => exact ⟨k + 1, by omega, by go_num, by rw [KT.out]; exact R, KP⟩
        case measure => simp [intOf]; omega
    · obtain rfl : k = s.wait.length := by omega
      have E0 : Hid (set1 s kl s.wait.length = set2 s (over s.safe (kept s.wait kl)) 0) := Lib.hid (by unfold set1 set2; rw [List.take_length, List.take_zero]; rfl)
      rw [E0.out] at R
      have LS : Hid ((over s.safe (kept s.wait kl)).length = n) := Lib.hid R.out.len.symm
      have EN : Hid ({ s with safe := over s.safe (kept s.wait kl), now := settleN (over s.safe (kept s.wait kl)) s.wait s.now, wait := [] } = { set2 s (over s.safe (kept s.wait kl)) s.wait.length with wait := [] }) := Lib.hid (by unfold set2; rw [List.take_length])
      clear HT E0
      obtain ⟨S, hS⟩ : ∃ S, over s.safe (kept s.wait kl) = S := ⟨_, rfl⟩
      rw [hS] at R LS EN
      have HS := Lib.hid hS
      clear hS
      go_wp2_with fail
      go_loopw [45] (fun i wr => ∃ k : Nat, k ≤ s.wait.length ∧ i = .int .i64 k ∧ Hid (LDAt wr b (set2 s S k) g o g2 o2 n c c2 (.slice A s.wait.length cv) av) ∧ Hid (Keep av w wr)) (fun i _ => s.wait.length - (intOf i).toNat)
      case atStart => exact ⟨0, Nat.zero_le _, rfl, R, KP⟩
      case round =>
        clear R KP c0' c2'
        obtain ⟨k, hk, rfl, R, KP⟩ := hrel
        have c0' := R.out.c0
        have c1' := R.out.c1
        have c2' := R.out.c2'
        by_cases hlt : k < s.wait.length
        · have j1 : (0 : Int) ≤ k := by omega
          have j2 : (k : Int) < s.wait.length := by omega
          have hW := List.getElem?_eq_getElem hlt
          have hqn := HQ.out _ (List.mem_of_getElem? hW)
          generalize s.wait[k] = wr2 at hW hqn
          obtain ⟨qb, Y⟩ := wr2
          have KT := Lib.hid (set2_succ (S := S) hW)
          dsimp only at KT hqn
          obtain ⟨gw, rfl⟩ : ∃ gw, A = some ⟨gw, 0, none⟩ := by
            rcases R.out.wait.2 with ⟨h1, h2⟩ | ⟨g', cap, cur, h1, _⟩
            · have : s.wait.length = 0 := h2
              omega
            · injection h1 with h1; exact ⟨g', h1⟩
          have wq := R.out.wait.cell (g := gw) rfl hW
          have wc1 := wq.1
          have hX : S[qb]? = some (S.getD qb .zero) := by rw [List.getD_eq_getElem?_getD, List.getElem?_eq_getElem (by rw [LS.out]; exact hqn)]; rfl
          have hat := R.out.img.at (i := qb) (x := S.getD qb .zero) hX
          generalize S.getD qb .zero = X at hX hat KT
          have THERE : wr.there g2 (o2 + qb * 256) 256 := R.out.img2.there (i := qb) (by rw [← R.out.len2]; exact hqn)
          obtain ⟨cl, hcl⟩ : ∃ cl : List Value, arr X = cl.toArray := ⟨(arr X).toList, by simp⟩
          have hcl2 : (arr X).toList = cl := by rw [hcl]
          have wc2 : wr.rangeAt g (o + qb * 256) cl := by have := hat; unfold At at this; rw [hcl2] at this; exact this
          have hcll : cl.length = 256 := by have := arr_length X; rw [hcl2] at this; exact this
          have hc1 : ∀ v ∈ cl, v.oneCell' = true := by
            have := arr_one X
            rw [Array.all_eq_true_iff_forall_mem] at this
            intro v hv
            exact this v (by rw [hcl]; simpa using hv)
          have hu := Try.underlying26
          have hi : (Try.prog.info? 26).map (·.size) = some cl.length := by rw [hcll]; exact blk_size
          have HCL := Lib.hid hcl2
          have THG : g ≠ g2 := R.out.apart.2.2.1
          have THB : b ≠ g2 := R.out.apart.2.1
          have j4 : (0 : Int) ≤ qb := by omega
          have j5 : (qb : Int) < n := by omega
          clear hcl hcl2 wq hW hX hat
          go_wp2_with fail
          go_region_held3 (fun w' => w'.cell? ⟨b, 0, none⟩ = some (Value.slice (some ⟨g, o, none⟩) n c) ∧ w'.cell? ⟨b, 1, none⟩ = some (Value.slice (some ⟨g2, o2, none⟩) n c2) ∧ w'.rangeAt g (o + qb * 256) cl ∧ w'.there g2 (o2 + qb * 256) 256)
            (first
              | go_keep_ranges
              | (go_split_ands; exact ⟨(cell_out THB).trans (by assumption), (cell_out THB).trans (by assumption), World.rangeAt_setCells_apart (by assumption) _ _ _ (.inl THG), World.there_setCells (by assumption) _ _ _⟩))
            (fail)
          have R2 : Hid (LDAt (wr.drew.setCells g2 (o2 + qb * 256) cl) b (set2 s S (k + 1)) g o g2 o2 n c c2 (.slice (some ⟨gw, 0, none⟩) s.wait.length cv) av) := Lib.hid (by
            have h := R.out.drew.set2 (i := qb) hqn X
            rw [HCL.out] at h
            rw [KT.out]
            exact h)
          have K2 : Hid (Keep av w (wr.drew.setCells g2 (o2 + qb * 256) cl)) := Lib.hid ((KP.out.trans (c := wr.drew) ⟨rfl, rfl, rfl, Nat.le_refl _, fun _ _ => rfl⟩).cells R.out.out.2.2.1 _ _)
          generalize wr.drew.setCells g2 (o2 + qb * 256) cl = w3 at R2 K2 ⊢
          clear R KP
          go_wp2_with fail
          go_roundw
          case rel => exact ⟨k + 1, by omega, by go_num, R2, K2⟩
          case measure => simp [intOf]; omega
        · obtain rfl : k = s.wait.length := by omega
          have f2 := row_frozen (k := 2) R.out.cells
          go_wp2_with fail
          refine bodyPost_end (results_none Try.results42 _ _ _) rfl ⟨rfl, ?_, KP.out.trans (rKeep R.out.out.1 _ _)⟩
          rw [HS.out, EN.out]
          exact R.out.clear
end
end Go.Proofs.Ytaipcciokhkmnaa
