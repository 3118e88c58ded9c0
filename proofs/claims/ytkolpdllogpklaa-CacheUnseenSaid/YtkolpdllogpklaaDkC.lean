import Derived.Test.YtkolpdllogpklaaDkB
namespace Go.Proofs.Ytkolpdllogpklaa
open Go.RowKit

/-! settle: what comes through is made safe; then what is newest is settled, block by block. -/
theorem over_other : ∀ (ps : Waits) (l : List Blk) (b : Nat), (∀ p ∈ ps, p.1 ≠ b) → (over l ps)[b]? = l[b]?
  | [], _, _, _ => rfl
  | p :: ps, l, b, h => by
    rw [over, over_other ps _ b (fun q hq => h q (List.mem_cons_of_mem _ hq)), List.getElem?_set_ne (h p List.mem_cons_self)]
theorem kept_sub : ∀ (W : Waits) (kl : List Bool), ∀ p ∈ kept W kl, p ∈ W
  | [], _, p, h => by simp [kept] at h
  | _ :: _, [], p, h => by simp [kept] at h
  | q :: W, b :: kl, p, h => by
    unfold kept at h
    split at h
    · rcases List.mem_cons.1 h with rfl | h
      · exact List.mem_cons_self
      · exact List.mem_cons_of_mem _ (kept_sub W kl p h)
    · exact List.mem_cons_of_mem _ (kept_sub W kl p h)
noncomputable def settleN (S : List Blk) : Waits → List Blk → List Blk
  | [], N => N
  | p :: ps, N => settleN S ps (N.set p.1 (S.getD p.1 .zero))
theorem settleN_length (S : List Blk) : ∀ (ps : Waits) (N : List Blk), (settleN S ps N).length = N.length
  | [], _ => rfl
  | p :: ps, N => by rw [settleN, settleN_length S ps]; simp
theorem settleN_append (S : List Blk) : ∀ (ps qs : Waits) (N : List Blk), settleN S (ps ++ qs) N = settleN S qs (settleN S ps N)
  | [], _, _ => rfl
  | p :: ps, qs, N => by rw [List.cons_append, settleN, settleN, settleN_append S ps]
theorem settleN_all (S : List Blk) : ∀ (ps : Waits) (N : List Blk), N.length = S.length → (∀ b, (∀ p ∈ ps, p.1 ≠ b) → N[b]? = S[b]?) → settleN S ps N = S
  | [], N, _, h => by rw [settleN]; exact List.ext_getElem? fun i => h i (by simp)
  | p :: ps, N, hl, h => by
    rw [settleN]
    refine settleN_all S ps _ (by simp [hl]) fun b hb => ?_
    by_cases e : p.1 = b
    · subst e
      rcases Nat.lt_or_ge p.1 N.length with q | q
      · rw [List.getElem?_set_self q, List.getD_eq_getElem?_getD, List.getElem?_eq_getElem (by omega)]; rfl
      · rw [List.getElem?_eq_none (by simpa using q), List.getElem?_eq_none (by omega)]
    · rw [List.getElem?_set_ne e]
      exact h b fun q hq => by
        rcases List.mem_cons.1 hq with rfl | hq
        · exact e
        · exact hb q hq
theorem settle_now (L : List Blk) (W : Waits) (kl : List Bool) : settleN (over L (kept W kl)) W (over L W) = over L (kept W kl) :=
  settleN_all _ W _ (by rw [over_length, over_length]) fun b hb => by
    rw [over_other W L b hb, over_other _ L b fun p hp => hb p (kept_sub W kl p hp)]

def set1 (s : LS) (kl : List Bool) (k : Nat) : LS := { s with safe := over s.safe (kept (s.wait.take k) kl) }
theorem set1_no {s : LS} {kl : List Bool} {k : Nat} (h : k < s.wait.length) (hk : ¬ kl[k]? = some true) : set1 s kl (k + 1) = set1 s kl k := by
  unfold set1
  rw [kept_take s.wait kl k h, if_neg hk, List.append_nil]
theorem set1_yes {s : LS} {kl : List Bool} {k : Nat} {p : Nat × Blk} (h : s.wait[k]? = some p) (hk : kl[k]? = some true) : set1 s kl (k + 1) = { set1 s kl k with safe := (set1 s kl k).safe.set p.1 p.2 } := by
  obtain ⟨hlt, rfl⟩ := List.getElem?_eq_some_iff.1 h
  unfold set1
  rw [kept_take s.wait kl k hlt, if_pos hk, over_append]
  rfl
noncomputable def set2 (s : LS) (S : List Blk) (k : Nat) : LS := { s with safe := S, now := settleN S (s.wait.take k) s.now }
theorem set2_succ {s : LS} {S : List Blk} {k : Nat} {p : Nat × Blk} (h : s.wait[k]? = some p) : set2 s S (k + 1) = { set2 s S k with now := (set2 s S k).now.set p.1 (S.getD p.1 .zero) } := by
  obtain ⟨hlt, rfl⟩ := List.getElem?_eq_some_iff.1 h
  unfold set2
  rw [List.take_succ_eq_append_getElem hlt, settleN_append]
  rfl
section
variable (w : World) (b : Nat) (s : LS) (g o g2 o2 n c c2 : Nat) (v : Value) (av : Av)
set_option maxRecDepth 100000 in
set_option maxHeartbeats 2000000 in
theorem lSettle_any (fid : Nat) (caps : Array Value) (kl : List Bool) (hE : ∀ args W, (callFunc fid args).run Try.prog W = .ok (.enter fid args) W) (h : LDAt w b s g o g2 o2 n c c2 v av)
    (hT : ∀ (k : Nat) (w' : World), k < s.wait.length → Keep av w w' → Calls Try.prog fid (#[.int .i64 (k : Int)] ++ caps) w' fun e w'' => e = .returned (.bool (decide (kl[k]? = some true))) ∧ w'' = w') :
    Calls Try.prog 48 #[.pointer (some ⟨b, 0, none⟩), .func (.func fid) #[] caps] w fun e w' => e = .returned noResult ∧ LDAt w' b { s with safe := over s.safe (kept s.wait kl), now := settleN (over s.safe (kept s.wait kl)) s.wait s.now, wait := [] } g o g2 o2 n c c2 (.slice none 0 0) av ∧ Keep av w w' := by
  have HT := Lib.hid hT
  clear hT
  obtain ⟨A, cv, rfl⟩ := h.wait.shape
  have hWl : s.wait.length ≤ 1000000 := h.ok.2.2.2.1
  have R0 : Hid (LDAt w b (set1 s kl 0) g o g2 o2 n c c2 (.slice A s.wait.length cv) av) := Lib.hid h
  have HQ := Lib.hid h.ok.2.2.1
  have c2w := h.c2'
  clear h
  go_enter Try.func48, Try.ntmps48
  go_wp2_with fail
  go_loopw [12] (fun i wr => ∃ k : Nat, k ≤ s.wait.length ∧ i = .int .i64 k ∧ Hid (LDAt wr b (set1 s kl k) g o g2 o2 n c c2 (.slice A s.wait.length cv) av) ∧ Hid (Keep av w wr)) (fun i _ => s.wait.length - (intOf i).toNat)
  case atStart => exact ⟨0, Nat.zero_le _, rfl, R0, Lib.hid (Keep.refl _ _)⟩
  case round =>
    obtain ⟨k, hk, rfl, R, KP⟩ := hrel
    clear R0 c2w
    have c0' := R.out.c0
    have c2' := R.out.c2'
    by_cases hlt : k < s.wait.length
    · have j1 : (0 : Int) ≤ k := by omega
      have j2 : (k : Int) < s.wait.length := by omega
      have T := Lib.hid (HT.out k wr hlt KP.out)
      by_cases hx : kl[k]? = some true
      · have T' : Hid (Calls Try.prog fid (#[.int .i64 (k : Int)] ++ caps) wr fun e w'' => e = .returned (.bool true) ∧ w'' = wr) := Lib.hid (by have := T.out; rw [decide_eq_true hx] at this; exact this)
        have hW := List.getElem?_eq_getElem hlt
        have hqn := HQ.out _ (List.mem_of_getElem? hW)
        generalize s.wait[k] = wr2 at hW hqn
        obtain ⟨qb, X⟩ := wr2
        have KT := Lib.hid (set1_yes (s := s) (kl := kl) hW hx)
        dsimp only at KT hqn
        obtain ⟨gw, rfl⟩ : ∃ gw, A = some ⟨gw, 0, none⟩ := by
          rcases R.out.wait.2 with ⟨h1, h2⟩ | ⟨g', cap, cur, h1, _⟩
          · have : s.wait.length = 0 := h2
            omega
          · injection h1 with h1; exact ⟨g', h1⟩
        have wq := R.out.wait.cell (g := gw) rfl hW
        have wc1 := wq.1
        have THERE : wr.there g (o + qb * 256) 256 := R.out.img.there (i := qb) (by rw [← R.out.len]; exact hqn)
        obtain ⟨cl, hcl⟩ : ∃ cl : List Value, arr X = cl.toArray := ⟨(arr X).toList, by simp⟩
        have hcl2 : (arr X).toList = cl := by rw [hcl]
        have wc2 : wr.rangeAt gw (k * 257 + 1) cl := by have := wq.2; unfold At at this; rw [hcl2] at this; exact this
        have hcll : cl.length = 256 := by have := arr_length X; rw [hcl2] at this; exact this
        have hc1 : ∀ v ∈ cl, v.oneCell' = true := by
          have := arr_one X
          rw [Array.all_eq_true_iff_forall_mem] at this
          intro v hv
          exact this v (by rw [hcl]; simpa using hv)
        have hu := Try.underlying41
        have hi : (Try.prog.info? 41).map (·.size) = some cl.length := by rw [hcll]; exact blk_size
        have HCL := Lib.hid hcl2
        have THW : gw ≠ g := fun e => R.out.apart.2.2.2.2.1 (by rw [← e]; rfl)
        have THB : b ≠ g := R.out.apart.1
        have j4 : (0 : Int) ≤ qb := by omega
        have j5 : (qb : Int) < n := by omega
        clear hcl hcl2 wq hW hx T
        go_wp2_with fail
        refine T'.out.mono ?_
        rintro e w1 ⟨rfl, rfl⟩
        go_wp2_with fail
        go_region_held3 (fun w' => w'.cell? ⟨b, 0, none⟩ = some (Value.slice (some ⟨g, o, none⟩) n c) ∧ w'.cell? ⟨b, 2, none⟩ = some (Value.slice (some ⟨gw, 0, none⟩) s.wait.length cv) ∧ w'.cell? ⟨gw, k * 257, none⟩ = some (.int .i64 (qb : Int)) ∧ w'.rangeAt gw (k * 257 + 1) cl ∧ w'.there g (o + qb * 256) 256)
          (first
            | go_keep_ranges
            | (go_split_ands; exact ⟨(cell_out THB).trans (by assumption), (cell_out THB).trans (by assumption), (cell_out THW).trans (by assumption), World.rangeAt_setCells_apart (by assumption) _ _ _ (.inl THW), World.there_setCells (by assumption) _ _ _⟩))
          (fail)
        have R2 : Hid (LDAt (w1.drew.setCells g (o + qb * 256) cl) b (set1 s kl (k + 1)) g o g2 o2 n c c2 (.slice (some ⟨gw, 0, none⟩) s.wait.length cv) av) := Lib.hid (by
          have h := R.out.drew.set (i := qb) hqn X
          rw [HCL.out] at h
          rw [KT.out]
          exact h)
        have K2 : Hid (Keep av w (w1.drew.setCells g (o + qb * 256) cl)) := Lib.hid ((KP.out.trans (c := w1.drew) ⟨rfl, rfl, rfl, Nat.le_refl _, fun _ _ => rfl⟩).cells R.out.out.2.1 _ _)
        generalize w1.drew.setCells g (o + qb * 256) cl = w3 at R2 K2 ⊢
        clear R KP
        go_wp2_with fail
        go_roundw
        case rel => exact ⟨k + 1, by omega, by go_num, R2, K2⟩
        case measure => simp [intOf]; omega
      · have T' : Hid (Calls Try.prog fid (#[.int .i64 (k : Int)] ++ caps) wr fun e w'' => e = .returned (.bool false) ∧ w'' = wr) := Lib.hid (by have := T.out; rw [decide_eq_false hx] at this; exact this)
        have KT := Lib.hid (set1_no (s := s) hlt hx)
        clear hx T
        go_wp2_with fail
        refine T'.out.mono ?_
        rintro e w1 ⟨rfl, rfl⟩
        go_wp2_with fail
        go_roundw
        case rel => exact ⟨k + 1, by omega, by go_num, by rw [KT.out]; exact R, KP⟩
        case measure => simp [intOf]; omega
    · obtain rfl : k = s.wait.length := by omega
      have E0 : Hid (set1 s kl s.wait.length = set2 s (over s.safe (kept s.wait kl)) 0) := Lib.hid (by unfold set1 set2; rw [List.take_length, List.take_zero]; rfl)
      rw [E0.out] at R
      have LS : Hid ((over s.safe (kept s.wait kl)).length = n) := Lib.hid R.out.len.symm
      have EN : Hid ({ s with safe := over s.safe (kept s.wait kl), now := settleN (over s.safe (kept s.wait kl)) s.wait s.now, wait := [] } = { set2 s (over s.safe (kept s.wait kl)) s.wait.length with wait := [] }) := Lib.hid (by unfold set2; rw [List.take_length])
      clear HT E0
      obtain ⟨S, hS⟩ : ∃ S, over s.safe (kept s.wait kl) = S := ⟨_, rfl⟩
      rw [hS] at R LS EN
      have HS := Lib.hid hS
      clear hS
      go_wp2_with fail
      go_loopw [45] (fun i wr => ∃ k : Nat, k ≤ s.wait.length ∧ i = .int .i64 k ∧ Hid (LDAt wr b (set2 s S k) g o g2 o2 n c c2 (.slice A s.wait.length cv) av) ∧ Hid (Keep av w wr)) (fun i _ => s.wait.length - (intOf i).toNat)
      case atStart => exact ⟨0, Nat.zero_le _, rfl, R, KP⟩
      case round =>
        clear R KP c0' c2'
        obtain ⟨k, hk, rfl, R, KP⟩ := hrel
        have c0' := R.out.c0
        have c1' := R.out.c1
        have c2' := R.out.c2'
        by_cases hlt : k < s.wait.length
        · have j1 : (0 : Int) ≤ k := by omega
          have j2 : (k : Int) < s.wait.length := by omega
          have hW := List.getElem?_eq_getElem hlt
          have hqn := HQ.out _ (List.mem_of_getElem? hW)
          generalize s.wait[k] = wr2 at hW hqn
          obtain ⟨qb, Y⟩ := wr2
          have KT := Lib.hid (set2_succ (S := S) hW)
          dsimp only at KT hqn
          obtain ⟨gw, rfl⟩ : ∃ gw, A = some ⟨gw, 0, none⟩ := by
            rcases R.out.wait.2 with ⟨h1, h2⟩ | ⟨g', cap, cur, h1, _⟩
            · have : s.wait.length = 0 := h2
              omega
            · injection h1 with h1; exact ⟨g', h1⟩
          have wq := R.out.wait.cell (g := gw) rfl hW
          have wc1 := wq.1
          have hX : S[qb]? = some (S.getD qb .zero) := by rw [List.getD_eq_getElem?_getD, List.getElem?_eq_getElem (by rw [LS.out]; exact hqn)]; rfl
          have hat := R.out.img.at (i := qb) (x := S.getD qb .zero) hX
          generalize S.getD qb .zero = X at hX hat KT
          have THERE : wr.there g2 (o2 + qb * 256) 256 := R.out.img2.there (i := qb) (by rw [← R.out.len2]; exact hqn)
          obtain ⟨cl, hcl⟩ : ∃ cl : List Value, arr X = cl.toArray := ⟨(arr X).toList, by simp⟩
          have hcl2 : (arr X).toList = cl := by rw [hcl]
          have wc2 : wr.rangeAt g (o + qb * 256) cl := by have := hat; unfold At at this; rw [hcl2] at this; exact this
          have hcll : cl.length = 256 := by have := arr_length X; rw [hcl2] at this; exact this
          have hc1 : ∀ v ∈ cl, v.oneCell' = true := by
            have := arr_one X
            rw [Array.all_eq_true_iff_forall_mem] at this
            intro v hv
            exact this v (by rw [hcl]; simpa using hv)
          have hu := Try.underlying41
          have hi : (Try.prog.info? 41).map (·.size) = some cl.length := by rw [hcll]; exact blk_size
          have HCL := Lib.hid hcl2
          have THG : g ≠ g2 := R.out.apart.2.2.1
          have THB : b ≠ g2 := R.out.apart.2.1
          have j4 : (0 : Int) ≤ qb := by omega
          have j5 : (qb : Int) < n := by omega
          clear hcl hcl2 wq hW hX hat
          go_wp2_with fail
          go_region_held3 (fun w' => w'.cell? ⟨b, 0, none⟩ = some (Value.slice (some ⟨g, o, none⟩) n c) ∧ w'.cell? ⟨b, 1, none⟩ = some (Value.slice (some ⟨g2, o2, none⟩) n c2) ∧ w'.rangeAt g (o + qb * 256) cl ∧ w'.there g2 (o2 + qb * 256) 256)
            (first
              | go_keep_ranges
              | (go_split_ands; exact ⟨(cell_out THB).trans (by assumption), (cell_out THB).trans (by assumption), World.rangeAt_setCells_apart (by assumption) _ _ _ (.inl THG), World.there_setCells (by assumption) _ _ _⟩))
            (fail)
          have R2 : Hid (LDAt (wr.drew.setCells g2 (o2 + qb * 256) cl) b (set2 s S (k + 1)) g o g2 o2 n c c2 (.slice (some ⟨gw, 0, none⟩) s.wait.length cv) av) := Lib.hid (by
            have h := R.out.drew.set2 (i := qb) hqn X
            rw [HCL.out] at h
            rw [KT.out]
            exact h)
          have K2 : Hid (Keep av w (wr.drew.setCells g2 (o2 + qb * 256) cl)) := Lib.hid ((KP.out.trans (c := wr.drew) ⟨rfl, rfl, rfl, Nat.le_refl _, fun _ _ => rfl⟩).cells R.out.out.2.2.1 _ _)
          generalize wr.drew.setCells g2 (o2 + qb * 256) cl = w3 at R2 K2 ⊢
          clear R KP
          go_wp2_with fail
          go_roundw
          case rel => exact ⟨k + 1, by omega, by go_num, R2, K2⟩
          case measure => simp [intOf]; omega
        · obtain rfl : k = s.wait.length := by omega
          have f2 := row_frozen (k := 2) R.out.cells
          go_wp2_with fail
          refine bodyPost_end (results_none Try.results48 _ _ _) rfl ⟨rfl, ?_, KP.out.trans (rKeep R.out.out.1 _ _)⟩
          rw [HS.out, EN.out]
          exact R.out.clear
end
end Go.Proofs.Ytkolpdllogpklaa
namespace Go.Proofs.Ytkolpdllogpklaa
open Go.RowKit

theorem enter_fn {f : Nat} {fn : Func} {c : Code} (hf : Try.prog.funcs[f]? = some fn) (hname : (fn.name == "runtime.NumGoroutine") = false) (hb : fn.body = some c) (args : Array Value) (w : World) :
    (callFunc f args).run Try.prog w = .ok (.enter f args) w := by
  have h1 : fn.name ≠ "runtime.NumGoroutine" := by simpa using hname
  simp [callFunc, hf, h1, hb]
theorem kept_true : ∀ (W : Waits), kept W (List.replicate W.length true) = W
  | [] => rfl
  | p :: W => by rw [List.length_cons, List.replicate_succ, kept, if_pos rfl, kept_true W]
theorem flush1_any (k : Int) (w : World) : Calls Try.prog 49 #[.int .i64 k] w fun e w' => e = .returned (.bool true) ∧ w' = w := by
  go_enter Try.func49, Try.ntmps49
  go_wp2
  go_ret
  exact ⟨rfl, rfl⟩
section
variable (w : World) (b : Nat) (s : LS) (g o g2 o2 n c c2 : Nat) (v : Value) (av : Av)
theorem lFlush_any (h : LDAt w b s g o g2 o2 n c c2 v av) (hnow : s.now = over s.safe s.wait) (ha : s.acts < 1000000) :
    Calls Try.prog 41 #[.pointer (some ⟨b, 0, none⟩)] w fun e w' => e = .returned (.int .i64 (if s.left = some 0 then 30 else 0)) ∧ (∃ v', LDAt w' b (if s.left = some 0 then s else ⟨s.now, s.now, [], s.acts + 1, s.left.map (· - 1)⟩) g o g2 o2 n c c2 v' av) ∧ Keep av w w' := by
  have H := Lib.hid h
  clear h
  by_cases hl : s.left = some 0
  · have P := Lib.hid ((lPowerless_any w b s g o g2 o2 n c c2 v av H.out).mono fun e w' h => show e = .returned (.int .i64 30) ∧ w' = w by rw [if_pos hl] at h; exact h)
    rw [if_pos hl, if_pos hl]
    clear hl hnow
    go_enter Try.func41, Try.ntmps41
    go_wp2_with fail
    refine P.out.mono ?_
    rintro e w1 ⟨rfl, rfl⟩
    go_wp2_with fail
    go_ret
    exact ⟨rfl, ⟨_, H.out⟩, Keep.refl _ _⟩
  · have P := Lib.hid ((lPowerless_any w b s g o g2 o2 n c c2 v av H.out).mono fun e w' h => show e = .returned (.int .i64 0) ∧ w' = w by rw [if_neg hl] at h; exact h)
    rw [if_neg hl, if_neg hl]
    have HL := Lib.hid hl
    have HN := Lib.hid hnow
    clear hl hnow
    go_enter Try.func41, Try.ntmps41
    go_wp2_with fail
    refine P.out.mono ?_
    rintro e w1 ⟨rfl, rfl⟩
    go_wp2_with fail
    refine (lSettle_any w1 b s g o g2 o2 n c c2 v av 49 #[] (List.replicate s.wait.length true) (enter_fn Try.func49 (by kernel_rfl) rfl) H.out (fun k w' hk _ => by
      rw [List.getElem?_replicate, if_pos hk]
      exact flush1_any _ _)).mono ?_
    rintro e w2 ⟨rfl, h2, k2⟩
    have H2 : Hid (LDAt w2 b ⟨s.now, s.now, [], s.acts, s.left⟩ g o g2 o2 n c c2 (.slice none 0 0) av) := Lib.hid (by
      have h := h2
      rw [kept_true, ← HN.out] at h
      have e2 : settleN s.now s.wait s.now = s.now := by
        have := settle_now s.safe s.wait (List.replicate s.wait.length true)
        rw [kept_true, ← HN.out] at this
        exact this
      rw [e2] at h
      exact h)
    have K2 := Lib.hid k2
    clear h2 k2
    go_wp2_with fail
    refine (lActed_any w2 b ⟨s.now, s.now, [], s.acts, s.left⟩ g o g2 o2 n c c2 _ av H2.out HL.out ha).mono ?_
    rintro e w3 ⟨rfl, h3, k3⟩
    have H3 := Lib.hid h3
    have K3 := Lib.hid (K2.out.trans k3)
    clear h3 k3
    go_wp2_with fail
    go_ret
    exact ⟨rfl, ⟨_, H3.out⟩, K3.out⟩
theorem Bools.keep {w w' : World} {K : Option Addr} {kl : List Bool} (h : Bools w K kl) (hs : w.heap.size ≤ w'.heap.size) (hk : 0 < kl.length → ∀ b o, K = some ⟨b, o, none⟩ → w'.heap[b]? = w.heap[b]?) : Bools w' K kl := fun h0 => by
  obtain ⟨b, o, e, hb, hc⟩ := h h0
  refine ⟨b, o, e, Nat.lt_of_lt_of_le hb hs, fun i x hx => ?_⟩
  rw [← hc i x hx]; simp [World.cell?, hk h0 b o e]
end
end Go.Proofs.Ytkolpdllogpklaa
namespace Go.Proofs.Ytkolpdllogpklaa
open Go.RowKit

theorem LDAt.append {w w5 : World} {b : Nat} {s : LS} {g o g2 o2 n c c2 : Nat} {v : Value} {av : Av} (h : LDAt w b s g o g2 o2 n c c2 v av) {gg m cap k : Nat} {X : Blk} (hgrow : w.grownBy w5 v.ownBlock) (hat : v.ownBlock = some gg ∨ gg = w.heap.size)
    (hm : m = s.wait.length + 1) (hown : w5.ownsRow 0 89 257 (.slice (some ⟨gg, 0, none⟩) m cap) m (wcells s.wait ++ (wcell (k : Int) X).toList)) (hk : k < n) (hwl : s.wait.length < 1000000) :
    LDAt (w5.setCell ⟨b, 2, none⟩ (.slice (some ⟨gg, 0, none⟩) m cap)) b { s with wait := s.wait ++ [(k, X)] } g o g2 o2 n c c2 (.slice (some ⟨gg, 0, none⟩) m cap) av := by
  obtain ⟨a1, a2, a3, a4, a5, a6⟩ := h.apart
  obtain ⟨u1, u2, u3, u4⟩ := h.out
  have lb := h.lt
  have lg := h.img.lt
  have lg2 := h.img2.lt
  have hb5 : w5.heap[b]? = w.heap[b]? := hgrow.block b lb (fun e => a4 e.symm)
  have hg5 : w5.heap[g]? = w.heap[g]? := hgrow.block g lg (fun e => a5 e.symm)
  have hg25 : w5.heap[g2]? = w.heap[g2]? := hgrow.block g2 lg2 (fun e => a6 e.symm)
  have hgb : gg ≠ b := by rintro rfl; rcases hat with e | e; exact a4 e; omega
  have hgg : gg ≠ g := by rintro rfl; rcases hat with e | e; exact a5 e; omega
  have hgg2 : gg ≠ g2 := by rintro rfl; rcases hat with e | e; exact a6 e; omega
  have hav : ¬ av gg := by
    intro q
    rcases hat with e | e
    · exact u4 _ e q
    · have := h.bound _ q; omega
  have hsz := hgrow.size
  refine ⟨?_, h.len, h.len2, h.img.keep ((setCell_other _ _ _ _ _ (Ne.symm a1)).trans hg5), h.img2.keep ((setCell_other _ _ _ _ _ (Ne.symm a2)).trans hg25), ?_, ⟨a1, a2, a3, ?_, ?_, ?_⟩, ⟨u1, u2, u3, ?_⟩, fun i hi => ?_, ?_, h.lo⟩
  · rw [heap_setCell_same _ b 2 _ _ _ (hb5.trans h.cells)]; rfl
  · refine LOwn.keep (w := w5) ?_ (fun i e => setCell_other _ _ _ _ _ ?_)
    · subst hm
      unfold LOwn
      rw [List.length_append, wcells_snoc]
      exact hown
    · have : gg = i := by simpa [Value.ownBlock] using e
      rw [← this]; exact hgb
  · simp [Value.ownBlock]; exact hgb
  · simp [Value.ownBlock]; exact hgg
  · simp [Value.ownBlock]; exact hgg2
  · intro i e
    have : gg = i := by simpa [Value.ownBlock] using e
    rw [← this]; exact hav
  · have := h.bound i hi; rw [setCell_size]; omega
  · obtain ⟨o1, o2, o3, o4, o5⟩ := h.ok
    refine ⟨o1, o2, fun p hp => ?_, by simp; omega, o5⟩
    rcases List.mem_append.1 hp with hp | hp
    · exact o3 p hp
    · rw [List.mem_singleton] at hp; subst hp; exact hk
attribute [local go_sem ↓] exec_load
section
variable (w : World) (b : Nat) (s : LS) (g o g2 o2 n c c2 : Nat) (v : Value) (av : Av)
theorem lWrite_no (p : Int) (X : Blk) (h : LDAt w b s g o g2 o2 n c c2 v av) (he : errOf s p ≠ 0) :
    Calls Try.prog 40 #[.pointer (some ⟨b, 0, none⟩), .int .i64 p, .agg (arr X)] w fun e w' => e = .returned (.int .i64 (errOf s p)) ∧ Below w.heap.size w w' := by
  have B0 := (Below.refl w.heap.size w).alloc (Nat.le_refl _) (.cells (arr X) 41)
  have H1 := Lib.hid (h.below B0)
  have B1 := Lib.hid B0
  clear h B0
  have R := Lib.hid (lRefusal_any _ b s g o g2 o2 n c c2 v av p H1.out)
  obtain ⟨q, hq⟩ : ∃ q, errOf s p = q := ⟨_, rfl⟩
  rw [hq] at R he
  have t0 : (q != 0) = true := by rw [bne_iff_ne]; exact he
  have t1 : (q == 0) = false := by rw [beq_eq_false_iff_ne]; exact he
  have HE := Lib.hid hq
  clear he hq
  go_enter Try.func40, Try.ntmps40
  go_wp2_with fail
  refine R.out.mono ?_
  rintro e w1 ⟨rfl, rfl⟩
  go_wp2_with fail
  go_ret
  exact ⟨by rw [HE.out]; rfl, B1.out⟩
set_option maxRecDepth 100000 in
set_option maxHeartbeats 2000000 in
theorem lWrite_yes (k : Nat) (X : Blk) (h : LDAt w b s g o g2 o2 n c c2 v av) (he : errOf s k = 0) (ha : s.acts < 1000000) (hwl : s.wait.length < 1000000) :
    Calls Try.prog 40 #[.pointer (some ⟨b, 0, none⟩), .int .i64 (k : Int), .agg (arr X)] w fun e w' => e = .returned (.int .i64 0) ∧ (∃ v', LDAt w' b ⟨s.safe, s.now.set k X, s.wait ++ [(k, X)], s.acts + 1, s.left.map (· - 1)⟩ g o g2 o2 n c c2 v' av) ∧ Keep av w w' := by
  have hp : s.left ≠ some 0 ∧ k < n := by
    have := h.len
    unfold errOf at he
    split at he
    · omega
    · split at he
      · omega
      · exact ⟨by assumption, by omega⟩
  obtain ⟨hL, hk⟩ := hp
  have HL := Lib.hid hL
  have B0 := (Below.refl w.heap.size w).alloc (Nat.le_refl _) (.cells (arr X) 41)
  have H1 := Lib.hid (h.below B0)
  have B1 := Lib.hid B0
  have HB := Lib.hid h.bound
  have LV : Hid (∀ i, v.ownBlock = some i → i < w.heap.size) := Lib.hid fun i e => (h.wait.base_le i e).2
  have LB := Lib.hid h.lt
  have LG2 := Lib.hid h.img2.lt
  have R := Lib.hid (lRefusal_any _ b s g o g2 o2 n c c2 v av k H1.out)
  rw [he] at R
  clear h B0 he hL
  have hR := Lib.hid (At.row (heap_alloc_new w (.cells (arr X) 41)))
  obtain ⟨i0, hi0, hzz⟩ := Option.map_eq_some_iff.1 lwrite_info
  simp only [Prod.mk.injEq] at hzz
  obtain ⟨hz0, hz1, hz2⟩ := hzz
  have HZ0 := Lib.hid hz0
  have HZ1 := Lib.hid hz1
  have HZ2 := Lib.hid hz2
  have HI0 := Lib.hid hi0
  clear hz0 hz1 hz2 hi0
  have j1 : (0 : Int) ≤ k := by omega
  have j2 : (k : Int) < n := by omega
  go_enter Try.func40, Try.ntmps40
  go_wp2_with fail
  refine R.out.mono ?_
  rintro e w1 ⟨rfl, rfl⟩
  go_wp2_with fail
  have GN : Hid (some w.heap.size ≠ v.ownBlock) := Lib.hid (fun e => by have := LV.out _ e.symm; omega)
  have BN : Hid (some b ≠ v.ownBlock) := Lib.hid (fun e => H1.out.apart.2.2.2.1 e.symm)
  have XN : Hid (w.heap.size ≠ b) := Lib.hid (by have := LB.out; omega)
  have SZ : Hid ((w.alloc (.cells (arr X) 41)).heap.size = w.heap.size + 1) := Lib.hid (by simp)
  generalize w.alloc (.cells (arr X) 41) = w2 at *
  clear R
  have HA2 := Lib.hid H1.out.drew
  have hld := doLoad_run (w := w2.drew) hR.out
  have c1d : w2.drew.cell? ⟨b, 2, none⟩ = some v := H1.out.c2'
  have c1 : w2.cell? ⟨b, 2, none⟩ = some v := H1.out.c2'
  have c1a := alloc1_cell c1d (.cells (wcell (k : Int) X) 89)
  have c1e := alloc1_cell c1 (.cells (wcell (k : Int) X) 89)
  have BA : Hid (Below w2.drew.heap.size w2.drew (w2.drew.alloc (.cells (wcell (k : Int) X) 89))) := Lib.hid ((Below.refl _ _).alloc (Nat.le_refl _) _)
  have HA3 := Lib.hid (HA2.out.below BA.out)
  have HWL := Lib.hid hwl
  clear hwl
  go_region_law (refine step_append_lies _ (by rfl) _ _ _ (by rfl) 0 89 i0 _ 257 264 Try.underlying32 HI0.out HZ0.out HZ1.out HZ2.out wait_zero_cells (by omega) v s.wait.length _ (by rfl) HA3.out.wait ⟨w2.heap.size, 0, none⟩ 1 1 (wcell (k : Int) X).toList (by rfl) (wcell_list_len _ _) (World.news_of_block (cs := wcell (k : Int) X) (t := 89) (fr := (0, 0)) (heap_alloc_new w2.drew _)) (wcell_list_one _ _) (by omega) (by have := HWL.out; simp only [maxLen]; omega) (by have := HWL.out; omega) (by omega) (w2.heap.size + 1) (by simp) ?_; intro gg cap w5 hown1 hgrow hat hltg; have hB5 := (hgrow.block b HA3.out.lt (by exact BN.out)).trans HA3.out.cells; have c1b := (cell_of_row _ b 2 _ _ (0, 0) hB5).trans (by rfl : _ = some v); have f1b := row_frozen (k := 2) hB5)
  all_goals
    have HQ := Lib.hid (HA3.out.append (gg := gg) (cap := cap) (k := k) (X := X) hgrow (hat.imp id fun e => by rw [e]; simp) rfl hown1 hk HWL.out)
    have hR6 := Lib.hid (hR.out.keep (w' := w5.setCell ⟨b, 2, none⟩ (.slice (some ⟨gg, 0, none⟩) (s.wait.length + 1) cap)) ((setCell_other _ _ _ _ _ XN.out).trans ((hgrow.block w.heap.size (by simp; have := SZ.out; omega) GN.out).trans (BA.out.block w.heap.size (by show w.heap.size < w2.heap.size; have := SZ.out; omega)))))
    have KQ : Hid (Keep av w (w5.setCell ⟨b, 2, none⟩ (.slice (some ⟨gg, 0, none⟩) (s.wait.length + 1) cap))) := Lib.hid (by
      have hB := BA.out
      refine Keep.trans ?_ (rKeep HA3.out.out.1 _ _)
      refine ⟨hgrow.os.trans (hB.os.trans B1.out.os), hgrow.tape.trans (hB.tape.trans B1.out.tape), hgrow.output.trans (hB.output.trans B1.out.output), Nat.le_trans B1.out.size (Nat.le_trans hB.size hgrow.size), fun i hi => ?_⟩
      have l1 := HB.out i hi
      have l2 := Nat.lt_of_lt_of_le l1 B1.out.size
      exact (hgrow.block i (Nat.lt_of_lt_of_le l2 hB.size) (fun e => HA3.out.out.2.2.2 i e.symm hi)).trans ((hB.block i l2).trans (B1.out.block i l1)))
    generalize w5.setCell ⟨b, 2, none⟩ (.slice (some ⟨gg, 0, none⟩) (s.wait.length + 1) cap) = w6 at HQ KQ hR6 ⊢
    clear hown1 hgrow hat hltg hB5 c1b f1b HA3 BA c1a c1e HA2 hld
    obtain ⟨cl, hcl⟩ : ∃ cl : List Value, arr X = cl.toArray := ⟨(arr X).toList, by simp⟩
    have hcl2 : (arr X).toList = cl := by rw [hcl]
    have wc2 : w6.rangeAt w.heap.size 0 cl := by have := hR6.out; unfold At at this; rw [hcl2] at this; exact this
    have hcll : cl.length = 256 := by have := arr_length X; rw [hcl2] at this; exact this
    have hc1 : ∀ v ∈ cl, v.oneCell' = true := by
      have := arr_one X
      rw [Array.all_eq_true_iff_forall_mem] at this
      intro v hv
      exact this v (by rw [hcl]; simpa using hv)
    have hu := Try.underlying41
    have hi : (Try.prog.info? 41).map (·.size) = some cl.length := by rw [hcll]; exact blk_size
    have THERE : w6.there g2 (o2 + k * 256) 256 := HQ.out.img2.there (i := k) (by rw [← HQ.out.len2]; exact hk)
    have HCL := Lib.hid hcl2
    have THB : b ≠ g2 := HQ.out.apart.2.1
    have THX : w.heap.size ≠ g2 := by have := LG2.out; omega
    have c6 := HQ.out.c1
    clear hcl hcl2 c1 c1d
    go_wp2_with fail
    go_region_held3 (fun w' => w'.cell? ⟨b, 1, none⟩ = some (Value.slice (some ⟨g2, o2, none⟩) n c2) ∧ w'.rangeAt w.heap.size 0 cl ∧ w'.there g2 (o2 + k * 256) 256)
      (first
        | go_keep_ranges
        | (go_split_ands; exact ⟨(cell_out THB).trans (by assumption), World.rangeAt_setCells_apart (by assumption) _ _ _ (.inl THX), World.there_setCells (by assumption) _ _ _⟩))
      (fail)
    have R2 : Hid (LDAt (w6.drew.setCells g2 (o2 + k * 256) cl) b ⟨s.safe, s.now.set k X, s.wait ++ [(k, X)], s.acts, s.left⟩ g o g2 o2 n c c2 (.slice (some ⟨gg, 0, none⟩) (s.wait.length + 1) cap) av) := Lib.hid (by
      have h := HQ.out.drew.set2 (i := k) hk X
      rw [HCL.out] at h
      exact h)
    have K2 : Hid (Keep av w (w6.drew.setCells g2 (o2 + k * 256) cl)) := Lib.hid ((KQ.out.trans (c := w6.drew) ⟨rfl, rfl, rfl, Nat.le_refl _, fun _ _ => rfl⟩).cells HQ.out.out.2.2.1 _ _)
    generalize w6.drew.setCells g2 (o2 + k * 256) cl = w7 at R2 K2 ⊢
    clear HQ KQ wc2 THERE
    go_wp2_with fail
    refine (lActed_any w7 b _ g o g2 o2 n c c2 _ av R2.out HL.out ha).mono ?_
    rintro e w8 ⟨rfl, h8, k8⟩
    have D8 := Lib.hid h8
    have K8 := Lib.hid (K2.out.trans k8)
    clear h8 k8
    go_wp2_with fail
    go_ret
    exact ⟨rfl, ⟨_, D8.out⟩, K8.out⟩
end
end Go.Proofs.Ytkolpdllogpklaa
namespace Go.Proofs.Ytkolpdllogpklaa
open Go.RowKit

theorem now_set (s : DS) (k : Nat) (X : Blk) : over s.safe (s.wait ++ [(k, X)]) = s.now.set k X := by rw [over_append]; rfl
theorem ldead (s : DS) : s.dead = true ↔ (lsOf s).left = some 0 := by unfold DS.dead lsOf; simp
theorem oimg_made {w : World} {g n : Nat} {t : TypeId} (h : w.heap[g]? = some (.cells (madeBlks n) t (0, 0))) : OImg w g 0 (List.replicate n .zero) := by
  refine ⟨t, _, h, fun i x hx j hj => ?_⟩
  rw [List.getElem?_replicate] at hx
  split at hx
  · cases hx
    rename_i hi
    rw [madeBlks_get (by omega)]
    rfl
  · cases hx
end Go.Proofs.Ytkolpdllogpklaa
namespace Go.Proofs.Ytkolpdllogpklaa
open Go.RowKit

/-! What the program's calls say of a disk (LD), one theorem for each call. -/
theorem dk_frame : ∀ {w w' : World} {a : Addr} {s : DS} {av av' : Av}, LD w a s av → w.heap.size ≤ w'.heap.size → (∀ i, i < w.heap.size → ¬ av i → w'.heap[i]? = w.heap[i]?) → (∀ i, av' i → av i ∨ (w.heap.size ≤ i ∧ i < w'.heap.size)) → LD w' a s av' := by
    rintro w w' a s av av' ⟨⟨b, g, o, g2, o2, n, c, c2, v, rfl, h⟩, hl⟩ hs hk hv
    exact ⟨⟨b, g, o, g2, o2, n, c, c2, v, rfl, h.frame hs hk hv⟩, hl⟩
theorem dk_bound : ∀ {w : World} {a : Addr} {s : DS} {av : Av}, LD w a s av → ∀ i, av i → i < w.heap.size := by
    rintro w a s av ⟨⟨b, g, o, g2, o2, n, c, c2, v, rfl, h⟩, _⟩
    exact h.bound
theorem dk_ok : ∀ {w : World} {a : Addr} {s : DS} {av : Av}, LD w a s av → s.ok := by
    rintro w a s av ⟨⟨b, g, o, g2, o2, n, c, c2, v, rfl, h⟩, hl⟩
    obtain ⟨o1, o2, o3, o4, o5⟩ := h.ok
    have hn : n = s.safe.length := h.len
    exact ⟨by omega, by omega, fun p hp => by rw [← hn]; exact o3 p hp, hl, o5⟩
theorem dk_new_no : ∀ (n : Int) (w : World), n < 1 ∨ 2048 < n → Calls Try.prog 22 #[.int .i64 n] w fun e w' => e = .returned (.tuple #[.pointer none, .int .i64 2]) ∧ Below w.heap.size w w' := fun n w h => (lNew_no n w h).mono fun _ _ ⟨he, hw⟩ => ⟨he, hw ▸ Below.refl _ _⟩
theorem dk_new_yes : ∀ (n : Int) (w : World), 1 ≤ n → n ≤ 2048 → Calls Try.prog 22 #[.int .i64 n] w fun e w' => (∃ a, e = .returned (.tuple #[.pointer (some a), .int .i64 0]) ∧ LD w' a (.new n.toNat) (· < w.heap.size)) ∧ Below w.heap.size w w' := fun n w h1 h2 => by
    obtain ⟨k, rfl⟩ := Int.eq_ofNat_of_zero_le (show 0 ≤ n by omega)
    refine (lNew_yes k w (by omega) (by omega)).mono ?_
    rintro e w' ⟨⟨b, g, g2, rfl, hN⟩, hB⟩
    have e1 := hN.r1
    refine ⟨⟨_, rfl, ⟨b, g, 0, g2, 0, k, k, k, .slice none 0 0, rfl, ?_⟩, Nat.le_refl _⟩, hB⟩
    rw [Int.toNat_natCast]
    exact hN.disk (w0 := w) (w := w') (w' := w') rfl rfl (l := List.replicate k .zero) (l2 := List.replicate k .zero) (oimg_made hN.r1) (oimg_made hN.r2) (by simp) (by simp) (by omega) (by omega) _ (fun _ h => h) hB.size
theorem dk_blocks : ∀ (a : Addr) (s : DS) (av : Av) (w : World), LD w a s av → Calls Try.prog 32 #[.pointer (some a)] w fun e w' => e = .returned (.int .i64 (s.safe.length : Nat)) ∧ LD w' a s av ∧ Keep av w w' := by
    rintro a s av w ⟨⟨b, g, o, g2, o2, n, c, c2, v, rfl, h⟩, hl⟩
    refine (lBlocks_any w b (lsOf s) g o g2 o2 n c c2 v av h).mono ?_
    rintro e w' ⟨rfl, rfl⟩
    exact ⟨by rw [h.len]; rfl, ⟨⟨b, g, o, g2, o2, n, c, c2, v, rfl, h⟩, hl⟩, Keep.refl _ _⟩
theorem dk_waiting : ∀ (a : Addr) (s : DS) (av : Av) (w : World), LD w a s av → Calls Try.prog 25 #[.pointer (some a)] w fun e w' => e = .returned (.int .i64 (s.wait.length : Nat)) ∧ LD w' a s av ∧ Keep av w w' := by
    rintro a s av w ⟨⟨b, g, o, g2, o2, n, c, c2, v, rfl, h⟩, hl⟩
    obtain ⟨A, cv, rfl⟩ := h.wait.shape
    refine (lWaiting_any w b (lsOf s) g o g2 o2 n c c2 av A cv h).mono ?_
    rintro e w' ⟨rfl, rfl⟩
    exact ⟨rfl, ⟨⟨b, g, o, g2, o2, n, c, c2, _, rfl, h⟩, hl⟩, Keep.refl _ _⟩
theorem dk_dead : ∀ (a : Addr) (s : DS) (av : Av) (w : World), LD w a s av → Calls Try.prog 52 #[.pointer (some a)] w fun e w' => e = .returned (.bool s.dead) ∧ LD w' a s av ∧ Keep av w w' := by
    rintro a s av w ⟨⟨b, g, o, g2, o2, n, c, c2, v, rfl, h⟩, hl⟩
    refine (lDead_any w b (lsOf s) g o g2 o2 n c c2 v av h).mono ?_
    rintro e w' ⟨rfl, rfl⟩
    exact ⟨rfl, ⟨⟨b, g, o, g2, o2, n, c, c2, v, rfl, h⟩, hl⟩, Keep.refl _ _⟩
theorem dk_read : ∀ (a : Addr) (s : DS) (av : Av) (b : Int) (w : World), LD w a s av → Calls Try.prog 28 #[.pointer (some a), .int .i64 b] w fun e w' => e = .returned (.tuple #[.agg (arr (s.read b)), .int .i64 (s.err b)]) ∧ LD w' a s av ∧ Keep av w w' := by
    rintro a s av p w ⟨⟨b, g, o, g2, o2, n, c, c2, v, rfl, h⟩, hl⟩
    refine (lRead_any w b (lsOf s) g o g2 o2 n c c2 v av p h).mono ?_
    rintro e w' ⟨rfl, hB⟩
    refine ⟨?_, ⟨⟨b, g, o, g2, o2, n, c, c2, v, rfl, h.below hB⟩, hl⟩, (Keep.of_below hB).mono h.bound⟩
    unfold readOf DS.read
    rw [errOf_ls]; rfl
theorem dk_write : ∀ (a : Addr) (s : DS) (av : Av) (b : Int) (x : Blk) (w : World), LD w a s av → s.acts < 1000000 → Calls Try.prog 40 #[.pointer (some a), .int .i64 b, .agg (arr x)] w fun e w' => e = .returned (.int .i64 (s.err b)) ∧ LD w' a (s.write b x) av ∧ Keep av w w' := by
    rintro a s av p x w ⟨⟨b, g, o, g2, o2, n, c, c2, v, rfl, h⟩, hl⟩ ha
    by_cases he : errOf (lsOf s) p = 0
    · have h0 : 0 ≤ p := by
        unfold errOf at he
        split at he
        · omega
        · split at he
          · omega
          · omega
      obtain ⟨k, rfl⟩ := Int.eq_ofNat_of_zero_le h0
      refine (lWrite_yes w b (lsOf s) g o g2 o2 n c c2 v av k x h he ha (by have : s.wait.length ≤ s.acts := hl; show s.wait.length < 1000000; omega)).mono ?_
      rintro e w' ⟨rfl, ⟨v', h'⟩, hk⟩
      rw [errOf_ls] at he
      refine ⟨by rw [he], ⟨⟨b, g, o, g2, o2, n, c, c2, v', rfl, ?_⟩, ?_⟩, hk⟩
      · have e2 : lsOf (s.write k x) = ⟨s.safe, s.now.set k x, s.wait ++ [(k, x)], s.acts + 1, s.left.map (· - 1)⟩ := by
          unfold DS.write
          rw [if_pos he, Int.toNat_natCast, ← now_set]
          rfl
        rw [e2]; exact h'
      · unfold DS.write
        rw [if_pos he]
        show (s.wait ++ [(_, x)]).length ≤ s.acts + 1
        simp; exact hl
    · refine (lWrite_no w b (lsOf s) g o g2 o2 n c c2 v av p x h he).mono ?_
      rintro e w' ⟨rfl, hB⟩
      rw [errOf_ls] at he
      have e2 : s.write p x = s := by unfold DS.write; rw [if_neg he]
      exact ⟨by rw [errOf_ls], by rw [e2]; exact ⟨⟨b, g, o, g2, o2, n, c, c2, v, rfl, h.below hB⟩, hl⟩, (Keep.of_below hB).mono h.bound⟩
theorem dk_flush : ∀ (a : Addr) (s : DS) (av : Av) (w : World), LD w a s av → s.acts < 1000000 → Calls Try.prog 41 #[.pointer (some a)] w fun e w' => e = .returned (.int .i64 (s.err 0)) ∧ LD w' a s.flush av ∧ Keep av w w' := by
    rintro a s av w ⟨⟨b, g, o, g2, o2, n, c, c2, v, rfl, h⟩, hl⟩ ha
    refine (lFlush_any w b (lsOf s) g o g2 o2 n c c2 v av h rfl ha).mono ?_
    rintro e w' ⟨rfl, ⟨v', h'⟩, hk⟩
    have hn : (1 : Int) ≤ s.safe.length := by have h1 := h.ok.1; have h2 : n = s.safe.length := h.len; omega
    cases hd : s.dead
    · have hd' : ¬ (lsOf s).left = some 0 := fun q => by rw [(ldead s).2 q] at hd; cases hd
      rw [if_neg hd'] at h' ⊢
      have e2 : lsOf s.flush = ⟨s.now, s.now, [], s.acts + 1, s.left.map (· - 1)⟩ := by rw [DS.flush_live hd]; rfl
      refine ⟨?_, ⟨⟨b, g, o, g2, o2, n, c, c2, v', rfl, by rw [e2]; exact h'⟩, by rw [DS.flush_live hd]; exact Nat.zero_le _⟩, hk⟩
      rw [DS.err_in hd (by omega)]
    · have hd' := (ldead s).1 hd
      rw [if_pos hd'] at h' ⊢
      have e2 : s.flush = s := by unfold DS.flush; rw [if_pos hd]
      exact ⟨by rw [DS.err_dead hd], by rw [e2]; exact ⟨⟨b, g, o, g2, o2, n, c, c2, v', rfl, h'⟩, hl⟩, hk⟩
theorem dk_safe : ∀ (a : Addr) (s : DS) (av : Av) (w : World), LD w a s av → Calls Try.prog 24 #[.pointer (some a)] w fun e w' => (∃ g o c, e = .returned (.slice (some ⟨g, o, none⟩) s.safe.length c) ∧ OImg w' g o s.safe ∧ w.heap.size ≤ g ∧ LD w' a s (fun i => av i ∨ i = g)) ∧ Keep av w w' := by
    rintro a s av w ⟨⟨b, g, o, g2, o2, n, c, c2, v, rfl, h⟩, hl⟩
    refine (lSafe_any w b (lsOf s) g o g2 o2 n c c2 v av h).mono ?_
    rintro e w' ⟨rfl, hi, hB⟩
    refine ⟨⟨w.heap.size, 0, n, by rw [h.len]; rfl, hi, Nat.le_refl _, ⟨b, g, o, g2, o2, n, c, c2, v, rfl, h.frame hB.size (fun i hi _ => hB.block i hi) fun i hi => ?_⟩, hl⟩, (Keep.of_below hB).mono h.bound⟩
    rcases hi with q | rfl
    · exact .inl q
    · exact .inr ⟨Nat.le_refl _, hi.lt⟩

section
theorem dk_drew {w : World} {a : Addr} {s : DS} {av : Av} (h : LD w a s av) : LD w.drew a s av := dk_frame h (Nat.le_refl _) (fun _ _ _ => rfl) fun _ h => .inl h
theorem dk_below {w w' : World} {a : Addr} {s : DS} {av : Av} (h : LD w a s av) (hb : Below w.heap.size w w') : LD w' a s av := dk_frame h hb.size (fun i hi _ => hb.block i hi) fun _ h => .inl h
theorem dk_new' {w w' : World} {a : Addr} {s : DS} {av : Av} (h : LD w a s av) (hb : Below w.heap.size w w') : LD w' a s (fun i => av i ∨ (w.heap.size ≤ i ∧ i < w'.heap.size)) := dk_frame h hb.size (fun i hi _ => hb.block i hi) fun _ h => h
theorem dk_mono {w : World} {a : Addr} {s : DS} {av av' : Av} (h : LD w a s av) (hv : ∀ i, av' i → av i) : LD w a s av' := dk_frame h (Nat.le_refl _) (fun _ _ _ => rfl) fun i hi => .inl (hv i hi)
theorem dk_cells {w : World} {a : Addr} {s : DS} {av : Av} (h : LD w a s av) {g : Nat} (hg : av g) (o : Nat) (vs : List Value) : LD (w.setCells g o vs) a s av :=
  dk_frame h (by rw [setCells_size]; exact Nat.le_refl _) (fun i _ hi => setCells_heap_ne g vs o w i (fun e => hi (e ▸ hg))) fun _ h => .inl h
end
end Go.Proofs.Ytkolpdllogpklaa
namespace Go.Proofs.Ytkolpdllogpklaa
open Go.RowKit

/-! A disk that nobody made: nil, or one of the zero value. -/
def Nob (w : World) (v : Value) : Prop := v = .pointer none ∨ ∃ b, v = .pointer (some ⟨b, 0, none⟩) ∧ w.heap[b]? = some (.cells #[.slice none 0 0, .slice none 0 0, .slice none 0 0, .int .i64 0, .int .i64 0] 34 (0, 0))
theorem Nob.below {w w' : World} {v : Value} (h : Nob w v) (hb : Below w.heap.size w w') : Nob w' v := by
  rcases h with h | ⟨b, e, hc⟩
  · exact .inl h
  · refine .inr ⟨b, e, (hb.block b ?_).trans hc⟩
    rcases Nat.lt_or_ge b w.heap.size with q | q
    · exact q
    · rw [Array.getElem?_eq_none q] at hc; cases hc
section
variable (w : World) (v : Value)
theorem nMade_any (h : Nob w v) : Calls Try.prog 42 #[v] w fun e w' => e = .returned (.bool false) ∧ w' = w := by
  rcases h with rfl | ⟨b, rfl, hc⟩
  · go_enter Try.func42, Try.ntmps42
    go_wp2
    go_ret
    exact ⟨rfl, rfl⟩
  · have c0 := (cell_of_row w b 0 _ _ (0, 0) hc).trans (by rfl : _ = some (Value.slice none 0 0))
    clear hc
    go_enter Try.func42, Try.ntmps42
    go_wp2
    go_ret
    exact ⟨rfl, rfl⟩
theorem nPowerless_any (h : Nob w v) : Calls Try.prog 47 #[v] w fun e w' => e = .returned (.int .i64 1) ∧ w' = w := by
  have H := Lib.hid (nMade_any w v h)
  clear h
  go_enter Try.func47, Try.ntmps47
  go_wp2_with fail
  refine H.out.mono ?_
  rintro e w1 ⟨rfl, rfl⟩
  go_wp2_with fail
  go_ret
  exact ⟨rfl, rfl⟩
theorem nRefusal_any (p : Int) (h : Nob w v) : Calls Try.prog 44 #[v, .int .i64 p] w fun e w' => e = .returned (.int .i64 1) ∧ w' = w := by
  have H := Lib.hid (nPowerless_any w v h)
  clear h
  go_enter Try.func44, Try.ntmps44
  go_wp2_with fail
  refine H.out.mono ?_
  rintro e w1 ⟨rfl, rfl⟩
  go_wp2_with fail
  go_ret
  exact ⟨rfl, rfl⟩
set_option maxRecDepth 100000 in
theorem nRead_any (p : Int) (h : Nob w v) : Calls Try.prog 28 #[v, .int .i64 p] w fun e w' => e = .returned (.tuple #[.agg (arr .zero), .int .i64 1]) ∧ Below w.heap.size w w' := by
  have hz := fun W => zero_blk W
  have B1 := Lib.hid ((Below.refl w.heap.size w).alloc (Nat.le_refl _) (.cells (arr .zero) 41))
  have H := Lib.hid (nRefusal_any _ v p (h.below B1.out))
  clear h
  go_enter Try.func28, Try.ntmps28
  go_wp2_with fail
  refine H.out.mono ?_
  rintro e w1 ⟨rfl, rfl⟩
  go_wp2_with (first
    | (refine build_zero_w rfl rfl ?_)
    | (refine store_row rfl (.tmp 4) (.tmp 12) rfl w.heap.size .zero .zero 41 rfl rfl (heap_alloc_new w _) ?_))
  exact bodyPost_ret (v := .tuple #[.agg (arr .zero), .int .i64 1]) (results_blk_tmp Try.results28 _ _ w.heap.size .zero _ rfl (setRow_heap _ _ _ _ _ _ (heap_alloc_new w _))) rfl ⟨rfl, below_setRow B1.out (Nat.le_refl _) _⟩
theorem nWrite_any (p : Int) (X : Blk) (h : Nob w v) : Calls Try.prog 40 #[v, .int .i64 p, .agg (arr X)] w fun e w' => e = .returned (.int .i64 1) ∧ Below w.heap.size w w' := by
  have B1 := Lib.hid ((Below.refl w.heap.size w).alloc (Nat.le_refl _) (.cells (arr X) 41))
  have H := Lib.hid (nRefusal_any _ v p (h.below B1.out))
  clear h
  go_enter Try.func40, Try.ntmps40
  go_wp2_with fail
  refine H.out.mono ?_
  rintro e w1 ⟨rfl, rfl⟩
  go_wp2_with fail
  go_ret
  exact ⟨rfl, B1.out⟩
theorem nFlush_any (h : Nob w v) : Calls Try.prog 41 #[v] w fun e w' => e = .returned (.int .i64 1) ∧ w' = w := by
  have H := Lib.hid (nPowerless_any w v h)
  clear h
  go_enter Try.func41, Try.ntmps41
  go_wp2_with fail
  refine H.out.mono ?_
  rintro e w1 ⟨rfl, rfl⟩
  go_wp2_with fail
  go_ret
  exact ⟨rfl, rfl⟩
theorem nDead_any (h : Nob w v) : Calls Try.prog 52 #[v] w fun e w' => e = .returned (.bool false) ∧ w' = w := by
  have H := Lib.hid (nMade_any w v h)
  clear h
  go_enter Try.func52, Try.ntmps52
  go_wp2_with fail
  refine H.out.mono ?_
  rintro e w1 ⟨rfl, rfl⟩
  go_wp2_with fail
  go_ret
  exact ⟨rfl, rfl⟩
theorem nBlocks_any (h : Nob w v) : Calls Try.prog 32 #[v] w fun e w' => e = .returned (.int .i64 0) ∧ w' = w := by
  have H := Lib.hid (nMade_any w v h)
  clear h
  go_enter Try.func32, Try.ntmps32
  go_wp2_with fail
  refine H.out.mono ?_
  rintro e w1 ⟨rfl, rfl⟩
  go_wp2_with fail
  go_ret
  exact ⟨rfl, rfl⟩
theorem nWaiting_any (h : Nob w v) : Calls Try.prog 25 #[v] w fun e w' => e = .returned (.int .i64 0) ∧ w' = w := by
  have H := Lib.hid (nMade_any w v h)
  clear h
  go_enter Try.func25, Try.ntmps25
  go_wp2_with fail
  refine H.out.mono ?_
  rintro e w1 ⟨rfl, rfl⟩
  go_wp2_with fail
  go_ret
  exact ⟨rfl, rfl⟩
theorem nSafe_any (h : Nob w v) : Calls Try.prog 24 #[v] w fun e w' => e = .returned (.slice none 0 0) ∧ w' = w := by
  have H := Lib.hid (nMade_any w v h)
  clear h
  go_enter Try.func24, Try.ntmps24
  go_wp2_with fail
  refine H.out.mono ?_
  rintro e w1 ⟨rfl, rfl⟩
  go_wp2_with fail
  go_ret
  exact ⟨rfl, rfl⟩
end
end Go.Proofs.Ytkolpdllogpklaa
