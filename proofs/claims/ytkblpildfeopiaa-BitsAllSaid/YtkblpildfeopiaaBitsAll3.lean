import Derived.Test.YtkblpildfeopiaaBitsAll2
namespace Go.Proofs.Ytkblpildfeopiaa
open Go.RowKit Go.Shelf Go.BigFrame
attribute [local go_sem] Oper.semAt_some

theorem lt_of_row {w : World} {r : Nat} {o : Obj} (h : w.heap[r]? = some o) : r < w.heap.size := (Array.getElem?_eq_some_iff.1 h).1
theorem le_last {l : List Nat} (h : l.Pairwise (· < ·)) {j t : Nat} (hj : j ∈ l) (ht : l.getLast? = some t) : j ≤ t := by
  obtain ⟨d, rfl⟩ := List.getLast?_eq_some_iff.1 ht
  rcases List.mem_append.1 hj with q | q
  · exact Nat.le_of_lt ((List.pairwise_append.1 h).2.2 j q t (by simp))
  · simp at q; omega
/-- Between what came last and what comes next nothing is set. -/
theorem all_gap {X : Blk} {c x : Nat} {ini : List Nat} (h : (allOnes X).take c = ini ++ [x]) (j : Nat) (h1 : lastI ini < j) (h2 : j < x) : bit X j = false := by
  cases hb : bit X j with
  | false => rfl
  | true =>
    exfalso
    have hx : x ∈ allOnes X := List.mem_of_mem_take (by rw [h]; simp)
    have hx2 := (all_mem X x).1 hx
    have hj : j ∈ allOnes X := (all_mem X j).2 ⟨by omega, hb⟩
    have he : allOnes X = (ini ++ [x]) ++ (allOnes X).drop c := by rw [← h, List.take_append_drop]
    have hr := all_rise X
    rw [he] at hr hj
    have hp := List.pairwise_append.1 hr
    have hq := List.pairwise_append.1 hp.1
    rcases List.mem_append.1 hj with q | q
    · rcases List.mem_append.1 q with q | q
      · unfold lastI at h1
        cases hl : ini.getLast? with
        | none => rw [List.getLast?_eq_none_iff] at hl; rw [hl] at q; simp at q
        | some t =>
          rw [hl] at h1
          have hle := le_last hq.1 q hl
          have ht : t < 2048 := ((all_mem X t).1 (by rw [he]; simp [List.mem_of_getLast? hl])).1
          have h3 : ((nib t : Nat) : Int) < j := h1
          rw [nib_of ht] at h3
          omega
      · simp at q; omega
    · have := hp.2.2 x (by simp) j q; omega
/-- What the inner walk stands at is what comes next. -/
theorem all_least {X : Blk} {c x k : Nat} {ini : List Nat} (h : (allOnes X).take c = ini ++ [x]) (h0 : lastI ini < k) (h1 : ∀ j : Nat, lastI ini < j → j < k → bit X j = false) (h2 : k = 2048 ∨ (k < 2048 ∧ bit X k = true)) : nib x = k := by
  have hn := all_next h
  have hx : x ∈ allOnes X := List.mem_of_mem_take (by rw [h]; simp)
  have hx2 := (all_mem X x).1 hx
  rw [nib_of hx2.1] at hn ⊢
  rcases Nat.lt_trichotomy x k with q | q | q
  · have := h1 x hn.1 q; rw [hx2.2] at this; cases this
  · exact q
  · have hg := all_gap h k h0 q
    rcases h2 with r | r
    · omega
    · rw [r.2] at hg; cases hg
/-- The number that a cell holds. -/
def cellNat (wr : World) (p : Nat) : Nat := match wr.cell? ⟨p, 0, none⟩ with | some (.int _ i) => i.toNat | _ => 0
theorem Cell1.nat {wr : World} {p : Nat} {i : Int} {κ : IntKind} (h : Cell1 wr p (.int κ i)) : cellNat wr p = i.toNat := by unfold cellNat; rw [h.1]

set_option maxRecDepth 100000 in
set_option maxHeartbeats 4000000 in
theorem bitsAll_in (hS : BitsSays) (hA : AllSays) (F : Fence) (m : Nat) (hW : F = Fence.wide) (hF : ∀ f, F.fn f) (hro : F.round = none) (hm : 6 ≤ m) (lift : Lift F) (X : Blk) (n : Int) (w : World) (h1 : I64 n) :
    CallsIn F m Try.prog 5 #[.agg (arr X), .int .i64 n] w fun e w' => e = .returned (.bool true) ∧ Below w.heap.size w w' := by
  have hm1 : 1 ≤ m := by omega
  have HS := Lib.hid hS
  have HA := Lib.hid hA
  have HL := Lib.hid lift
  have H1 := Lib.hid h1
  have HF := Lib.hid hF
  have HW := Lib.hid hW
  clear hW
  clear hS hA lift h1
  have hnil := all_nil
  have b0 : Hid ((((w.alloc (.cells (arr X) 23)).alloc (.cells #[.int .i64 n] 3)).alloc (.cells #[.bool false] 4)).heap[w.heap.size]? = some (.cells (arr X) 23 (0, 0))) := Lib.hid (by
    rw [heap_alloc_old _ _ (by simp; omega), heap_alloc_old _ _ (by simp), heap_alloc_new])
  have b1 : Hid ((((w.alloc (.cells (arr X) 23)).alloc (.cells #[.int .i64 n] 3)).alloc (.cells #[.bool false] 4)).heap[w.heap.size + 1]? = some (.cells #[.int .i64 n] 3 (0, 0))) := Lib.hid (by
    have e : (w.alloc (.cells (arr X) 23)).heap.size = w.heap.size + 1 := by simp
    rw [heap_alloc_old _ _ (by simp), ← e, heap_alloc_new])
  have b2 : Hid ((((w.alloc (.cells (arr X) 23)).alloc (.cells #[.int .i64 n] 3)).alloc (.cells #[.bool false] 4)).heap[w.heap.size + 1 + 1]? = some (.cells #[.bool false] 4 (0, 0))) := Lib.hid (by
    have e : ((w.alloc (.cells (arr X) 23)).alloc (.cells #[.int .i64 n] 3)).heap.size = w.heap.size + 1 + 1 := by simp
    rw [← e, heap_alloc_new])
  have B0 : Hid (Below w.heap.size w (((w.alloc (.cells (arr X) 23)).alloc (.cells #[.int .i64 n] 3)).alloc (.cells #[.bool false] 4))) := Lib.hid ((((Below.refl _ w).alloc (Nat.le_refl _) _).alloc (by simp) _).alloc (by simp; omega) _)
  have S0 : Hid ((((w.alloc (.cells (arr X) 23)).alloc (.cells #[.int .i64 n] 3)).alloc (.cells #[.bool false] 4)).heap.size = w.heap.size + 3) := Lib.hid (by simp)
  refine callsIn_of_wp_marks Try.func5 rfl (hF _) ?_ hro
  simp only [Try.ntmps5, List.size_toArray, List.length_cons, List.length_nil, Nat.reduceAdd, Nat.reduceSub, Array.replicate_succ, Array.replicate_zero, List.push_toArray, List.append_toArray, List.nil_append, List.cons_append]
  have V0 : Hid (Var (((w.alloc (.cells (arr X) 23)).alloc (.cells #[.int .i64 n] 3)).alloc (.cells #[.bool false] 4)) w.heap.size X) := b0
  gi_wp2_with (refine load_blk_in rfl (.tmp 2) rfl w.heap.size 0 rfl X V0.out.at ?_)
  generalize ((w.alloc (.cells (arr X) 23)).alloc (.cells #[.int .i64 n] 3)).alloc (.cells #[.bool false] 4) = w1 at b0 b1 b2 B0 S0 V0 ⊢
  refine (HL.out _ _ _ _ _ (HA.out.all X w1)).mono ?_
  rintro e w2 ⟨lb, rfl, hb, hst⟩
  have ST := Lib.hid hst
  have B2 := Lib.hid (B0.out.trans (hb.mono B0.out.size))
  have r1 := Lib.hid ((hb.block (w.heap.size + 1) (by rw [S0.out]; omega)).trans b1.out)
  have r2 := Lib.hid ((hb.block (w.heap.size + 1 + 1) (by rw [S0.out]; omega)).trans b2.out)
  have V2 := Lib.hid (V0.out.below hb)
  have S2 : Hid (w.heap.size + 3 ≤ w2.heap.size) := Lib.hid (by rw [← S0.out]; exact hb.size)
  clear b0 b1 b2 B0 S0 V0 hb hst
  gi_wp2_with (refine load_blk_in rfl (.tmp 2) rfl w.heap.size 0 rfl X V2.out.at ?_)
  refine (HL.out _ _ _ _ _ (rOf_w X w2)).mono ?_
  rintro e w3 ⟨r, rfl, hO⟩
  have OR := Lib.hid hO.row
  have OL := Lib.hid hO.le
  have OB := Lib.hid hO.below
  have RL : Hid (r < w3.heap.size) := Lib.hid (lt_of_row hO.row)
  clear hO
  have LE3 : Hid (w2.heap.size ≤ w3.heap.size) := Lib.hid OB.out.size
  gi_wp2
  have hb0 : Below w3.heap.size w3 (((w3.alloc (.cells #[.slice (some ⟨r, 0, none⟩) 2048 2048] 35)).alloc (.cells #[.int .i64 0] 3)).alloc (.cells #[.int .i64 0] 3)) := (((Below.refl _ _).alloc (Nat.le_refl _) _).alloc (by simp) _).alloc (by simp; omega) _
  have e1 : (w3.alloc (.cells #[.slice (some ⟨r, 0, none⟩) 2048 2048] 35)).heap.size = w3.heap.size + 1 := by simp
  have e2 : ((w3.alloc (.cells #[.slice (some ⟨r, 0, none⟩) 2048 2048] 35)).alloc (.cells #[.int .i64 0] 3)).heap.size = w3.heap.size + 1 + 1 := by simp
  have KS : Hid (Cell1 (((w3.alloc (.cells #[.slice (some ⟨r, 0, none⟩) 2048 2048] 35)).alloc (.cells #[.int .i64 0] 3)).alloc (.cells #[.int .i64 0] 3)) w3.heap.size (.slice (some ⟨r, 0, none⟩) 2048 2048)) := Lib.hid (((cell1_new w3 _ _).below ((Below.refl _ _).alloc (Nat.le_refl _) _)).below ((Below.refl _ _).alloc (Nat.le_refl _) _))
  have K0 : Hid (Cell1 (((w3.alloc (.cells #[.slice (some ⟨r, 0, none⟩) 2048 2048] 35)).alloc (.cells #[.int .i64 0] 3)).alloc (.cells #[.int .i64 0] 3)) (w3.heap.size + 1) (.int .i64 0)) := Lib.hid (by
    have := (cell1_new (w3.alloc (.cells #[.slice (some ⟨r, 0, none⟩) 2048 2048] 35)) (.int .i64 0) 3).below ((Below.refl _ _).alloc (Nat.le_refl _) (.cells #[.int .i64 0] 3))
    rwa [e1] at this)
  have K1 : Hid (Cell1 (((w3.alloc (.cells #[.slice (some ⟨r, 0, none⟩) 2048 2048] 35)).alloc (.cells #[.int .i64 0] 3)).alloc (.cells #[.int .i64 0] 3)) (w3.heap.size + 1 + 1) (.int .i64 0)) := Lib.hid (by
    have := cell1_new ((w3.alloc (.cells #[.slice (some ⟨r, 0, none⟩) 2048 2048] 35)).alloc (.cells #[.int .i64 0] 3)) (.int .i64 0) 3
    rwa [e2] at this)
  have B23 : Hid (Below w2.heap.size w2 (((w3.alloc (.cells #[.slice (some ⟨r, 0, none⟩) 2048 2048] 35)).alloc (.cells #[.int .i64 0] 3)).alloc (.cells #[.int .i64 0] 3))) := Lib.hid (OB.out.trans (hb0.mono LE3.out))
  have Z4 : Hid (w3.heap.size + 1 ≤ (((w3.alloc (.cells #[.slice (some ⟨r, 0, none⟩) 2048 2048] 35)).alloc (.cells #[.int .i64 0] 3)).alloc (.cells #[.int .i64 0] 3)).heap.size) := Lib.hid (by simp)
  have hst := ST.out F (m - 1) (((w3.alloc (.cells #[.slice (some ⟨r, 0, none⟩) 2048 2048] 35)).alloc (.cells #[.int .i64 0] 3)).alloc (.cells #[.int .i64 0] 3)) HF.out hro (by omega) HL.out B23.out
  have RW := Lib.hid ((hb0.block r RL.out).trans OR.out)
  clear e1 e2 ST OR OB OL hb0
  generalize ((w3.alloc (.cells #[.slice (some ⟨r, 0, none⟩) 2048 2048] 35)).alloc (.cells #[.int .i64 0] 3)).alloc (.cells #[.int .i64 0] 3) = W0 at KS K0 K1 B23 hst Z4 RW ⊢
  generalize w3.heap.size = q at KS K0 K1 Z4 RL LE3 ⊢
  have B4 := Lib.hid (B2.out.trans (B23.out.mono B2.out.size))
  have Q1 := Lib.hid ((B23.out.block (w.heap.size + 1) (by have := S2.out; omega)).trans r1.out)
  have Q2 := Lib.hid ((B23.out.block (w.heap.size + 1 + 1) (by have := S2.out; omega)).trans r2.out)
  have V4 := Lib.hid (V2.out.below B23.out)
  clear r1 r2 V2
  generalize w2.heap.size = g at B23 hst LE3 S2 ⊢
  have NS : Hid (w.heap.size + 3 ≤ q) := Lib.hid (Nat.le_trans S2.out LE3.out)
  have FN : Hid (∀ W', Below (q + 1) W0 W' → W'.cell? ⟨w.heap.size + 1, 0, none⟩ = some (.int .i64 n)) := Lib.hid fun W' h => cell_of_one' ((h.block _ (by have := NS.out; omega)).trans Q1.out)
  have FR : Hid (∀ W', Below (q + 1) W0 W' → W'.heap[w.heap.size + 1 + 1]? = some (.cells #[.bool false] 4 (0, 0))) := Lib.hid fun W' h => (h.block _ (by have := NS.out; omega)).trans Q2.out
  have FS : Hid (∀ W', Below (q + 1) W0 W' → W'.cell? ⟨q, 0, none⟩ = some (.slice (some ⟨r, 0, none⟩) 2048 2048)) := Lib.hid fun W' h => (h.cell (p := ⟨q, 0, none⟩) (Nat.lt_succ_self q)).trans KS.out.1
  have FB : Hid (∀ W', Below (q + 1) W0 W' → W'.heap[r]? = some (.cells (barr (bit X) 2048) 4 (0, 0))) := Lib.hid fun W' h => (h.block r (Nat.lt_succ_of_lt RL.out)).trans RW.out
  refine wpIn_rangeFunc_ownG hro hm1 (gf := 26) (lb := lb) rfl (hF _) (enters_of Try.func26 (by kernel_rfl) rfl)
    hst belowK_t (belowK_b (by have := Z4.out; have := LE3.out; omega)) (Below.refl _ _) (fun _ => rfl)
    (fun pre W => (Cell1 W (q + 1) (.int .i64 (lastI pre + 1)) ∧ Cell1 W (q + 1 + 1) (.int .i64 (pre.length : Nat))) ∧ Below (q + 1) W0 W)
    (fun c pre W => c = .ret ∧ ((∃ ini x, ∃ k : Nat, pre = ini ++ [x] ∧ lastI ini < k ∧ (∀ j : Nat, lastI ini < j → j < k → bit X j = false) ∧ (k = 2048 ∨ (k < 2048 ∧ bit X k = true)) ∧ nib x ≠ k) ∨ (Cell1 W (w.heap.size + 1 + 1) (.bool true) ∧ Below w.heap.size w W)))
    (OwnFrom.and (OwnFrom.and (_root_.Go.Own.from (cell1_own (q + 1) _) _) (_root_.Go.Own.from (cell1_own (q + 1 + 1) _) _)) (ownFrom_below Z4.out Z4.out))
    (fun c s A B row hs hg hr => ⟨hs.1, hs.2.imp id fun h => (OwnFrom.and (_root_.Go.Own.from (cell1_own (w.heap.size + 1 + 1) (fun _ => .bool true)) _) (ownFrom_below (Nat.le_refl _) B4.out.size)) s A B row h hg hr⟩)
    ⟨⟨K0.out, K1.out⟩, Below.refl _ _⟩
    (fun x => { tmps := #[Value.agg (arr X), Value.int .i64 n, Value.pointer (some ⟨w.heap.size, 0, none⟩), Value.pointer (some ⟨w.heap.size + 1, 0, none⟩), Value.pointer (some ⟨w.heap.size + 1 + 1, 0, none⟩), Value.func (.func 26) #[] lb, Value.pointer (some ⟨q, 0, none⟩), Value.pointer (some ⟨q + 1, 0, none⟩), Value.pointer (some ⟨q + 1 + 1, 0, none⟩), Value.int .i64 ((nib x : Nat) : Int), Value.agg (arr X), Value.func (.func 26) #[] lb, Value.func (.func 26) #[] lb, Value.bool false, Value.agg (arr X), Value.slice (some ⟨r, 0, none⟩) 2048 2048, Value.func (.func 26) #[] lb, Value.int .i64 ((nib x : Nat) : Int), undef, undef, undef, undef, undef, undef, undef, undef, undef, undef, undef, undef, undef, undef, undef, undef, undef, undef, undef, undef, undef, undef, undef, undef, undef, undef, undef, undef, undef], defers := [] }) ?assign ?body ?done ?stop
  case assign =>
    intro l x W K hK
    gi_wp2
    exact hK
  case body =>
    rintro l pre x W ⟨⟨hc, hc'⟩, hB⟩ hlen
    have hpl : pre.length ≤ 2048 := Nat.le_of_lt (Nat.lt_of_lt_of_le hlen (ones_le X))
    have hlr := lastI_range pre
    have hx := nib_lt x
    have hm2 : 1 ≤ m - 1 - 1 := by omega
    obtain ⟨s, hs⟩ : ∃ s : Nat, lastI pre + 1 = s := ⟨(lastI pre + 1).toNat, by omega⟩
    rw [hs] at hc
    have HC := Lib.hid hc
    have HC' := Lib.hid hc'
    have HB := Lib.hid hB
    have HX : Hid (lastI (pre ++ [x]) = (nib x : Nat)) := Lib.hid (lastI_snoc pre x)
    have HLN : Hid ((pre ++ [x]).length = pre.length + 1) := Lib.hid (by simp)
    have HS2 := Lib.hid hs
    have hs2 : s ≤ 2048 := by omega
    clear hc hc' hB hlen hs hlr
    obtain ⟨y, hy⟩ : ∃ y, nib x = y := ⟨_, rfl⟩
    rw [hy] at hx HX ⊢
    have HY := Lib.hid hy
    clear hy
    obtain ⟨pl, hl⟩ : ∃ pl, pre.length = pl := ⟨_, rfl⟩
    rw [hl] at HC' HLN hpl
    clear hl
    gi_wp2
    gi_loopw [] (fun wr => ∃ k : Nat, s ≤ k ∧ k ≤ 2048 ∧ Hid (∀ j : Nat, s ≤ j → j < k → bit X j = false) ∧ Hid (Cell1 wr (q + 1) (.int .i64 (k : Nat))) ∧ Hid (Cell1 wr (q + 1 + 1) (.int .i64 (pl : Nat))) ∧ Hid (Below (q + 1) W0 wr) ∧ Hid (KeepsFrom W0.heap.size W wr) ∧ Hid (Below g W wr)) (fun wr => 2048 - cellNat wr (q + 1))
    case atStart => exact ⟨s, Nat.le_refl _, hs2, Lib.hid (fun j h1 h2 => absurd h2 (by omega)), HC, HC', HB, Lib.hid (KeepsFrom.refl _ _), Lib.hid (Below.refl _ _)⟩
    case round =>
      obtain ⟨k, hk0, hk, CL, C7, C8, BW, KF, BP⟩ := hrel
      have c7 := C7.out.1
      have f7 := C7.out.2
      have c6 := FS.out wr BW.out
      have j0 : (0 : Int) ≤ k := by omega
      by_cases hlt : k < 2048
      · have c1 := rowcell (FB.out wr BW.out) hlt
        have t1 : decide ((k : Int) < 2048) = true := decide_eq_true (by omega)
        have j2 : (k : Int) < 2048 := by omega
        cases hb : bit X k
        · rw [hb] at c1
          have CL2 : Hid (∀ j : Nat, s ≤ j → j < k + 1 → bit X j = false) := Lib.hid fun j h1 h2 => by
            rcases Nat.lt_or_ge j k with u | u
            · exact CL.out j h1 u
            · obtain rfl : j = k := by omega
              exact hb
          clear hb
          gi_wp2
          go_roundw
          case rel => exact ⟨k + 1, by omega, by omega, CL2, Lib.hid (C7.out.set _), Lib.hid (C8.out.other (Nat.succ_ne_self (q + 1)) _), Lib.hid (BW.out.setCell (p := ⟨q + 1, 0, none⟩) (Nat.le_refl _) _), Lib.hid (KF.out.trans ((KeepsOthers.setCell _ _ _).from _)), Lib.hid (BP.out.setCell (p := ⟨q + 1, 0, none⟩) (Nat.le_succ_of_le LE3.out) _)⟩
          case measure => rw [(C7.out.set _).nat, C7.out.nat]; omega
        · rw [hb] at c1
          have HBK := Lib.hid hb
          clear hb
          have rR := FR.out wr BW.out
          have q2 := cell_of_one' rR
          have f2 := World.frozen?_row rR
          by_cases hyk : y = k
          · subst hyk
            have t2 : ((y : Int) == (y : Int)) = true := by simp
            have t3 : ((y : Int) == 2048) = false := by simp; omega
            have hA8 := C8.out.other (k := q + 1) (Nat.succ_ne_self (q + 1)) (.int .i64 ((y : Int) + 1))
            have c8 := hA8.1
            have f8 := hA8.2
            have hA7 := (C7.out.set (.int .i64 ((y : Int) + 1))).other (k := q + 1 + 1) (Nat.succ_ne_self (q + 1)).symm (.int .i64 ((pl : Int) + 1))
            have hB8 := hA8.set (.int .i64 ((pl : Int) + 1))
            have c9 := hB8.1
            have hBB := ((Below.refl (q + 1) wr).setCell (p := ⟨q + 1, 0, none⟩) (Nat.le_refl _) (.int .i64 ((y : Int) + 1))).setCell (p := ⟨q + 1 + 1, 0, none⟩) (Nat.le_succ _) (.int .i64 ((pl : Int) + 1))
            have HBB := Lib.hid hBB
            have B9 := Lib.hid (BW.out.trans hBB)
            have HA7 := Lib.hid hA7
            have HB8 := Lib.hid hB8
            have cn := FN.out _ B9.out
            have rB := FR.out _ B9.out
            have q9 := cell_of_one' rB
            have f9 := World.frozen?_row rB
            have KW : Hid (KeepsFrom W0.heap.size W ((wr.setCell ⟨q + 1, 0, none⟩ (.int .i64 ((y : Int) + 1))).setCell ⟨q + 1 + 1, 0, none⟩ (.int .i64 ((pl : Int) + 1)))) := Lib.hid ((KF.out.trans ((KeepsOthers.setCell _ _ _).from _)).trans ((KeepsOthers.setCell _ _ _).from _))
            clear hA8 hA7 hB8 hBB rR rB
            by_cases hst2 : (pl : Int) + 1 = n
            · have t4 : ((pl : Int) + 1 == n) = true := by simp; omega
              clear hst2
              gi_wp2
              refine ⟨KW.out.trans ((KeepsOthers.setCell _ _ _).from _), rfl, .inr ⟨Cell1.set ⟨q9, f9⟩ _, ?_⟩⟩
              exact (B4.out.trans (B9.out.mono (by have := NS.out; omega))).setCell (p := ⟨w.heap.size + 1 + 1, 0, none⟩) (by show w.heap.size ≤ w.heap.size + 1 + 1; omega) _
            · have t4 : ((pl : Int) + 1 == n) = false := by simp; omega
              clear hst2
              gi_wp2
              exact ⟨KW.out, BP.out.trans (HBB.out.mono (Nat.le_succ_of_le LE3.out)), ⟨⟨by rw [HX.out]; exact HA7.out, by rw [HLN.out]; exact HB8.out⟩, B9.out⟩⟩
          · have t2 : ((y : Int) == (k : Int)) = false := by simp; omega
            have t3 : ((y : Int) != (k : Int)) = true := by simp; omega
            have HYK := Lib.hid hyk
            clear hyk
            gi_wp2
            exact ⟨KF.out.trans ((KeepsOthers.setCell _ _ _).from _), rfl, .inl ⟨pre, x, k, rfl, by rw [← Int.add_one_le_iff, HS2.out]; omega, fun j h1 h2 => CL.out j (by have := HS2.out; omega) h2, .inr ⟨hlt, HBK.out⟩, by rw [HY.out]; exact HYK.out⟩⟩
      · have t1 : decide ((k : Int) < 2048) = false := decide_eq_false (by omega)
        have rR := FR.out wr BW.out
        have q2 := cell_of_one' rR
        have f2 := World.frozen?_row rR
        have hyk : y ≠ k := by omega
        have t2 : ((y : Int) == (k : Int)) = false := by simp; omega
        have t3 : ((y : Int) != (k : Int)) = true := by simp; omega
        have HYK := Lib.hid hyk
        clear hyk
        gi_wp2
        exact ⟨KF.out.trans ((KeepsOthers.setCell _ _ _).from _), rfl, .inl ⟨pre, x, k, rfl, by rw [← Int.add_one_le_iff, HS2.out]; omega, fun j h1 h2 => CL.out j (by have := HS2.out; omega) h2, .inl (by omega), by rw [HY.out]; exact HYK.out⟩⟩
  case done =>
    rintro D ys W hD rfl ⟨⟨hc0, hc⟩, hB⟩ hK
    have hle : (allOnes X).length ≤ 2048 := by rw [all_len]; exact countN_le X 2048
    have CE : Hid (∀ W, Calls Try.prog 16 #[.agg (arr X), .int .i64 2048] W fun e w' => e = .returned (.int .i64 ((allOnes X).length : Nat)) ∧ Below W.heap.size W w') := Lib.hid fun W => (rCount_any X 2048 W).mono fun e w' q => ⟨by rw [q.1, all_len]; rfl, q.2⟩
    generalize (allOnes X).length = tl at hc hle CE ⊢
    have HB := Lib.hid hB
    have HC := Lib.hid hc
    have HK := Lib.hid hK
    have VW := Lib.hid (V4.out.below' hB (by have := NS.out; omega))
    have rB := Lib.hid (FR.out W hB)
    have q2 := cell_of_one' rB.out
    have f2 := World.frozen?_row rB.out
    have q3 := hc.1
    have te2 : (((tl : Nat) : Int) == ((tl : Nat) : Int)) = true := by simp
    clear hc hB hK hc0
    gi_wp2
    have LG := Lib.hid HC.out.lt
    have LR : Hid (w.heap.size + 1 + 1 < W.heap.size) := Lib.hid (by have := LG.out; have := NS.out; omega)
    have hW := HW.out
    subst hW
    refine wpIn_wide.2 ?_
    refine wp_region_class_tail (More W) 4 (by kernel_rfl) (by kernel_rfl) (More.drew _) ?_
    simp only [List.take_succ_cons, List.take_zero, List.drop_succ_cons, List.drop_zero]
    repeat (first | go_big_quiet_skip | (go_big_quiet_want; first | (refine quiet_load _ rfl _ _ rfl _ (by intro w' hw'; exact (VW.out.below hw').at) ?_; simp only [Act.put, List.setIfInBounds_toArray, List.set_cons_zero, List.set_cons_succ]; go_big_quiet_on) | (refine quiet_int _ rfl _ rfl _ (by intro w' hw'; exact cell_below q3 hw') ?_; simp only [Act.put, List.setIfInBounds_toArray, List.set_cons_zero, List.set_cons_succ]; go_big_quiet_on) | (go_big_quiet_op; first | go_big_quiet_on | (apply Exists.intro; refine ⟨fun _ _ => ?_, ?_⟩; (with_reducible exact rfl); go_big_quiet_on) | go_big_quiet_call ((intro hC; (with_reducible refine (CE.out _).mono ?_); exact fun e w' h => ⟨h.1, hC.on h.2⟩)))))
    refine wpQuiet_nil ?_
    intro w' hw'
    have q2' := cell_below q2 hw'
    have f2' := frozen_below f2 q2 hw'
    have hKw : w'.heap[D]? = some (.deferred (some [])) := (hw'.block D (by
      rcases Nat.lt_or_ge D W.heap.size with r | r
      · exact r
      · have := HK.out; rw [Array.getElem?_eq_none r] at this; cases this)).trans HK.out
    have HK2 := Lib.hid ((KeepsOthers.setCell w' ⟨w.heap.size + 1 + 1, 0, none⟩ (.bool true)).same D _ hKw rfl)
    have HWB := Lib.hid hw'
    clear hw' hKw HK
    go_wp2
    gi_wp2
    refine ⟨by simp, .inl ⟨_, _, rfl, run_takeDeferred HK2.out, ?_⟩⟩
    have hc5 := cell_kept (World.cell?_setCell_same' w' ⟨w.heap.size + 1 + 1, 0, none⟩ (.bool true) (by rw [q2']; rfl)) (grownBy_putObj' _ D (.deferred none)) (fun r e => by cases e; exact ⟨_, HK2.out, rfl⟩)
    have BT : Below w.heap.size w w' := B4.out.trans ((HB.out.mono (by have := NS.out; omega)).trans (Below.mono HWB.out (by have := B4.out.size; have := HB.out.size; omega)))
    refine ⟨.bool true, ?_, rfl, (BT.setCell (p := ⟨w.heap.size + 1 + 1, 0, none⟩) (by show w.heap.size ≤ w.heap.size + 1 + 1; omega) _).trans (belowK_b (w := w) (Nat.le_refl _) _ D _ _ (by have := B4.out.size; omega) HK2.out rfl rfl)⟩
    simp [results, Try.f5, go_sem, hc5]
  case stop =>
    rintro D c' pre W hD ⟨k, hk, rfl⟩ ⟨rfl, h⟩ hK
    rcases h with ⟨ini, x, j, he, g0, g1, g2, g3⟩ | ⟨hr, hBW⟩
    · exact absurd (all_least he g0 g1 g2) g3
    · have HK := Lib.hid hK
      have HR := Lib.hid hr
      have HBW := Lib.hid hBW
      clear hK hr hBW
      gi_wp2
      refine ⟨by simp, .inl ⟨_, _, rfl, run_takeDeferred HK.out, ?_⟩⟩
      have hc5 := cell_kept HR.out.1 (grownBy_putObj' _ D (.deferred none)) (fun r e => by cases e; exact ⟨_, HK.out, rfl⟩)
      refine ⟨.bool true, ?_, rfl, HBW.out.trans (belowK_b (w := w) (Nat.le_refl _) _ D _ _ (by have := B4.out.size; omega) HK.out rfl rfl)⟩
      simp [results, Try.f5, go_sem, hc5]

theorem bitsAll_any (hS : BitsSays) (hA : AllSays) (X : Blk) (n : Int) (w : World) (h1 : I64 n) :
    Calls Try.prog 5 #[.agg (arr X), .int .i64 n] w fun e w' => e = .returned (.bool true) ∧ Below w.heap.size w w' :=
  callsIn_wide.1 (bitsAll_in hS hA Fence.wide 6 rfl (fun _ => trivial) rfl (Nat.le_refl _) (fun _ _ _ _ _ h => callsIn_wide.2 h) X n w h1)
end Go.Proofs.Ytkblpildfeopiaa
