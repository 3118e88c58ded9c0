import Derived.Test.YtkblpildfeopiaaPBits5
import Derived.Test.YtkblpildfeopiaaBitsAll2
namespace Go.Proofs.Ytkblpildfeopiaa
open Go.RowKit Go.Shelf Go.BigFrame
attribute [local go_sem] Oper.semAt_some
set_option maxHeartbeats 400000 in
theorem pAll_any (X : Blk) (w : World) : Calls Try.prog 20 #[.agg (arr X)] w fun e w' => e = .returned (.func (.func 26) #[] #[.pointer (some ⟨w.heap.size, 0, none⟩)]) ∧ w' = w.alloc (.cells (arr X) 23) := by
  go_enter Try.func20, Try.ntmps20
  go_wp2
  go_ret
  exact ⟨rfl, rfl⟩
theorem pAllSays : AllSays where
  all X w := (pAll_any X w).mono fun e w' ⟨he, hw⟩ => ⟨#[.pointer (some ⟨w.heap.size, 0, none⟩)], he, by rw [hw]; exact (Below.refl _ _).alloc (Nat.le_refl _) _, fun F m W hF hro hm lift hb l J Jx W1 hb1 hAb _ hY h0 => by
    have hV : Var w' w.heap.size X := by rw [hw]; exact heap_alloc_new w _
    have hlt : w.heap.size < w'.heap.size := hV.lt
    have hb2 : Below w'.heap.size w' W1 := hb.trans (hb1.mono hb.size)
    exact pAll1_in F m hF hro hm lift l w.heap.size (Below w'.heap.size) X J Jx W1 hAb (Below.refl _ _) (fun h k => h.trans k) (fun A B h1 h2 => h2.mono (Nat.le_trans hb2.size h1.size)) hY (fun W' h => (h.block _ hlt).trans ((hb2.block _ hlt).trans hV)) h0⟩
/-- The same for a caller that writes what lay there before the call: all that it owes is that the box stays. -/
theorem pAll_loose (X : Blk) (w : World) : Calls Try.prog 20 #[.agg (arr X)] w fun e w' => ∃ lb, e = .returned (.func (.func 26) #[] lb) ∧ Below w.heap.size w w' ∧ Var w' w.heap.size X ∧
    ∀ (F : Fence) (m : Nat), (∀ f, F.fn f) → F.round = none → 2 ≤ m → Lift F →
      SeqStopsK F m Try.prog 26 lb (fun x : Nat => #[Value.int .i64 ((nib x : Nat) : Int)]) (fun A B => A.heap.size ≤ B.heap.size ∧ (Var A w.heap.size X → Var B w.heap.size X)) (fun ys => ys = allOnes X) (fun pre => ∃ k, k ≤ (allOnes X).length ∧ pre = (allOnes X).take k) (allOnes X).length w' :=
  (pAll_any X w).mono fun e w' ⟨he, hw⟩ => by
    have hV : Var w' w.heap.size X := by rw [hw]; exact heap_alloc_new w _
    refine ⟨#[.pointer (some ⟨w.heap.size, 0, none⟩)], he, by rw [hw]; exact (Below.refl _ _).alloc (Nat.le_refl _) _, hV, fun F m hF hro hm lift l J Jx W1 hb1 hAb _ hY h0 => ?_⟩
    have hV1 : Var W1 w.heap.size X := hV.below hb1
    exact pAll1_in F m hF hro hm lift l w.heap.size (fun A B => A.heap.size ≤ B.heap.size ∧ (Var A w.heap.size X → Var B w.heap.size X)) X J Jx W1 hAb ⟨Nat.le_refl _, id⟩ (fun h k => ⟨Nat.le_trans h.1 k.1, fun q => k.2 (h.2 q)⟩) (fun A B _ h2 => ⟨h2.size, fun q => q.below h2⟩) hY (fun W' h => h.2 hV1) h0
theorem countI_all {X : Blk} {n : Int} (h : ∀ t, t ∈ allOnes X → ((nib t : Nat) : Int) < n) : countI X n = (allOnes X).length := by
  rw [← ones_countI, List.countP_eq_length]
  intro t ht
  have := h t ht
  rw [nib_of ((all_mem X t).1 ht).1] at this
  exact decide_eq_true this
theorem countI_some {X : Blk} {n : Int} {c x : Nat} {ini : List Nat} (h : (allOnes X).take c = ini ++ [x]) (h1 : ∀ t, t ∈ ini → ((nib t : Nat) : Int) < n) (h2 : n ≤ (nib x : Nat)) : countI X n = ini.length := by
  have he : allOnes X = (ini ++ [x]) ++ (allOnes X).drop c := by rw [← h, List.take_append_drop]
  have hr := all_rise X
  have hm : ∀ t, t ∈ allOnes X → t < 2048 := fun t ht => ((all_mem X t).1 ht).1
  rw [← ones_countI]
  rw [he] at hr hm ⊢
  have hp := List.pairwise_append.1 hr
  have hx := hm x (by simp)
  rw [nib_of hx] at h2
  rw [List.countP_append, List.countP_append, List.countP_eq_length.2, List.countP_eq_zero.2, List.countP_eq_zero.2]
  · rfl
  · intro t ht
    have := hp.2.2 x (by simp) t ht
    simp; omega
  · intro t ht
    simp at ht
    subst ht
    simp; omega
  · intro t ht
    have := h1 t ht
    rw [nib_of (hm t (by simp [ht]))] at this
    exact decide_eq_true this

set_option maxRecDepth 100000 in
set_option maxHeartbeats 2000000 in
theorem pCount_in (F : Fence) (m : Nat) (hF : ∀ f, F.fn f) (hro : F.round = none) (hm : 6 ≤ m) (lift : Lift F) (X : Blk) (n : Int) (w : World) (h1 : I64 n) :
    CallsIn F m Try.prog 15 #[.agg (arr X), .int .i64 n] w fun e w' => e = .returned (.int .i64 (countI X n : Nat)) ∧ Below w.heap.size w w' := by
  have hm1 : 1 ≤ m := by omega
  have HL := Lib.hid lift
  have H1 := Lib.hid h1
  have HF := Lib.hid hF
  clear lift h1
  have b1 : Hid ((((w.alloc (.cells (arr X) 23)).alloc (.cells #[.int .i64 n] 3)).alloc (.cells #[.int .i64 0] 3)).heap[w.heap.size + 1]? = some (.cells #[.int .i64 n] 3 (0, 0))) := Lib.hid (by
    have e : (w.alloc (.cells (arr X) 23)).heap.size = w.heap.size + 1 := by simp
    rw [heap_alloc_old _ _ (by simp), ← e, heap_alloc_new])
  have b2 : Hid (Cell1 (((w.alloc (.cells (arr X) 23)).alloc (.cells #[.int .i64 n] 3)).alloc (.cells #[.int .i64 0] 3)) (w.heap.size + 1 + 1) (.int .i64 0)) := Lib.hid (by
    have := cell1_new ((w.alloc (.cells (arr X) 23)).alloc (.cells #[.int .i64 n] 3)) (.int .i64 0) 3
    rwa [show ((w.alloc (.cells (arr X) 23)).alloc (.cells #[.int .i64 n] 3)).heap.size = w.heap.size + 1 + 1 by simp] at this)
  have B0 : Hid (Below w.heap.size w (((w.alloc (.cells (arr X) 23)).alloc (.cells #[.int .i64 n] 3)).alloc (.cells #[.int .i64 0] 3))) := Lib.hid ((((Below.refl _ w).alloc (Nat.le_refl _) _).alloc (by simp) _).alloc (by simp; omega) _)
  have S0 : Hid ((((w.alloc (.cells (arr X) 23)).alloc (.cells #[.int .i64 n] 3)).alloc (.cells #[.int .i64 0] 3)).heap.size = w.heap.size + 3) := Lib.hid (by simp)
  have V0 : Hid (Var (((w.alloc (.cells (arr X) 23)).alloc (.cells #[.int .i64 n] 3)).alloc (.cells #[.int .i64 0] 3)) w.heap.size X) := Lib.hid (by
    show (((w.alloc (.cells (arr X) 23)).alloc (.cells #[.int .i64 n] 3)).alloc (.cells #[.int .i64 0] 3)).heap[w.heap.size]? = _
    rw [heap_alloc_old _ _ (by simp; omega), heap_alloc_old _ _ (by simp), heap_alloc_new])
  refine callsIn_of_wp_marks Try.func15 rfl (hF _) ?_ hro
  simp only [Try.ntmps15, List.size_toArray, List.length_cons, List.length_nil, Nat.reduceAdd, Nat.reduceSub, Array.replicate_succ, Array.replicate_zero, List.push_toArray, List.append_toArray, List.nil_append, List.cons_append]
  gi_wp2_with (refine load_blk_in rfl (.tmp 2) rfl w.heap.size 0 rfl X V0.out.at ?_)
  generalize ((w.alloc (.cells (arr X) 23)).alloc (.cells #[.int .i64 n] 3)).alloc (.cells #[.int .i64 0] 3) = w1 at b1 b2 B0 S0 V0 ⊢
  refine (HL.out _ _ _ _ _ (pAll_loose X w1)).mono ?_
  rintro e w2 ⟨lb, rfl, hb, hv, hst⟩
  have G : Hid (w.heap.size + 3 = w1.heap.size) := Lib.hid S0.out.symm
  have B4 := Lib.hid (B0.out.trans (hb.mono B0.out.size))
  have Q1 := Lib.hid ((hb.block (w.heap.size + 1) (by rw [S0.out]; omega)).trans b1.out)
  have K0 := Lib.hid (b2.out.below hb)
  have Z4 : Hid (w.heap.size + 3 ≤ w2.heap.size) := Lib.hid (by rw [← S0.out]; exact hb.size)
  have hst := hst F (m - 1) HF.out hro (by omega) HL.out
  have VG := Lib.hid hv
  clear b1 b2 B0 S0 V0 hb hv
  generalize w1.heap.size = g at G VG hst
  gi_wp2
  obtain ⟨p, hp⟩ : ∃ p, w.heap.size + 1 + 1 = p := ⟨_, rfl⟩
  have HP := Lib.hid hp
  rw [hp] at K0 ⊢
  clear hp
  have GP : Hid (p < g) := Lib.hid (by have := G.out; have := HP.out; omega)
  have FN : Hid (∀ W', Below p w2 W' → W'.cell? ⟨w.heap.size + 1, 0, none⟩ = some (.int .i64 n)) := Lib.hid fun W' h => cell_of_one' ((h.block _ (by have := HP.out; omega)).trans Q1.out)
  have fin : Hid (∀ (W : World) (c : Nat), Cell1 W p (.int .i64 (c : Nat)) → Below p w2 W → W.cell? ⟨p, 0, none⟩ = some (.int .i64 (c : Nat)) ∧ Below w.heap.size w W) := Lib.hid fun W c h1 h2 => ⟨h1.1, B4.out.trans (h2.mono (by have := HP.out; omega))⟩
  refine wpIn_rangeFunc_ownG hro hm1 (gf := 26) (lb := lb) rfl (hF _) (enters_of Try.func26 (by kernel_rfl) rfl)
    hst (fun h k => ⟨Nat.le_trans h.1 k.1, fun q => k.2 (h.2 q)⟩) (fun W l o o' hl ho hc _ => ⟨by simp [World.putObj], fun q => by
      have hne : g ≠ l := by rintro rfl; rw [show W.heap[g]? = _ from q] at ho; cases ho; cases hc
      exact (World.putObj_heap_other hne).trans q⟩) (Below.refl _ _) (fun _ => rfl)
    (fun pre W => (Cell1 W p (.int .i64 (pre.length : Nat)) ∧ ∀ t, t ∈ pre → ((nib t : Nat) : Int) < n) ∧ Below p w2 W)
    (fun c pre W => c = .exit 0 ∧ ∃ ini x, pre = ini ++ [x] ∧ (∀ t, t ∈ ini → ((nib t : Nat) : Int) < n) ∧ n ≤ (nib x : Nat) ∧ Cell1 W p (.int .i64 (ini.length : Nat)) ∧ Below p w2 W)
    (OwnFrom.and (fun s A B row hs hg hr => ⟨(_root_.Go.Own.from (cell1_own p (fun pre => .int .i64 (pre.length : Nat))) _) s A B row hs.1 hg hr, hs.2⟩) (ownFrom_below (by have := Z4.out; have := HP.out; omega) (by have := Z4.out; have := HP.out; omega)))
    (fun c s A B row hs hg hr => ⟨hs.1, by
      obtain ⟨ini, x, h1, h2, h3, h4, h5⟩ := hs.2
      exact ⟨ini, x, h1, h2, h3, (_root_.Go.Own.from (cell1_own p (fun pre => .int .i64 (pre.length : Nat))) w2.heap.size) ini A B row h4 hg hr, (ownFrom_below (by have := Z4.out; have := HP.out; omega) (by have := Z4.out; have := HP.out; omega) : OwnFrom w2.heap.size (fun (_ : Unit) W => Below p w2 W)) () A B row h5 hg hr⟩⟩)
    ⟨⟨K0.out, fun t ht => by simp at ht⟩, Below.refl _ _⟩
    (fun x => { tmps := #[Value.agg (arr X), Value.int .i64 n, Value.pointer (some ⟨w.heap.size, 0, none⟩), Value.pointer (some ⟨w.heap.size + 1, 0, none⟩), Value.int .i64 0, Value.pointer (some ⟨p, 0, none⟩), Value.int .i64 ((nib x : Nat) : Int), Value.agg (arr X), Value.func (.func 26) #[] lb, Value.int .i64 ((nib x : Nat) : Int), undef, undef, undef, undef, undef, undef], defers := [] }) ?assign ?body ?done ?stop
  case assign =>
    intro l x W K hK
    gi_wp2
    exact hK
  case body =>
    rintro l pre x W ⟨⟨hc, hall⟩, hB⟩ hlen
    have hpl : pre.length ≤ 2048 := Nat.le_of_lt (Nat.lt_of_lt_of_le hlen (ones_le X))
    have hx := nib_lt x
    have q1 := FN.out W hB
    have HLN : Hid ((pre ++ [x]).length = pre.length + 1) := Lib.hid (by simp)
    have HC := Lib.hid hc
    have HB := Lib.hid hB
    have HALL := Lib.hid hall
    have c3 := hc.1
    have f3 := hc.2
    clear hc hB hall hlen
    by_cases hge : n ≤ ((nib x : Nat) : Int)
    · have t1 : decide (n ≤ ((nib x : Nat) : Int)) = true := decide_eq_true hge
      have HGE := Lib.hid hge
      clear hge
      gi_wp2
      exact ⟨KeepsFrom.refl _ _, rfl, pre, x, rfl, HALL.out, HGE.out, HC.out, HB.out⟩
    · have t1 : decide (n ≤ ((nib x : Nat) : Int)) = false := decide_eq_false hge
      have HALL2 : Hid (∀ t, t ∈ pre ++ [x] → ((nib t : Nat) : Int) < n) := Lib.hid fun t ht => by
        rcases List.mem_append.1 ht with h | h
        · exact HALL.out t h
        · simp at h; subst h; omega
      clear hge
      generalize pre.length = pl at HC c3 HLN hpl
      gi_wp2
      exact ⟨(KeepsOthers.setCell _ _ _).from _, ⟨by simp [World.setCell], fun q => (Below.heap_setCell _ _ _ _ (by show g ≠ p; have := GP.out; omega)).trans q⟩, ⟨⟨by rw [HLN.out]; exact HC.out.set _, HALL2.out⟩, HB.out.setCell (p := ⟨p, 0, none⟩) (Nat.le_refl _) _⟩⟩
  case done =>
    rintro D ys W hD rfl ⟨⟨hc, hall⟩, hB⟩ hK
    obtain ⟨c4, hBW⟩ := fin.out W _ hc hB
    have HE := Lib.hid (countI_all hall)
    have HK := Lib.hid hK
    have HBW := Lib.hid hBW
    clear hc hall hB hK hBW
    gi_wp2
    refine ⟨by simp, .inl ⟨_, _, rfl, run_takeDeferred HK.out, ?_⟩⟩
    refine ⟨.int .i64 (countI X n : Nat), ?_, rfl, HBW.out.trans (belowK_b (w := w) (Nat.le_refl _) _ D _ _ (by have := B4.out.size; omega) HK.out rfl rfl)⟩
    simp [results, Try.f15, go_sem, HE.out]
  case stop =>
    rintro D c' pre W hD ⟨k, hk, rfl⟩ ⟨rfl, ini, x, he, h2, h3, h4, h5⟩ hK
    obtain ⟨c4, hBW⟩ := fin.out W _ h4 h5
    have HE := Lib.hid (countI_some he h2 h3)
    have HK := Lib.hid hK
    have HBW := Lib.hid hBW
    clear he h2 h3 h4 h5 hK hBW
    gi_wp2
    refine ⟨by simp, .inl ⟨_, _, rfl, run_takeDeferred HK.out, ?_⟩⟩
    refine ⟨.int .i64 (countI X n : Nat), ?_, rfl, HBW.out.trans (belowK_b (w := w) (Nat.le_refl _) _ D _ _ (by have := B4.out.size; omega) HK.out rfl rfl)⟩
    simp [results, Try.f15, go_sem, HE.out]
theorem pCount (X : Blk) (n : Int) (w : World) (h1 : I64 n) : Calls Try.prog 15 #[.agg (arr X), .int .i64 n] w fun e w' => e = .returned (.int .i64 (countI X n : Nat)) ∧ Below w.heap.size w w' :=
  callsIn_wide.1 (pCount_in Fence.wide 6 (fun _ => trivial) rfl (Nat.le_refl _) (fun _ _ _ _ _ h => callsIn_wide.2 h) X n w h1)
theorem pBitsSays : BitsSays where
  has := pHas
  first := pFirst
  count := pCount
  set := pSet
  clear := pClear
  setNil := fun i w _ => pSetNil i w
  clearNil := fun i w _ => pClearNil i w
end Go.Proofs.Ytkblpildfeopiaa
