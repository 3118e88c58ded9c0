import Derived.Test.YtaipcciokhkmnaaDDoes5
namespace Go.Proofs.Ytaipcciokhkmnaa
open Go.RowKit

/-- A list of one block, written out. -/
theorem blk_slice1 {ops : Array Oper} {rest : List Oper} {o : Oper} {a : Act} {w : World} {Q : Exit → Act → World → Prop} (hg : o.guard = none) (x : Operand) (ho : o.op = .buildSlice 24 1 #[(0, x)]) (X : Blk) (hx : a.eval x = .agg (arr X))
    (h : wpList Try.prog ops Q rest (a.put o.dst (.slice (some ⟨w.heap.size, 0, none⟩) 1 1)) (w.alloc (.cells (arr X) 26))) : wpList Try.prog ops Q (o :: rest) a w := by
  obtain ⟨i, hi, hzz⟩ := Option.map_eq_some_iff.1 blk_row
  simp only [Prod.mk.injEq] at hzz
  obtain ⟨hz, hs, _⟩ := hzz
  refine wpList_buildSlice hg _ 26 1 _ ho (arr X) i _ Try.underlying24 hi hz (by rw [hs]; decide) (by rw [hs]; decide) ?_ h
  rw [hs]
  have e : (#[(0, x)].map fun (i, x) => (i, a.eval x)).toList = [(0, .agg (arr X))] := by simp [hx]
  rw [e, fill_cons (off := 0) (size := 256) (by simp) (by show (arr X).size = 256; exact arr_size X) (by simp)]
  rw [Instr.fill]
  congr 1
  exact splice_whole (by simp [arr_size, Value.cells])
theorem own_img {w : World} {base n : Nat} {v : Value} {l : List Blk} (h : w.ownsRow base 26 256 v n (bcells l)) : ∃ A c, v = .slice A n c ∧ Img w A l ∧ (0 < n → ∃ g, A = some ⟨g, 0, none⟩ ∧ base ≤ g ∧ OImg w g 0 l) := by
  rcases h.2 with ⟨rfl, h0⟩ | ⟨g, cap, cur, rfl, _⟩
  · subst h0
    have : l = [] := List.eq_nil_of_length_eq_zero (by have := h.1; rw [bcells_length] at this; omega)
    subst this
    exact ⟨none, 0, rfl, Img.nil _ _, fun q => absurd q (by simp)⟩
  · have r := oimg_of_row h
    exact ⟨_, _, rfl, r.1.img, fun _ => ⟨g, rfl, r.2.1, r.1⟩⟩
def U32At (w : World) (A : Option Addr) (l : List Nat) : Prop := 0 < l.length → ∃ b o, A = some ⟨b, o, none⟩ ∧ b < w.heap.size ∧ ∀ (i x : Nat), l[i]? = some x → w.cell? ⟨b, o + i, none⟩ = some (.int .u32 (x : Int)) ∧ x < 4294967296
abbrev KActs := List (Nat × Int × Nat × Option Addr × Nat × Nat × List Bool)
def KActsAt (w : World) (A : Option Addr) (l : KActs) : Prop := 0 < l.length → ∃ b o, A = some ⟨b, o, none⟩ ∧ b < w.heap.size ∧ ∀ i q, l[i]? = some q → w.cell? ⟨b, o + i * 4, none⟩ = some (.int .u8 (q.1 : Int)) ∧ w.cell? ⟨b, o + i * 4 + 1, none⟩ = some (.int .i64 q.2.1) ∧ w.cell? ⟨b, o + i * 4 + 2, none⟩ = some (.int .u32 (q.2.2.1 : Int)) ∧ w.cell? ⟨b, o + i * 4 + 3, none⟩ = some (.slice q.2.2.2.1 q.2.2.2.2.1 q.2.2.2.2.2.1) ∧ q.1 < 256 ∧ q.2.1 ≤ 9223372036854775807 ∧ q.2.2.1 < 4294967296 ∧ q.2.2.2.2.1 = q.2.2.2.2.2.2.length ∧ Bools w q.2.2.2.1 q.2.2.2.2.2.2 ∧ (0 < q.2.2.2.2.2.2.length → ∀ g o, q.2.2.2.1 = some ⟨g, o, none⟩ → g < w.heap.size) ∧ q.2.2.2.2.1 ≤ 140737488355328
section
variable {D : World → Addr → DS → Av → Prop}
theorem Both.cells (hD : DiskSays D) {w : World} {a : Addr} {b : Nat} {sd sr : DS} {G : Av} (h : Both D w a b sd sr G) {g : Nat} (hg : G g) (o : Nat) (vs : List Value) : Both D (w.setCells g o vs) a b sd sr G := by
  obtain ⟨F, h⟩ := h
  refine ⟨F, hD.cells h.d (.inl hg) o vs, h.r.frame (by rw [setCells_size]; exact Nat.le_refl _) (fun i hi hn => setCells_heap_ne g vs o w i fun e => hn ⟨hi, by rw [e]; exact (h.g g hg).2⟩) (fun i ⟨q1, q2⟩ => ?_), fun i hi => ?_⟩
  · rw [setCells_size] at q1; exact .inl ⟨q1, q2⟩
  · rw [setCells_size]; exact h.g i hi
def tag (v : Nat) (hv : v < 256) : Blk := Blk.zero.set 0 v hv
theorem tag_arr (v : Nat) (hv : v < 256) : (⟨bytesOf (fun i => if i = 0 then v else 0) 256⟩ : Array Value) = arr (tag v hv) := by
  refine arr_ext (bytesOf_length _ _) fun i hi => ?_
  have h := bytesOf_get (f := fun i => if i = 0 then v else 0) hi
  have e : (tag v hv).f i = if i = 0 then v else 0 := by unfold tag Blk.set; rw [Blk.of_f hi]; rfl
  rw [e, ← h]
  simp
theorem built7 : Try.prog.built 26 [(0, .int .u8 7)] = some (arr (tag 7 (by omega))) := by
  have h : Try.prog.built 26 [(0, .int .u8 7)] = some ⟨bytesOf (fun i => if i = 0 then 7 else 0) 256⟩ := by kernel_rfl
  rw [h, tag_arr]
theorem built8 : Try.prog.built 26 [(0, .int .u8 8)] = some (arr (tag 8 (by omega))) := by
  have h : Try.prog.built 26 [(0, .int .u8 8)] = some ⟨bytesOf (fun i => if i = 0 then 8 else 0) 256⟩ := by kernel_rfl
  rw [h, tag_arr]
theorem built9 : Try.prog.built 26 [(0, .int .u8 9)] = some (arr (tag 9 (by omega))) := by
  have h : Try.prog.built 26 [(0, .int .u8 9)] = some ⟨bytesOf (fun i => if i = 0 then 9 else 0) 256⟩ := by kernel_rfl
  rw [h, tag_arr]
theorem build_tag {ops : Array Oper} {rest : List Oper} {op : Oper} {a : Act} {w : World} {Q : Exit → Act → World → Prop} (v : Int) (X : Blk) (hb : Try.prog.built 26 [(0, .int .u8 v)] = some (arr X)) (hw : Region.wanted op (yielded ops a.tmps) = true) (ho : op.op = .build 26 #[(0, .const (.int .u8 v))])
    (h : wpList Try.prog ops Q rest (a.put op.dst (.agg (arr X))) w) : wpList Try.prog ops Q (op :: rest) a w := by
  exact BigFrame.wpList_want hw fun _ hK => wp_build 26 #[(0, .const (.int .u8 v))] ho (by simp [Act.eval, hb]) (hK _ _ (by simpa [Act.eval, hb] using h))
set_option maxRecDepth 100000 in
set_option maxHeartbeats 4000000 in
theorem diskLoads_any (hD : DiskSays D) (A : Option Addr) (c m : Nat) (fl : List Nat) (B : Option Addr) (d n : Nat) (l : KActs) (w : World) (hm : m = fl.length) (hA : U32At w A fl) (hn : n = l.length) (hB : KActsAt w B l) (hm8 : m ≤ 140737488355328) (hn8 : n ≤ 140737488355328) :
    Calls Try.prog 3 #[.slice A m c, .slice B n d] w fun e w' => e = .returned (.bool true) ∧ Below w.heap.size w w' := by
  have HD := Lib.hid hD
  have HM := Lib.hid hm
  have HA := Lib.hid hA
  have HN := Lib.hid hn
  have HB := Lib.hid hB
  clear hD hm hA hn hB
  by_cases h1 : 3000 < m
  · have t1 : decide ((3000 : Int) < m) = true := by simp; omega
    have t1' : decide (3000 < m) = true := by simp; omega
    go_enter Try.func3, Try.ntmps3
    go_wp2
    go_ret
    exact ⟨rfl, Below.refl _ _⟩
  have t1 : decide ((3000 : Int) < m) = false := by simp; omega
  have t1' : decide (3000 < m) = false := by simp; omega
  by_cases h2 : 60 < n
  · have t2 : decide ((60 : Int) < n) = true := by simp; omega
    have t2' : decide (60 < n) = true := by simp; omega
    go_enter Try.func3, Try.ntmps3
    go_wp2
    go_ret
    exact ⟨rfl, Below.refl _ _⟩
  have t2 : decide ((60 : Int) < n) = false := by simp; omega
  have t2' : decide (60 < n) = false := by simp; omega
  obtain ⟨i0, hi0, hzz⟩ := Option.map_eq_some_iff.1 blk_row
  simp only [Prod.mk.injEq] at hzz
  obtain ⟨hz0, hz1, hz2⟩ := hzz
  have HZ0 := Lib.hid hz0
  have HZ1 := Lib.hid hz1
  have HZ2 := Lib.hid hz2
  have HI0 := Lib.hid hi0
  clear hz0 hz1 hz2 hi0
  have hm3 : m ≤ 3000 := by omega
  have hn60 : n ≤ 60 := by omega
  clear h1 h2
  go_enter Try.func3, Try.ntmps3
  go_wp2_with fail
  go_loopw [5, 6] (fun v i wr => ∃ k : Nat, k ≤ m ∧ i = .int .i64 k ∧ Hid (wr.ownsRow w.heap.size 26 256 v k (bcells ((fl.take k).map fillB))) ∧ Hid (Below w.heap.size w wr)) (fun _ i _ => m - (intOf i).toNat)
  case atStart => exact ⟨0, Nat.zero_le _, rfl, Lib.hid (World.ownsRow_nil _ _ _ _), Lib.hid (Below.refl _ _)⟩
  case round =>
    obtain ⟨k, hk, rfl, O, BB⟩ := hrel
    by_cases hlt : k < m
    · have kl : k < fl.length := by have := HM.out; omega
      obtain ⟨b, o, rfl, lb, hc⟩ := HA.out (by omega)
      obtain ⟨c0, r0⟩ := hc k _ (List.getElem?_eq_getElem kl)
      have c0 := (BB.out.cell (p := ⟨b, o + k, none⟩) lb).trans c0
      have KT : Hid (bcells ((fl.take (k + 1)).map fillB) = bcells ((fl.take k).map fillB) ++ (arr (fillB fl[k])).toList) := Lib.hid (by rw [List.take_succ_eq_append_getElem kl, List.map_append]; unfold bcells; simp)
      generalize fl[k] = x at c0 r0 KT
      have j1 : (0 : Int) ≤ k := by omega
      have j2 : (k : Int) < m := by omega
      clear hc
      go_wp2_with fail
      refine (fill_any x _ r0).mono ?_
      rintro e w2 ⟨rfl, hb⟩
      have O2 : Hid ((w2.alloc (.cells (arr (fillB x)) 26)).ownsRow w.heap.size 26 256 u5 k (bcells ((fl.take k).map fillB))) := Lib.hid (World.ownsRow.kept (row := none) O.out (by have h := hb.alloc hb.size (.cells (arr (fillB x)) 26); exact ⟨h.os, h.tape, h.output, h.size, fun k hk _ => h.block k hk⟩) (by cases hv : u5.ownBlock <;> simp))
      have B2 : Hid (Below w.heap.size w (w2.alloc (.cells (arr (fillB x)) 26))) := Lib.hid ((BB.out.trans (hb.mono BB.out.size)).alloc (by have := BB.out.size; have := hb.size; omega) _)
      have S2 : Hid (w.heap.size ≤ w2.heap.size) := Lib.hid (Nat.le_trans BB.out.size hb.size)
      clear hb BB O
      go_wp2_with (first
        | (refine blk_slice1 rfl (.tmp 34) rfl (fillB x) rfl ?_)
        | (at_builtin; refine wpList_append_lies _ rfl (.tmp 29) (.tmp 35) 24 rfl w.heap.size 26 i0 _ 256 256 Try.underlying24 HI0.out HZ0.out HZ1.out HZ2.out (by show (bytesOf (fun _ => 0) 256).length = 256; exact bytesOf_length _ _) (by omega) u5 k _ rfl O2.out ⟨w2.heap.size, 0, none⟩ 1 1 (arr (fillB x)).toList rfl (by rw [arr_length]) (World.news_of_block (heap_alloc_new w2 _)) (by have := arr_one (fillB x); rw [Array.all_eq_true_iff_forall_mem] at this; intro v hv; exact this v (by simpa using hv)) (by omega) (by simp only [maxLen]; omega) (by omega) (by have := S2.out; simp; omega) (w2.heap.size + 1) (by simp) ?_; intro gg cap w5 hown1 hgrow hat hltg))
      have O3 : Hid (w5.ownsRow w.heap.size 26 256 (.slice (some ⟨gg, 0, none⟩) (k + 1) cap) (k + 1) (bcells ((fl.take (k + 1)).map fillB))) := Lib.hid (by rw [KT.out]; exact hown1)
      have B3 : Hid (Below w.heap.size w w5) := Lib.hid (B2.out.grown hgrow (by have := S2.out; simp; omega) (by
        intro g e
        rcases O2.out.2 with ⟨h1, _⟩ | ⟨g', _, _, h1, hb, _⟩
        · rw [h1] at e; cases e
        · rw [h1] at e; cases e; exact hb))
      clear hown1 hgrow hat hltg O2 B2
      go_roundw
      case rel => exact ⟨k + 1, by omega, by go_num, O3, B3⟩
      case measure => simp [intOf]; omega
    · obtain rfl : k = m := by omega
      rw [HM.out, List.take_length, ← HM.out] at O
      obtain ⟨A9, c9, rfl, hI, hG⟩ := own_img O.out
      have I9 := Lib.hid hI
      have G9 := Lib.hid hG
      have ML : Hid (k = (fl.map fillB).length) := Lib.hid (by rw [List.length_map]; exact HM.out)
      clear hI hG O
      by_cases hin : 1 ≤ k ∧ k ≤ 2048
      · obtain ⟨g9, rfl, hb9, ho9⟩ := G9.out (by omega)
        have O9 := Lib.hid ho9
        have L9 := Lib.hid ho9.lt
        have b9 := Lib.hid hb9
        clear ho9 hb9
        go_wp2_with fail
        refine (HD.out.load_yes _ _ _ _ _ ML.out I9.out hin.1 hin.2).mono ?_
        rintro e w3 ⟨⟨a, rfl, hd⟩, hb⟩
        have D3 := Lib.hid hd
        have B3 := Lib.hid hb
        have I3 := Lib.hid (I9.out.below hb)
        clear hd hb
        go_wp2_with fail
        refine (rLoad_yes _ _ _ _ _ ML.out I3.out hin.1 hin.2).mono ?_
        rintro e w4 ⟨⟨b, rfl, hr⟩, hb⟩
        have T4 : Hid (Both D w4 a b ⟨fl.map fillB, [], 0, none⟩ ⟨fl.map fillB, [], 0, none⟩ (· < wr.heap.size)) := Lib.hid (by
          have z3 := B3.out.size
          have z4 := hb.size
          refine ⟨fun i => w3.heap.size ≤ i ∧ i < w4.heap.size, HD.out.new' D3.out hb, hr.mono ?_, fun i hi => ?_⟩
          · rintro i ⟨q1, q2⟩
            exact Nat.lt_of_not_le fun q => q2 ⟨q, q1⟩
          · have hi' : i < wr.heap.size := hi
            exact ⟨by omega, fun q => by omega⟩)
        have O4 : Hid (OImg w4 g9 0 (fl.map fillB)) := Lib.hid ((O9.out.keep (B3.out.block g9 L9.out)).keep (hb.block g9 (Nat.lt_of_lt_of_le L9.out B3.out.size)))
        have B4 : Hid (Below w.heap.size w w4) := Lib.hid ((BB.out.trans (B3.out.mono BB.out.size)).trans (hb.mono (Nat.le_trans BB.out.size B3.out.size)))
        have WS : Hid (w.heap.size ≤ wr.heap.size) := Lib.hid BB.out.size
        clear hr hb D3 B3 I3 O9 I9 G9 BB
        go_wp2_with fail
        generalize wr.heap.size = z at T4 WS L9
        go_loopw [11] (fun i wq => ∃ r : Nat, r ≤ k ∧ i = .int .i64 r ∧ Hid (Both D wq a b ⟨fl.map fillB, [], 0, none⟩ ⟨fl.map fillB, [], 0, none⟩ (· < z)) ∧ Hid (∃ L : List Blk, L.length = k ∧ OImg wq g9 0 L) ∧ Hid (Below w.heap.size w wq)) (fun i _ => k - (intOf i).toNat)
        case atStart => exact ⟨0, Nat.zero_le _, rfl, T4, Lib.hid ⟨_, ML.out.symm, O4.out⟩, B4⟩
        case round =>
          obtain ⟨r, hr, rfl, T, O, BB⟩ := hrel
          by_cases hlr : r < k
          · obtain ⟨L, hL, hO⟩ := O.out
            have j1 : (0 : Int) ≤ r := by omega
            have j2 : (r : Int) < k := by omega
            have TH := hO.there (i := r) (by omega)
            rw [Nat.zero_add] at TH
            go_wp2_with (first
              | (refine build_tag 7 _ built7 rfl rfl ?_)
              | (refine store_blk rfl (.tmp 68) (.tmp 67) rfl g9 (r * 256) (tag 7 (by omega)) rfl rfl TH ?_))
            go_roundw
            case rel => exact ⟨r + 1, by omega, by go_num, Lib.hid (T.out.cells HD.out L9.out _ _), Lib.hid ⟨L.set r (tag 7 (by omega)), by rw [List.length_set]; exact hL, by have h := hO.set (i := r) (by omega) (tag 7 (by omega)); rw [Nat.zero_add] at h; exact h⟩, Lib.hid (below_cells BB.out b9.out _ _)⟩
            case measure => simp [intOf]; omega
          · obtain rfl : r = k := by omega
            clear O
            have u1 : ((r : Int) == 0) = false := by rw [beq_eq_false_iff_ne]; omega
            have u2 : (r == 0) = false := by rw [beq_eq_false_iff_ne]; omega
            go_wp2_with fail
            refine (T.out.callI HD.out fun av h => HD.out.image a _ av _ h).mono ?_
            rintro e w5 ⟨⟨g1, o1, k1, rfl, hi, hg, ht⟩, hk1, _⟩
            rw [show (⟨fl.map fillB, [], 0, none⟩ : DS).safe.length = r from ML.out.symm]
            have T5 := Lib.hid ht
            have I5 := Lib.hid hi
            have B5 := Lib.hid (BB.out.trans (hk1.below fun i h => Nat.lt_of_lt_of_le h WS.out))
            have gg1 : Hid (w.heap.size ≤ g1) := Lib.hid (Nat.le_trans BB.out.size hg)
            clear ht hi hk1 hg T BB
            go_wp2_with fail
            refine (T5.out.callI HD.out fun av h => HD.out.safe a _ av _ h).mono ?_
            rintro e w6 ⟨⟨g2, o2, k2, rfl, hi, hg, ht⟩, hk1, _⟩
            rw [show (⟨fl.map fillB, [], 0, none⟩ : DS).safe.length = r from ML.out.symm]
            have T6 := Lib.hid ht
            have I6 := Lib.hid hi
            have J6 := Lib.hid (hk1.oimg (.inr rfl) I5.out)
            have B6 := Lib.hid (B5.out.trans (hk1.below fun i h => .inl (Nat.lt_of_lt_of_le h WS.out)))
            have gg2 : Hid (w.heap.size ≤ g2) := Lib.hid (Nat.le_trans B5.out.size hg)
            have gne : Hid (g2 ≠ g1) := Lib.hid (by have := I5.out.lt; omega)
            clear ht hi hk1 hg T5 B5 I5
            have TH1 : Hid (w6.there g1 o1 256) := Lib.hid (by have h := J6.out.there (i := 0) (by have := ML.out; show 0 < (fl.map fillB).length; omega); simpa using h)
            have TH2 : Hid ((w6.setCells g1 o1 (arr (tag 8 (by omega))).toList).there g2 o2 256) := Lib.hid (World.there_setCells (by have h := I6.out.there (i := 0) (by have := ML.out; show 0 < (fl.map fillB).length; omega); simpa using h) _ _ _)
            go_wp2_with (first
              | (refine build_tag 8 _ built8 rfl rfl ?_)
              | (refine build_tag 9 _ built9 rfl rfl ?_)
              | (refine store_blk rfl (.tmp 83) (.tmp 82) rfl g1 o1 (tag 8 (by omega)) rfl rfl TH1.out ?_)
              | (refine store_blk rfl (.tmp 86) (.tmp 85) rfl g2 o2 (tag 9 (by omega)) rfl rfl TH2.out ?_))
            have T7 := Lib.hid ((T6.out.cells HD.out (g := g1) (.inl (.inr rfl)) o1 (arr (tag 8 (by omega))).toList).cells HD.out (g := g2) (.inr rfl) o2 (arr (tag 9 (by omega))).toList)
            have B7 := Lib.hid (below_cells (below_cells B6.out gg1.out o1 (arr (tag 8 (by omega))).toList) gg2.out o2 (arr (tag 9 (by omega))).toList)
            generalize (w6.setCells g1 o1 (arr (tag 8 (by omega))).toList).setCells g2 o2 (arr (tag 9 (by omega))).toList = w7 at T7 B7 ⊢
            clear T6 B6 I6 J6 TH1 TH2
            refine (alike_any HD.out _ a b _ _ T7.out T7.out.gbound).mono ?_
            rintro e w8 ⟨rfl, ht, hk1⟩
            have T8 := Lib.hid ht
            have B8 := Lib.hid (B7.out.trans (hk1.below fun i h => .inl (.inl (Nat.lt_of_lt_of_le h WS.out))))
            clear ht hk1 T7 B7
            go_wp2_with fail
            go_loopw [14] (fun i wq => ∃ r : Nat, r ≤ n ∧ i = .int .i64 r ∧ Hid (∃ s : DS, Both D wq a b s s (fun i => (i < z ∨ i = g1) ∨ i = g2) ∧ s.acts ≤ r) ∧ Hid (Below w.heap.size w wq)) (fun i _ => n - (intOf i).toNat)
            case atStart => exact ⟨0, Nat.zero_le _, rfl, Lib.hid ⟨_, T8.out, Nat.le_refl _⟩, B8⟩
            case round =>
              obtain ⟨q, hq, rfl, T, BB⟩ := hrel
              obtain ⟨s, hT, hs⟩ := T.out
              by_cases hlq : q < n
              · have kl : q < l.length := by have := HN.out; omega
                obtain ⟨bb, oo, rfl, lb, hc⟩ := HB.out (by omega)
                obtain ⟨c0, c1, c2, c3, r0, r1, r2, r3, r4, r5, r6⟩ := hc q _ (List.getElem?_eq_getElem kl)
                have c0 := (BB.out.cell (p := ⟨bb, oo + q * 4, none⟩) lb).trans c0
                have c1 := (BB.out.cell (p := ⟨bb, oo + q * 4 + 1, none⟩) lb).trans c1
                have c2 := (BB.out.cell (p := ⟨bb, oo + q * 4 + 2, none⟩) lb).trans c2
                have c3 := (BB.out.cell (p := ⟨bb, oo + q * 4 + 3, none⟩) lb).trans c3
                generalize l[q] = x at c0 c1 c2 c3 r0 r1 r2 r3 r4 r5 r6
                obtain ⟨kd, p, f, K, km, kc, kl9⟩ := x
                dsimp only at c0 c1 c2 c3 r0 r1 r2 r3 r4 r5 r6
                have R3 := Lib.hid r3
                have R4 : Hid (Bools wr K kl9) := Lib.hid fun h0 => by
                  obtain ⟨b1, o1, e, hl, hcc⟩ := r4 h0
                  exact ⟨b1, o1, e, Nat.lt_of_lt_of_le hl BB.out.size, fun i x hx => (BB.out.cell (p := ⟨b1, o1 + i, none⟩) hl).trans (hcc i x hx)⟩
                have R5 := Lib.hid r5
                have HT := Lib.hid hT
                have HS := Lib.hid hs
                have j1 : (0 : Int) ≤ q := by omega
                have j2 : (q : Int) < n := by omega
                clear hc r3 r4 r5 hT hs
                go_wp2_with fail
                refine (does_any HD.out _ a b s _ kd f km kc p K kl9 HT.out HT.out.gbound (by have := HS.out; omega) r0 r2 r1 R3.out R4.out (fun h0 g o e => .inl (.inl (Nat.lt_of_lt_of_le (R5.out h0 g o e) WS.out))) r6).mono ?_
                rintro e w9 ⟨rfl, ⟨s', ht, hs'⟩, hk1⟩
                have T9 : Hid (∃ s : DS, Both D w9 a b s s (fun i => (i < z ∨ i = g1) ∨ i = g2) ∧ s.acts ≤ q + 1) := Lib.hid ⟨s', ht, by have := HS.out; omega⟩
                have B9 := Lib.hid (BB.out.trans (hk1.below fun i h => .inl (.inl (Nat.lt_of_lt_of_le h WS.out))))
                clear ht hs' hk1 HT
                go_wp2_with fail
                go_roundw
                case rel => exact ⟨q + 1, by omega, by go_num, T9, B9⟩
                case measure => simp [intOf]; omega
              · obtain rfl : q = n := by omega
                have HT := Lib.hid hT
                clear hT hs
                go_wp2_with fail
                refine (alike_any HD.out _ a b _ _ HT.out HT.out.gbound).mono ?_
                rintro e w9 ⟨rfl, ht, hk1⟩
                have B9 := Lib.hid (BB.out.trans (hk1.below fun i h => .inl (.inl (Nat.lt_of_lt_of_le h WS.out))))
                clear ht hk1
                go_wp2_with fail
                go_ret
                exact ⟨rfl, B9.out⟩
      · go_wp2_with fail
        refine (HD.out.load_no _ _ _ _ _ ML.out I9.out (by omega) (by omega)).mono ?_
        rintro e w3 ⟨rfl, hb⟩
        have B3 := Lib.hid (BB.out.trans (hb.mono BB.out.size))
        clear hb BB
        go_wp2_with fail
        refine (rLoad_no _ _ _ _ (by omega) (by omega)).mono ?_
        rintro e w4 ⟨rfl, rfl⟩
        go_wp2_with fail
        go_ret
        exact ⟨rfl, B3.out⟩
end
end Go.Proofs.Ytaipcciokhkmnaa
