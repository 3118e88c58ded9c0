import Derived.Test.YtjiooadakklmlaaJbW
import Derived.Test.YtjiooadakklmlaaJbL1
namespace Go.Proofs.Ytjiooadakklmlaa
open Go.RowKit

/-! JblockRows. -/
def tl (l : List Nat) : List TagV := l.map fun x => (x, false)
theorem tl_fst (l : List Nat) : (tl l).map Prod.fst = l := by unfold tl; rw [List.map_map]; simp [Function.comp_def]
theorem tl_length (l : List Nat) : (tl l).length = l.length := by simp [tl]
theorem tl_small {l : List Nat} (h : Small32 l) : SmallT (tl l) := fun t ht => by
  unfold tl at ht
  obtain ⟨x, hx, rfl⟩ := List.mem_map.1 ht
  exact h x hx
theorem tl_next {l : List Nat} {k v : Nat} (h : l[k]? = some v) : tl (l.take (k + 1)) = tl (l.take k) ++ [(v, false)] := by
  unfold tl
  rw [List.take_add_one, h]
  simp
theorem one_tag (w : World) (t : TagV) : TagsAt (w.alloc (.cells (tcs t) 62)) (some ⟨w.heap.size, 0, none⟩) [t] := fun _ => by
  refine ⟨_, 0, rfl, by rw [World.size_alloc]; omega, fun i v hv => ?_⟩
  match i, hv with
  | 0, hv => cases hv; exact TVar.at (heap_alloc_new w _)
  | i + 1, hv => simp at hv
theorem NumsAt.take {w : World} {A : Option Addr} {l : List Nat} (h : NumsAt w A l) (k : Nat) : NumsAt w A (l.take k) := fun h0 => by
  obtain ⟨b, o, e, hb, hc⟩ := h (by rw [List.length_take] at h0; omega)
  refine ⟨b, o, e, hb, fun i v hv => hc i v ?_⟩
  rw [List.getElem?_take] at hv
  split at hv
  · exact hv
  · cases hv
theorem rise_take {l : List Nat} (h : Rise l) (k : Nat) : Rise (l.take k) := fun j hj => by
  rw [List.length_take] at hj
  have := h j (by omega)
  rw [List.getD_eq_getElem?_getD, List.getD_eq_getElem?_getD, List.getElem?_take, List.getElem?_take, if_pos (by omega), if_pos (by omega), ← List.getD_eq_getElem?_getD, ← List.getD_eq_getElem?_getD]
  exact this
theorem small_take {l : List Nat} (h : Small32 l) (k : Nat) : Small32 (l.take k) := fun v hv => h v (List.mem_of_mem_take hv)
noncomputable instance (l : List Nat) (k : Nat) : Decidable (RiseTo l k) := Classical.propDecidable _
/-- What lies in memory while the tags are gathered. -/
structure RL (w0 w : World) (l : List Nat) (v : Value) (k : Nat) : Prop where
  own : w.ownsRow w0.heap.size 62 2 v k (tC (tl (l.take k)))
  low : Below w0.heap.size w0 w
theorem RL.below {w0 w w' : World} {l : List Nat} {v : Value} {k : Nat} (h : RL w0 w l v k) (hb : Below w.heap.size w w') : RL w0 w' l v k := ⟨own_keep h.own hb, low_go h.low hb⟩
theorem RL.app {w0 w w1 : World} {l : List Nat} {v v' : Value} {k x : Nat} (h : RL w0 w l v k) (o : Obj) (hx : l[k]? = some x) (hown : w1.ownsRow w0.heap.size 62 2 v' (k + 1) (tC (tl (l.take k)) ++ tC [(x, false)])) (hgrow : (w.alloc o).grownBy w1 v.ownBlock) : RL w0 w1 l v' (k + 1) := by
  have ha := h.below (below_new w o)
  refine ⟨?_, ha.low.grown hgrow ha.low.size (fun k e => (h.own.lt k e).1)⟩
  rw [tl_next hx, tC_append]; exact hown
theorem rise_no {l : List Nat} {k : Nat} (h : ¬ RiseTo l k) : ¬ RiseTo l (k + 1) := fun q => h fun j hj => q j (by omega)
theorem rise_not {l : List Nat} {m : Nat} (h : ¬ l.getD m 0 < l.getD (m + 1) 0) : ¬ RiseTo l (m + 1 + 1) := fun q => h (q m (by omega))
theorem rise_one (l : List Nat) : RiseTo l (0 + 1) := fun j hj => by omega
def Fine (s : Nat) (l : List Nat) : Prop := MaySeq s ∧ RiseTo l l.length ∧ 1 ≤ l.length
noncomputable instance (s : Nat) (l : List Nat) : Decidable (Fine s l) := Classical.propDecidable _
theorem fine_may {s : Nat} {l : List Nat} (h : Fine s l) (h60 : l.length ≤ 60) : MayR s l := ⟨h.1, h.2.2, h60, h.2.1⟩
theorem may_fine {s : Nat} {l : List Nat} (h : MayR s l) : Fine s l := ⟨h.seq, h.rise, h.lo⟩
theorem fine_mayT {s : Nat} {l : List Nat} (h : Fine s l) (h30 : l.length ≤ 30) : MayT s (tl l) := ⟨h.1, by rw [tl_length]; exact h.2.2, by rw [tl_length]; exact h30, by rw [tl_fst]; exact h.2.1⟩
theorem mayT_fine {s : Nat} {l : List Nat} (h : MayT s (tl l)) : Fine s l ∧ l.length ≤ 30 := ⟨⟨h.seq, by have := h.rise; rwa [tl_fst] at this, by have := h.lo; rwa [tl_length] at this⟩, by have := h.hi; rwa [tl_length] at this⟩
theorem take_may {s : Nat} {l : List Nat} (h : MayR s l) {m : Nat} (hm : l.length = m + 1) (h0 : 0 < m) : MayR s (l.take m) := ⟨h.seq, by rw [List.length_take]; omega, by have := h.hi; rw [List.length_take]; omega, rise_take h.rise m⟩
theorem rise_all {l : List Nat} : RiseTo l l.length ↔ Rise l := Iff.rfl
set_option maxRecDepth 100000 in
set_option maxHeartbeats 4000000 in
theorem rows_long (hS : JSays) (s : Nat) (A : Option Addr) (c : Nat) (l : List Nat) (w : World) (hl : ¬ l.length ≤ 100) : Calls Try.prog 10 #[.int .u32 (s : Int), .slice A l.length c] w fun e w' => e = .returned (.bool true) ∧ Below w.heap.size w w' := by
  have CA := Lib.hid fun W => jAwake hS W
  have d1 : decide ((100 : Int) < (l.length : Int)) = true := by simp; omega
  have e1 : (100 : Int) < (l.length : Int) := by omega
  clear hS hl
  go_enter Try.func10, Try.ntmps10
  go_wp2_with (go_at_call 35; with_reducible refine (CA.out _).mono ?_; rintro e w2 ⟨rfl, hb⟩)
  go_ret
  exact ⟨rfl, hb⟩
set_option maxRecDepth 100000 in
set_option maxHeartbeats 16000000 in
theorem jRows (hS : JSays) (s : Nat) (A : Option Addr) (c : Nat) (l : List Nat) (w : World) (hs : s < 4294967296) (hc : l.length ≤ c) (hN : NumsAt w A l) (hsN : Small32 l) : Calls Try.prog 10 #[.int .u32 (s : Int), .slice A l.length c] w fun e w' => e = .returned (.bool true) ∧ Below w.heap.size w w' := by
  by_cases hl : l.length ≤ 100
  rotate_left
  · exact rows_long hS s A c l w hl
  have CA := Lib.hid fun W => jAwake hS W
  have HS := Lib.hid hS
  have H := Lib.hid hN
  have SN := Lib.hid hsN
  have HC := Lib.hid hc
  have d1 : decide ((100 : Int) < (l.length : Int)) = false := by simp; omega
  have e1 : ¬ (100 : Int) < (l.length : Int) := by omega
  have L100 := Lib.hid hl
  obtain ⟨it, hit, hzz⟩ := Option.map_eq_some_iff.1 tag_info
  simp only [Prod.mk.injEq] at hzz
  obtain ⟨hz0, hz1, hz2⟩ := hzz
  have TZ0 := Lib.hid hz0
  have TZ1 := Lib.hid hz1
  have TZ2 := Lib.hid hz2
  have TI := Lib.hid hit
  have PT : Hid (∀ W W' k, Below w.heap.size w W → More W W' → NumsAt W' A (l.take k)) := Lib.hid fun W W' k h1 h2 => (hN.below (low_go h1 h2)).take k
  clear hz0 hz1 hz2 hit hS hN hsN hl hc
  go_enter Try.func10, Try.ntmps10
  go_upto_region 5 with (go_at_call 35; with_reducible refine (CA.out _).mono ?_; rintro e w2 ⟨rfl, hb⟩)
  have K := Lib.hid (RL.mk (l := l) (k := 0) (World.ownsRow_nil w2 w.heap.size 62 2) hb)
  have B2 := Lib.hid hb
  clear hb CA d1 e1
  go_wp2_with fail
  go_loopw [5, 6, 7] (fun rv tv kv wr => ∃ (k : Nat) (v : Value), k ≤ l.length ∧ kv = .int .i64 k ∧ rv = .bool (decide (RiseTo l k)) ∧ tv = v ∧ Hid (RL w wr l v k)) (fun _ _ kv _ => l.length - (intOf kv).toNat)
  case atStart => exact ⟨0, _, Nat.zero_le _, rfl, by rw [decide_eq_true (show RiseTo l 0 from fun j hj => by omega)], rfl, K⟩
  case round =>
    obtain ⟨k, v, hk, rfl, rfl, rfl, K2⟩ := hrel
    clear K B2
    have l100 := L100.out
    by_cases hlt : k < l.length
    rotate_left
    · obtain rfl : k = l.length := by omega
      have kl : ¬ (l.length : Int) < (l.length : Int) := by omega
      obtain ⟨A6, c6, rfl, _, hT⟩ := own_tagsN K2.out.own (by rw [tl_length, List.length_take]; omega)
      rw [List.take_length] at hT
      have T6 := Lib.hid hT
      have B6 := Lib.hid K2.out.low
      clear hT K2 hlt hk TZ0 TZ1 TZ2 TI
      go_upto_region 12 with fail
      obtain ⟨rb, hrb⟩ : ∃ rb, decide (RiseTo l l.length) = rb := ⟨_, rfl⟩
      rw [hrb]
      go_cut [8] from 18 to 99 (fun s8 wx => s8 = .bool (decide (Fine s l)) ∧ wx = wr)
      case first =>
        by_cases h1 : 1 ≤ s
        rotate_left
        · have E := Lib.hid (decide_eq_false fun q : Fine s l => h1 q.1.pos)
          have d1 : decide ((1 : Int) ≤ (s : Int)) = false := by simp; omega
          have e1 : ¬ (1 : Int) ≤ (s : Int) := by omega
          clear h1 hrb
          go_wp2_with fail
          go_meet
          exact ⟨by rw [E.out], rfl⟩
        have d1 : decide ((1 : Int) ≤ (s : Int)) = true := by simp; omega
        have e1 : (1 : Int) ≤ (s : Int) := by omega
        by_cases h2 : s ≤ 2147483648
        rotate_left
        · have E := Lib.hid (decide_eq_false fun q : Fine s l => h2 q.1.le)
          have d2 : decide ((s : Int) ≤ 2147483648) = false := by simp; omega
          have e2 : ¬ (s : Int) ≤ 2147483648 := by omega
          clear h1 h2 hrb
          go_wp2_with fail
          go_meet
          exact ⟨by rw [E.out], rfl⟩
        have d2 : decide ((s : Int) ≤ 2147483648) = true := by simp; omega
        have e2 : (s : Int) ≤ 2147483648 := by omega
        by_cases h3 : RiseTo l l.length
        rotate_left
        · have E := Lib.hid (decide_eq_false fun q : Fine s l => h3 q.2.1)
          obtain rfl : rb = false := by rw [← hrb]; exact decide_eq_false h3
          clear h1 h2 h3 hrb
          go_wp2_with fail
          go_meet
          exact ⟨by rw [E.out], rfl⟩
        obtain rfl : rb = true := by rw [← hrb]; exact decide_eq_true h3
        by_cases h4 : 1 ≤ l.length
        rotate_left
        · have E := Lib.hid (decide_eq_false fun q : Fine s l => h4 q.2.2)
          have d4 : decide ((1 : Int) ≤ (l.length : Int)) = false := by simp; omega
          have e4 : ¬ (1 : Int) ≤ (l.length : Int) := by omega
          clear h1 h2 h3 h4 hrb
          go_wp2_with fail
          go_meet
          exact ⟨by rw [E.out], rfl⟩
        have E := Lib.hid (decide_eq_true (show Fine s l from ⟨⟨h1, h2⟩, h3, h4⟩))
        have d4 : decide ((1 : Int) ≤ (l.length : Int)) = true := by simp; omega
        have e4 : (1 : Int) ≤ (l.length : Int) := by omega
        clear h1 h2 h3 h4 hrb
        go_wp2_with fail
        go_meet
        exact ⟨by rw [E.out], rfl⟩
      case rest =>
        obtain ⟨rfl, rfl⟩ := hcut
        clear hrb
        obtain ⟨fb, hfb⟩ : ∃ fb, decide (Fine s l) = fb := ⟨_, rfl⟩
        rw [hfb]
        have hzb := fun W => zero_blk W
        obtain ⟨P3, r, hW3, hR⟩ : ∃ P3 r, writeJR s l = (P3, r) ∧ ((MayR s l ∧ P3 = listB (revokeL s l) ∧ r = 0) ∨ (¬ MayR s l ∧ r = 2)) := by
          by_cases q : MayR s l
          · exact ⟨_, _, writeJR_yes q, .inl ⟨q, rfl, rfl⟩⟩
          · exact ⟨_, _, writeJR_no q, .inr ⟨q, rfl⟩⟩
        obtain ⟨P2, f, hW2, hF⟩ : ∃ P2 f, writeJT s (tl l) = (P2, f) ∧ ((MayT s (tl l) ∧ f = 0) ∨ (¬ MayT s (tl l) ∧ f = 2)) := by
          by_cases q : MayT s (tl l)
          · exact ⟨_, _, writeJT_yes q, .inl ⟨q, rfl⟩⟩
          · exact ⟨_, _, writeJT_no q, .inr ⟨q, rfl⟩⟩
        have HR := Lib.hid hR
        have HF := Lib.hid hF
        have W3 := Lib.hid fun W (q : Below w.heap.size w W) => HS.out.writeRevoke s A c l W (by have := L100.out; omega) SN.out (H.out.below q)
        rw [hW3] at W3
        have W2 := Lib.hid fun W (q : TagsAt W A6 (tl l)) => HS.out.writeDesc s A6 c6 (tl l) W (by rw [tl_length]; have := L100.out; omega) (tl_small SN.out) q
        rw [hW2] at W2
        simp only [tl_length] at W2
        clear hR hF hW3 hW2
        go_upto_region 14 with (first
          | (go_at_call 15; with_reducible refine (W3.out _ B6.out).mono ?_; rintro e wa ⟨rfl, hb⟩; have Ba := Lib.hid (low_go B6.out hb); have Ta := Lib.hid (T6.out.below hb); clear hb)
          | (refine store_newG rfl (.tmp 9) (.tmp 72) rfl P3 rfl rfl ?_; intro wb hF hQ; have Bb := Lib.hid (low_go Ba.out hF); have Tb := Lib.hid (Ta.out.below hF); have Vb := Lib.hid hQ; clear hF hQ))
        clear W3 Ba Ta B6 T6
        generalize wa.heap.size = bp at Vb ⊢
        go_upto_region 15 with (first
          | (go_at_call 13; with_reducible refine (W2.out _ Tb.out).mono ?_; rintro e wd ⟨rfl, hb⟩; have Bd := Lib.hid (low_go Bb.out hb); have Vd := Lib.hid (Vb.out.below hb); clear hb)
          | (refine store_newG rfl (.tmp 11) (.tmp 78) rfl P2 rfl rfl ?_; intro we hF hQ; have Be := Lib.hid (low_go Bd.out hF); have Ve := Lib.hid (Vd.out.below hF); clear hF hQ))
        clear W2 Tb Bb Vb Bd Vd
        generalize wd.heap.size = bq
        go_cut [99] from 18 to 99 (fun s99 wx => s99 = .bool false ∧ wx = we)
        case first =>
          clear Ve Be hzb
          by_cases hfn : Fine s l
          rotate_left
          · have r1 : (r == 0) = false := by rcases HR.out with ⟨q, _⟩ | ⟨_, rfl⟩; exact absurd (may_fine q) hfn; rfl
            have f1 : (f == 0) = false := by rcases HF.out with ⟨q, _⟩ | ⟨_, rfl⟩; exact absurd (mayT_fine q).1 hfn; rfl
            obtain rfl : fb = false := by rw [← hfb]; exact decide_eq_false hfn
            clear HR HF hfn hfb
            go_wp2_with fail
            go_meet
            exact ⟨rfl, rfl⟩
          obtain rfl : fb = true := by rw [← hfb]; exact decide_eq_true hfn
          by_cases h60 : l.length ≤ 60
          rotate_left
          · have r1 : (r == 0) = false := by rcases HR.out with ⟨q, _⟩ | ⟨_, rfl⟩; exact absurd q.hi h60; rfl
            have f1 : (f == 0) = false := by rcases HF.out with ⟨q, _⟩ | ⟨_, rfl⟩; exact absurd (mayT_fine q).2 (by omega); rfl
            have d1 : decide ((l.length : Int) ≤ 60) = false := by simp; omega
            have e1 : ¬ (l.length : Int) ≤ 60 := by omega
            have d2 : decide ((l.length : Int) ≤ 30) = false := by simp; omega
            have e2 : ¬ (l.length : Int) ≤ 30 := by omega
            clear HR HF hfn h60 hfb
            go_wp2_with fail
            go_meet
            exact ⟨rfl, rfl⟩
          have r1 : (r == 0) = true := by rcases HR.out with ⟨_, _, rfl⟩ | ⟨q, _⟩; rfl; exact absurd (fine_may hfn h60) q
          have d1 : decide ((l.length : Int) ≤ 60) = true := by simp; omega
          have e1 : (l.length : Int) ≤ 60 := by omega
          by_cases h30 : l.length ≤ 30
          · have f1 : (f == 0) = true := by rcases HF.out with ⟨_, rfl⟩ | ⟨q, _⟩; rfl; exact absurd (fine_mayT hfn h30) q
            have d2 : decide ((l.length : Int) ≤ 30) = true := by simp; omega
            have e2 : (l.length : Int) ≤ 30 := by omega
            clear HR HF hfn h60 h30 hfb
            go_wp2_with fail
            go_meet
            exact ⟨rfl, rfl⟩
          · have f1 : (f == 0) = false := by rcases HF.out with ⟨q, _⟩ | ⟨_, rfl⟩; exact absurd (mayT_fine q).2 h30; rfl
            have d2 : decide ((l.length : Int) ≤ 30) = false := by simp; omega
            have e2 : ¬ (l.length : Int) ≤ 30 := by omega
            clear HR HF hfn h60 h30 hfb
            go_wp2_with fail
            go_meet
            exact ⟨rfl, rfl⟩
        case rest =>
          obtain ⟨rfl, rfl⟩ := hcut
          clear hfb
          clear HF
          rcases HR.out with ⟨hm, hP3, rfl⟩ | ⟨_, rfl⟩
          rotate_left
          · clear HR
            go_wp2_with fail
            go_ret
            exact ⟨rfl, Be.out⟩
          subst hP3
          obtain ⟨i2, i3, i4⟩ := revoke_nums hm SN.out
          have RR : Hid (∀ W, Calls Try.prog 30 #[.agg (arr (listB (revokeL s l)))] W fun e w' => (∃ A c, e = .returned (.tuple #[.int .u32 (s : Int), .slice A l.length c, .int .i64 0]) ∧ NumsAt w' A l) ∧ Below W.heap.size W w') := Lib.hid fun W => (HS.out.readRevoke (listB (revokeL s l)) W).mono fun e w' z => ⟨by
            rcases z.1 with ⟨_, v, rfl, ho⟩ | ⟨n, _⟩
            · rw [i3, i4] at ho
              obtain ⟨A, c, rfl, _, hT⟩ := own_numsN ho rfl
              exact ⟨A, c, by rw [i2], hT⟩
            · exact absurd (revoke_is hm SN.out) n, z.2⟩
          obtain ⟨m, hmm⟩ : ∃ m, l.length = m + 1 := ⟨l.length - 1, by have := hm.lo; omega⟩
          have wn : IntKind.i64.wrap ((l.length : Int) - 1) = (m : Int) := by rw [IntKind.wrap_i64]; omega
          have m0 : (0 : Int) ≤ (m : Int) := by omega
          have mc : (m : Int) ≤ (c : Int) := by have := HC.out; omega
          have mcN : m ≤ c := by have := HC.out; omega
          obtain ⟨b, o, hA, _, _⟩ := H.out (by omega)
          have lt : (l.take m).length = m := by rw [List.length_take]; omega
          have TK := Lib.hid fun W (q : Below w.heap.size w W) => HS.out.writeRevoke s A c (l.take m) W (by rw [lt]; omega) (small_take SN.out m) ((H.out.below q).take m)
          simp only [lt] at TK
          have SM := Lib.hid fun A' c' W (p : Below w.heap.size w W) (q : NumsAt W A' l) => rSameNumbers A A' c c' l l W (by have := L100.out; omega) (H.out.below p) q
          simp only [decide_true] at SM
          generalize listB (revokeL s l) = P3 at Ve RR
          subst hA
          by_cases h0 : 0 < m
          · have WY := writeJR_yes (take_may hm hmm h0)
            rw [WY] at TK
            have g1 : decide ((1 : Int) < (l.length : Int)) = true := by simp; omega
            have g2 : (1 : Int) < (l.length : Int) := by omega
            generalize listB (revokeL s (l.take m)) = P5 at TK
            clear WY hm HR h0 lt hmm i2 i3 i4 H SN HS
            go_upto_region 20 with (first
              | (refine load_blk rfl (.tmp 9) rfl bp 0 rfl P3 Ve.out.at ?_)
              | (go_at_call 30; with_reducible refine (RR.out _).mono ?_; rintro e wf ⟨⟨A7, c7, rfl, hT⟩, hb⟩; have Bf := Lib.hid (low_go Be.out hb); have N7 := Lib.hid hT; clear hb hT))
            clear Be Ve RR
            have SX := Lib.hid (SM.out A7 c7 wf Bf.out N7.out)
            go_upto_region 22 with (go_at_call 20; with_reducible refine (SX.out).mono ?_; rintro e wg ⟨rfl, hb⟩; have Bg := Lib.hid (low_go Bf.out hb); clear hb)
            clear SM SX N7 Bf
            go_upto_region 23 with (first
              | (go_at_call 15; with_reducible refine (TK.out _ Bg.out).mono ?_; rintro e wh ⟨rfl, hb⟩; have Bh := Lib.hid (low_go Bg.out hb); clear hb)
              | (refine store_newG rfl (.tmp 16) (.tmp 129) rfl P5 rfl rfl ?_; intro wi hF hQ; have Bi := Lib.hid (low_go Bh.out hF); clear hF hQ))
            go_wp2_with fail
            go_ret
            exact ⟨rfl, Bi.out⟩
          · have WY := writeJR_no (s := s) (l := l.take m) fun q => by have := q.lo; rw [lt] at this; omega
            rw [WY] at TK
            have g1 : decide ((1 : Int) < (l.length : Int)) = false := by simp; omega
            have g2 : ¬ (1 : Int) < (l.length : Int) := by omega
            clear WY hm HR h0 lt hmm i2 i3 i4 H SN HS
            go_upto_region 20 with (first
              | (refine load_blk rfl (.tmp 9) rfl bp 0 rfl P3 Ve.out.at ?_)
              | (go_at_call 30; with_reducible refine (RR.out _).mono ?_; rintro e wf ⟨⟨A7, c7, rfl, hT⟩, hb⟩; have Bf := Lib.hid (low_go Be.out hb); have N7 := Lib.hid hT; clear hb hT))
            clear Be Ve RR
            have SX := Lib.hid (SM.out A7 c7 wf Bf.out N7.out)
            go_upto_region 22 with (go_at_call 20; with_reducible refine (SX.out).mono ?_; rintro e wg ⟨rfl, hb⟩; have Bg := Lib.hid (low_go Bf.out hb); clear hb)
            clear SM SX N7 Bf
            go_upto_region 23 with (first
              | (go_at_call 15; with_reducible refine (TK.out _ Bg.out).mono ?_; rintro e wh ⟨rfl, hb⟩; have Bh := Lib.hid (low_go Bg.out hb); clear hb)
              | (refine store_newG rfl (.tmp 16) (.tmp 129) rfl .zero rfl rfl ?_; intro wi hF hQ; have Bi := Lib.hid (low_go Bh.out hF); clear hF hQ))
            go_wp2_with fail
            go_ret
            exact ⟨rfl, Bi.out⟩
    obtain ⟨b, o, rfl, hb, hcc⟩ := (H.out.below K2.out.low) (by omega)
    obtain ⟨x, hx⟩ : ∃ x, l[k]? = some x := ⟨l[k], List.getElem?_eq_getElem hlt⟩
    have DV : Hid (∀ W, More wr W → W.cell? ⟨b, o + k, none⟩ = some (.int .u32 ((x : Nat) : Int))) := Lib.hid fun W hW => (Below.cell (p := ⟨b, o + k, none⟩) hW hb).trans (hcc k x hx)
    have HX := Lib.hid hx
    have k0 : (0 : Int) ≤ (k : Int) := by omega
    have kl : (k : Int) < (l.length : Int) := by omega
    have w2 : IntKind.i64.wrap ((k : Int) + 1) = (k : Int) + 1 := by rw [IntKind.wrap_i64]; omega
    have gv : l.getD k 0 = x := by rw [List.getD_eq_getElem?_getD, hx]; rfl
    by_cases hr : RiseTo l k
    rotate_left
    · have R2 : Hid (decide (RiseTo l (k + 1)) = false) := Lib.hid (decide_eq_false (rise_no hr))
      rw [decide_eq_false hr]
      clear hr hcc hx gv
      go_upto_region 10 with fail
      refine wp_region_class (More wr) (by kernel_rfl) (by kernel_rfl) (More.drew _) ?_
      repeat (first | go_big_quiet_skip | (go_big_quiet_want; first | (go_big_quiet_op; first | go_big_quiet_on | (apply Exists.intro; refine ⟨fun _ _ => ?_, ?_⟩; (with_reducible exact rfl); go_big_quiet_on))))
      refine wpQuiet_nil ?_
      intro w7 hw7
      have K7 := Lib.hid (K2.out.below hw7)
      have d0 := DV.out w7 hw7
      clear hw7 K2 DV
      go_wp2_with (first
        | (refine build_tag1 rfl (.tmp 50) rfl x rfl ?_)
        | (refine build_oneT rfl (.tmp 51) rfl (x, false) rfl ?_)
        | (at_builtin; refine at_append_list _ rfl (.tmp 46) (.tmp 52) 25 rfl w.heap.size 62 it _ 2 8 Try.underlying25 TI.out TZ0.out TZ1.out TZ2.out (by rfl) (by omega) (by omega) _ k (tC (tl (l.take k))) (by rfl) (own_keep K7.out.own (below_new w7 _)) (some ⟨w7.heap.size, 0, none⟩) 1 1 (tC [(x, false)]) (by rfl) (tC_length _) (tags_cells (one_tag w7 (x, false))) (tC_one _) (by omega) (by have := K7.out.low.size; simp; omega) ?_; intro v8 w8 hown hgrow; have K8 := Lib.hid (K7.out.app _ HX.out hown hgrow); clear hown hgrow))
      go_roundw
      case rel => exact ⟨k + 1, _, by omega, by congr 1, by rw [R2.out], rfl, K8⟩
      case measure => simp [intOf]; omega
    rw [decide_eq_true hr]
    by_cases k1 : k = 0
    · have R2 : Hid (decide (RiseTo l (k + 1)) = true) := Lib.hid (decide_eq_true (by subst k1; exact rise_one l))
      have q1 : ((k : Int) == 0) = true := by rw [beq_iff_eq]; omega
      have q2 : (k == 0) = true := by rw [beq_iff_eq]; omega
      clear hr hcc hx gv k1
      go_upto_region 10 with fail
      refine wp_region_class (More wr) (by kernel_rfl) (by kernel_rfl) (More.drew _) ?_
      repeat (first | go_big_quiet_skip | (go_big_quiet_want; first | (go_big_quiet_op; first | go_big_quiet_on | (apply Exists.intro; refine ⟨fun _ _ => ?_, ?_⟩; (with_reducible exact rfl); go_big_quiet_on))))
      refine wpQuiet_nil ?_
      intro w7 hw7
      have K7 := Lib.hid (K2.out.below hw7)
      have d0 := DV.out w7 hw7
      clear hw7 K2 DV
      go_wp2_with (first
        | (refine build_tag1 rfl (.tmp 50) rfl x rfl ?_)
        | (refine build_oneT rfl (.tmp 51) rfl (x, false) rfl ?_)
        | (at_builtin; refine at_append_list _ rfl (.tmp 46) (.tmp 52) 25 rfl w.heap.size 62 it _ 2 8 Try.underlying25 TI.out TZ0.out TZ1.out TZ2.out (by rfl) (by omega) (by omega) _ k (tC (tl (l.take k))) (by rfl) (own_keep K7.out.own (below_new w7 _)) (some ⟨w7.heap.size, 0, none⟩) 1 1 (tC [(x, false)]) (by rfl) (tC_length _) (tags_cells (one_tag w7 (x, false))) (tC_one _) (by omega) (by have := K7.out.low.size; simp; omega) ?_; intro v8 w8 hown hgrow; have K8 := Lib.hid (K7.out.app _ HX.out hown hgrow); clear hown hgrow))
      go_roundw
      case rel => exact ⟨k + 1, _, by omega, by congr 1, by rw [R2.out], rfl, K8⟩
      case measure => simp [intOf]; omega
    obtain ⟨m, hm⟩ : ∃ m, k = m + 1 := ⟨k - 1, by omega⟩
    obtain ⟨u, hu⟩ : ∃ u, l[m]? = some u := ⟨l[m]'(by omega), List.getElem?_eq_getElem (by omega)⟩
    have DU : Hid (∀ W, More wr W → W.cell? ⟨b, o + m, none⟩ = some (.int .u32 ((u : Nat) : Int))) := Lib.hid fun W hW => (Below.cell (p := ⟨b, o + m, none⟩) hW hb).trans (hcc m u hu)
    have gu : l.getD m 0 = u := by rw [List.getD_eq_getElem?_getD, hu]; rfl
    have q1 : ((k : Int) == 0) = false := by rw [beq_eq_false_iff_ne]; omega
    have q2 : (k == 0) = false := by rw [beq_eq_false_iff_ne]; omega
    have wm : IntKind.i64.wrap ((k : Int) - 1) = (m : Int) := by rw [IntKind.wrap_i64]; omega
    have m0 : (0 : Int) ≤ (m : Int) := by omega
    have m1 : (m : Int) < (l.length : Int) := by omega
    by_cases q : u < x
    · have R2 : Hid (decide (RiseTo l (k + 1)) = true) := Lib.hid (decide_eq_true (by rw [hm] at hr gv ⊢; exact hr.next (by rw [gv, gu]; exact q)))
      have t1 : decide ((u : Int) < (x : Int)) = true := by simp; omega
      have t2 : (u : Int) < (x : Int) := by omega
      have t3 : decide (u < x) = true := by simp; omega
      clear hr hcc hx gv gu hu q k1 hm
      go_upto_region 10 with fail
      refine wp_region_class (More wr) (by kernel_rfl) (by kernel_rfl) (More.drew _) ?_
      repeat (first | go_big_quiet_skip | (go_big_quiet_want; first | (refine quietJ_u32 (.tmp 36) rfl ⟨b, o + k, none⟩ rfl _ (by intro w' hw'; exact DV.out w' hw') ?_; simp only [Act.put, List.setIfInBounds_toArray, List.set_cons_zero, List.set_cons_succ]; go_big_quiet_on) | (refine quietJ_u32 (.tmp 41) rfl ⟨b, o + m, none⟩ rfl _ (by intro w' hw'; exact DU.out w' hw') ?_; simp only [Act.put, List.setIfInBounds_toArray, List.set_cons_zero, List.set_cons_succ]; go_big_quiet_on) | (go_big_quiet_op; first | go_big_quiet_on | (apply Exists.intro; refine ⟨fun _ _ => ?_, ?_⟩; (with_reducible exact rfl); go_big_quiet_on))))
      refine wpQuiet_nil ?_
      intro w7 hw7
      have K7 := Lib.hid (K2.out.below hw7)
      have d0 := DV.out w7 hw7
      clear hw7 K2 DV DU
      go_wp2_with (first
        | (refine build_tag1 rfl (.tmp 50) rfl x rfl ?_)
        | (refine build_oneT rfl (.tmp 51) rfl (x, false) rfl ?_)
        | (at_builtin; refine at_append_list _ rfl (.tmp 46) (.tmp 52) 25 rfl w.heap.size 62 it _ 2 8 Try.underlying25 TI.out TZ0.out TZ1.out TZ2.out (by rfl) (by omega) (by omega) _ k (tC (tl (l.take k))) (by rfl) (own_keep K7.out.own (below_new w7 _)) (some ⟨w7.heap.size, 0, none⟩) 1 1 (tC [(x, false)]) (by rfl) (tC_length _) (tags_cells (one_tag w7 (x, false))) (tC_one _) (by omega) (by have := K7.out.low.size; simp; omega) ?_; intro v8 w8 hown hgrow; have K8 := Lib.hid (K7.out.app _ HX.out hown hgrow); clear hown hgrow))
      go_roundw
      case rel => exact ⟨k + 1, _, by omega, by congr 1, by rw [R2.out], rfl, K8⟩
      case measure => simp [intOf]; omega
    · have R2 : Hid (decide (RiseTo l (k + 1)) = false) := Lib.hid (decide_eq_false (by rw [hm] at gv ⊢; exact rise_not (by rw [gv, gu]; exact q)))
      have t1 : decide ((u : Int) < (x : Int)) = false := by simp; omega
      have t2 : ¬ (u : Int) < (x : Int) := by omega
      have t3 : decide (u < x) = false := by simp; omega
      clear hr hcc hx gv gu hu q k1 hm
      go_upto_region 10 with fail
      refine wp_region_class (More wr) (by kernel_rfl) (by kernel_rfl) (More.drew _) ?_
      repeat (first | go_big_quiet_skip | (go_big_quiet_want; first | (refine quietJ_u32 (.tmp 36) rfl ⟨b, o + k, none⟩ rfl _ (by intro w' hw'; exact DV.out w' hw') ?_; simp only [Act.put, List.setIfInBounds_toArray, List.set_cons_zero, List.set_cons_succ]; go_big_quiet_on) | (refine quietJ_u32 (.tmp 41) rfl ⟨b, o + m, none⟩ rfl _ (by intro w' hw'; exact DU.out w' hw') ?_; simp only [Act.put, List.setIfInBounds_toArray, List.set_cons_zero, List.set_cons_succ]; go_big_quiet_on) | (go_big_quiet_op; first | go_big_quiet_on | (apply Exists.intro; refine ⟨fun _ _ => ?_, ?_⟩; (with_reducible exact rfl); go_big_quiet_on))))
      refine wpQuiet_nil ?_
      intro w7 hw7
      have K7 := Lib.hid (K2.out.below hw7)
      have d0 := DV.out w7 hw7
      clear hw7 K2 DV DU
      go_wp2_with (first
        | (refine build_tag1 rfl (.tmp 50) rfl x rfl ?_)
        | (refine build_oneT rfl (.tmp 51) rfl (x, false) rfl ?_)
        | (at_builtin; refine at_append_list _ rfl (.tmp 46) (.tmp 52) 25 rfl w.heap.size 62 it _ 2 8 Try.underlying25 TI.out TZ0.out TZ1.out TZ2.out (by rfl) (by omega) (by omega) _ k (tC (tl (l.take k))) (by rfl) (own_keep K7.out.own (below_new w7 _)) (some ⟨w7.heap.size, 0, none⟩) 1 1 (tC [(x, false)]) (by rfl) (tC_length _) (tags_cells (one_tag w7 (x, false))) (tC_one _) (by omega) (by have := K7.out.low.size; simp; omega) ?_; intro v8 w8 hown hgrow; have K8 := Lib.hid (K7.out.app _ HX.out hown hgrow); clear hown hgrow))
      go_roundw
      case rel => exact ⟨k + 1, _, by omega, by congr 1, by rw [R2.out], rfl, K8⟩
      case measure => simp [intOf]; omega
end Go.Proofs.Ytjiooadakklmlaa
