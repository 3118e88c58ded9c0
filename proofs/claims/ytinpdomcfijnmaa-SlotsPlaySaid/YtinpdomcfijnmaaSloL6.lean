import Derived.Test.YtinpdomcfijnmaaSloG
import Derived.Test.YtinpdomcfijnmaaSloH
import Derived.Test.YtinpdomcfijnmaaSloL5
namespace Go.Proofs.Ytinpdomcfijnmaa
open Go.RowKit

/-! SlotsEight. -/
/-- Of the names ahead of the i-th, n are in the block, in its first slots. -/
structure PE (l : List ByteArray) (i n : Nat) (X : Blk) : Prop where
  right : Right X
  le : n ≤ 8
  used : ∀ j, j < n → (slotS X j).ino ≠ 0
  free : ∀ j, n ≤ j → j < 8 → (slotS X j).ino = 0
  come : ∀ j, j < n → ∃ k, k < i ∧ l[k]? = some (slotS X j).name
  has : ∀ k s, k < i → l[k]? = some s → MayN s → n = 8 ∨ (whereN X s).isSome = true
theorem PE.zero (l : List ByteArray) : PE l 0 0 .zero :=
  ⟨right_zero, by omega, fun _ h => absurd h (Nat.not_lt_zero _), fun _ _ _ => by rw [slot_zero]; rfl, fun _ h => absurd h (Nat.not_lt_zero _), fun _ _ h => absurd h (Nat.not_lt_zero _)⟩
def There (l : List ByteArray) (k : Nat) (s : ByteArray) : Prop := ∃ j, j < k ∧ l[j]? = some s
noncomputable instance (l : List ByteArray) (k : Nat) (s : ByteArray) : Decidable (There l k s) := Classical.propDecidable _
noncomputable def thereB (l : List ByteArray) (k : Nat) (s : ByteArray) : Bool := decide (There l k s)
theorem thereB_0 (l : List ByteArray) (s : ByteArray) : thereB l 0 s = false := decide_eq_false fun ⟨_, h, _⟩ => absurd h (Nat.not_lt_zero _)
theorem thereB_on {l : List ByteArray} {k : Nat} {s : ByteArray} (h : thereB l k s = true) : thereB l (k + 1) s = true := decide_eq_true (by
  obtain ⟨j, h1, h2⟩ := of_decide_eq_true h
  exact ⟨j, by omega, h2⟩)
theorem thereB_next {l : List ByteArray} {k : Nat} {s t : ByteArray} (h : thereB l k s = false) (hk : l[k]? = some t) : thereB l (k + 1) s = decide (t = s) := by
  unfold thereB
  rw [decide_eq_decide]
  constructor
  · rintro ⟨j, h1, h2⟩
    rcases Nat.lt_or_ge j k with q | q
    · exact absurd ⟨j, q, h2⟩ (of_decide_eq_false h)
    · rw [show j = k by omega, hk] at h2
      exact Option.some.inj h2
  · rintro rfl
    exact ⟨k, by omega, hk⟩
section
variable {l : List ByteArray} {i n : Nat} {X : Blk} {s : ByteArray}
theorem PE.skip (h : PE l i n X) (hs : l[i]? = some s) (hc : ¬ MayN s ∨ n = 8 ∨ (whereN X s).isSome = true) : PE l (i + 1) n X :=
  ⟨h.right, h.le, h.used, h.free, fun j hj => by
    obtain ⟨k, h1, h2⟩ := h.come j hj
    exact ⟨k, by omega, h2⟩, fun k t hk ht hm => by
    rcases Nat.lt_or_ge k i with q | q
    · exact h.has k t q ht hm
    · obtain rfl : k = i := by omega
      rw [hs] at ht
      obtain rfl := Option.some.inj ht
      rcases hc with hc | hc
      · exact absurd hm hc
      · exact hc⟩
theorem PE.there (h : PE l i n X) {a : Nat} (hw : whereN X s = some a) : thereB l i s = true := decide_eq_true (by
  obtain ⟨a8, a0, an⟩ := (where_some h.right).1 hw
  have : a < n := Classical.byContradiction fun q => a0 (h.free a (by omega) a8)
  obtain ⟨k, h1, h2⟩ := h.come a this
  exact ⟨k, h1, by rw [h2, an]⟩)
theorem PE.full (h : PE l i n X) (h8 : n = 8) : freeN X = none := free_none.2 fun j hj => h.used j (by omega)
theorem PE.room (h : PE l i n X) (h8 : n < 8) : freeN X = some n := free_some.2 ⟨h8, h.free n (Nat.le_refl _) h8, h.used⟩
theorem PE.notThere (h : PE l i n X) (h8 : n < 8) (hm : MayN s) (hw : whereN X s = none) : thereB l i s = false := decide_eq_false fun ⟨k, h1, h2⟩ => by
  rcases h.has k s h1 h2 hm with q | q
  · omega
  · rw [hw] at q; cases q
theorem PE.add (h : PE l i n X) (hs : l[i]? = some s) (h8 : n < 8) (hm : MayN s) (hw : whereN X s = none) (hi : i + 1 < 4294967296) : PE l (i + 1) (n + 1) (setS X n ⟨i + 1, s⟩) := by
  have hx := may_ok hm (show i + 1 ≠ 0 by omega) hi
  have hr := right_add h.right hm (show i + 1 ≠ 0 by omega) hi hw h8
  have hn : slotS (setS X n ⟨i + 1, s⟩) n = ⟨i + 1, s⟩ := slot_set h8 hx
  refine ⟨hr, by omega, fun j hj => ?_, fun j h1 h2 => ?_, fun j hj => ?_, fun k t hk ht htm => ?_⟩
  · by_cases e : j = n
    · subst e; rw [hn]; show i + 1 ≠ 0; omega
    · rw [slot_other e]; exact h.used j (by omega)
  · rw [slot_other (by omega)]; exact h.free j (by omega) h2
  · by_cases e : j = n
    · subst e; rw [hn]; exact ⟨i, by omega, hs⟩
    · rw [slot_other e]
      obtain ⟨k, h1, h2⟩ := h.come j (by omega)
      exact ⟨k, by omega, h2⟩
  · refine .inr ?_
    by_cases e : s = t
    · subst e
      rw [where_add h.right hm (by omega) hi hw h8]; rfl
    · rw [where_set_other hx h8 (fun q => absurd (h.free n (Nat.le_refl _) h8) q) (fun _ => e)]
      rcases Nat.lt_or_ge k i with q | q
      · rcases h.has k t q ht htm with u | u
        · omega
        · exact u
      · obtain rfl : k = i := by omega
        rw [hs] at ht
        exact absurd (Option.some.inj ht) e
end
/-- What SlotsEight keeps in memory. -/
structure EI (w0 : World) (bb : Nat) (X : Blk) (w : World) : Prop where
  blk : BVar w bb X
  at_ : w0.heap.size ≤ bb
  low : Below w0.heap.size w0 w
theorem EI.below {w0 w w' : World} {bb : Nat} {X : Blk} (h : EI w0 bb X w) (hb : Below w.heap.size w w') : EI w0 bb X w' := ⟨h.blk.below hb, h.at_, low_go h.low hb⟩
theorem EI.set {w0 w w' : World} {bb : Nat} {X Y : Blk} (h : EI w0 bb X w) (ho : Only bb w w') (hv : BVar w' bb Y) : EI w0 bb Y w' := ⟨hv, h.at_, low_only h.low ho h.at_⟩
theorem quiet_str {o : Oper} {a : Act} {C : World → Prop} {K : Act → Prop} (x : Operand) (ho : o.op = .load 9 x) (p : Addr) (hx : a.eval x = .pointer (some p)) (s : ByteArray) (hc : ∀ w, C w → w.cell? p = some (.string s))
    (hk : K (a.put o.dst (.string s))) : o.quiet Try.prog a C K := by
  refine ⟨_, fun w hw => ?_, hk⟩
  have h := hc w hw
  unfold Oper.quietAt execOp
  simp only [ho, hx]
  go_simp
  first | done | exact ⟨rfl, hw⟩ | exact hw
set_option maxRecDepth 100000 in
set_option maxHeartbeats 4000000 in
theorem sEight (hS : SlotsSays) (A : Option Addr) (c : Nat) (l : List ByteArray) (w : World) (hl : StrsAt w A l) : Calls Try.prog 7 #[.slice A l.length c] w fun e w' => e = .returned (.bool true) ∧ Below w.heap.size w w' := by
  have hz := fun W => zero_blk W
  have CA := Lib.hid fun W => sAwake hS W
  by_cases h2 : 20 < l.length
  · have t1 : decide ((20 : Int) < (l.length : Int)) = true := by simp; omega
    have v1 : (20 : Int) < (l.length : Int) := by omega
    go_enter Try.func7, Try.ntmps7
    go_wp2_with (go_at_call 21; with_reducible refine (CA.out _).mono ?_; rintro e w2 ⟨rfl, hb⟩)
    go_ret
    exact ⟨rfl, hb⟩
  have t1 : decide ((20 : Int) < (l.length : Int)) = false := by simp; omega
  have v1 : ¬ (20 : Int) < (l.length : Int) := by omega
  have HS := Lib.hid hS
  have HL := Lib.hid hl
  have L20 := Lib.hid h2
  clear hS hl h2
  go_enter Try.func7, Try.ntmps7
  go_upto_region 6 with (go_at_call 21; with_reducible refine (CA.out _).mono ?_; rintro e w2 ⟨rfl, hb⟩)
  have K2 : Hid (EI w w2.heap.size .zero (w2.alloc (.cells (arr .zero) 23))) := Lib.hid ⟨heap_alloc_new w2 _, hb.size, low_go hb (below_new w2 _)⟩
  clear hb hz CA t1 v1
  generalize w2.alloc (.cells (arr .zero) 23) = w3 at K2 ⊢
  generalize w2.heap.size = bb at K2 ⊢
  go_wp2_with fail
  go_loopw [4, 5] (fun nv iv wr => ∃ (i n : Nat) (X : Blk), i ≤ l.length ∧ nv = .int .i64 n ∧ iv = .int .i64 i ∧ Hid (PE l i n X) ∧ Hid (EI w bb X wr)) (fun _ iv _ => l.length - (intOf iv).toNat)
  case atStart => exact ⟨0, 0, .zero, Nat.zero_le _, rfl, rfl, Lib.hid (PE.zero l), K2⟩
  case round =>
    obtain ⟨i, n, X, hi, rfl, rfl, P, K⟩ := hrel
    clear K2
    have n8 := P.out.le
    have n0 : (0 : Int) ≤ (n : Int) := by omega
    by_cases hlt : i < l.length
    rotate_left
    · obtain rfl : i = l.length := by omega
      have g1 : ¬ (l.length : Int) < (l.length : Int) := by omega
      have CL := Lib.hid fun W => HS.out.list X W
      have hgs := slot_guard
      have he : ∀ W, (Op.equalIn 10000 33 (.agg (sls .free)) (.agg (sls .free))).run Try.prog W = .ok true W := fun W => by
        have := equalIn_slot .free .free W
        simpa only [decide_true] using this
      have he2 : ∀ W, (Op.equalIn 10000 33 (.agg (sls .free)) (.agg #[.int .u32 0, .string ⟨#[]⟩])).run Try.prog W = .ok true W := he
      clear he
      have PP := P
      clear HL HS hlt hi L20
      go_upto_region 27 with (first
        | (refine load_blk rfl (.tmp 3) rfl bb 0 rfl X K.out.blk.at ?_)
        | (go_at_call 11; with_reducible refine (CL.out _).mono ?_; rintro e w4 ⟨hl, hb⟩; obtain ⟨A', c', rfl, hown⟩ := hl.own PP.out.right))
      obtain ⟨g, rfl, _, hgr⟩ := own_gr hown
      have K4 := Lib.hid (K.out.below hb)
      have G4 := Lib.hid hgr
      clear hb hl hown hgr K CL
      by_cases h8 : n = 8
      · have d1 : ((n : Int) == 8) = true := by rw [beq_iff_eq]; omega
        have d2 : decide ((n : Int) ≤ 8) = true := by simp; omega
        have d3 : (n : Int) ≤ 8 := by omega
        go_wp2_with fail
        go_ret
        exact ⟨rfl, K4.out.low⟩
      · have d1 : ((n : Int) == 8) = false := by rw [beq_eq_false_iff_ne]; omega
        have d2 : decide ((n : Int) ≤ 8) = true := by simp; omega
        have d3 : (n : Int) ≤ 8 := by omega
        have d4 : (n : Int) < 8 := by omega
        have fs : slotS X n = .free := (PP.out.right.ok (by omega)).none (PP.out.free n (Nat.le_refl _) (by omega))
        have AT : Hid (SAt w4 g (n * 2) .free) := Lib.hid (by rw [← fs]; exact G4.out.at_ n (by omega))
        clear fs h8
        go_wp2_with (first
          | (refine load_slot_w (by with_unfolding_all rfl) (.tmp 117) rfl g (n * 2) rfl .free AT.out ?_))
        go_wp2_with (first
          | (refine load_slot_w (by with_unfolding_all rfl) (.tmp 117) rfl g (n * 2) rfl .free AT.out ?_))
        go_ret
        exact ⟨rfl, K4.out.low⟩
    obtain ⟨s, hs⟩ : ∃ s, l[i]? = some s := ⟨l[i], List.getElem?_eq_getElem hlt⟩
    obtain ⟨b, o, rfl, hbl, hc⟩ := HL.out (by omega)
    have CS : Hid (∀ W, Below w.heap.size w W → ∀ j x, l[j]? = some x → W.cell? ⟨b, o + j, none⟩ = some (.string x)) := Lib.hid fun W hW j x hx => (hW.cell (p := ⟨b, o + j, none⟩) hbl).trans (hc j x hx)
    have g1 : (i : Int) < (l.length : Int) := by omega
    have g0 : (0 : Int) ≤ (i : Int) := by omega
    have i20 : i < 20 := by have := L20.out; omega
    clear hbl hc HL
    go_wp2_with fail
    go_loopw [6, 7] (fun tv kv wr => ∃ k : Nat, k ≤ i ∧ tv = .bool (thereB l k s) ∧ kv = .int .i64 k ∧ Hid (EI w bb X wr)) (fun _ kv _ => i - (intOf kv).toNat)
    case atStart => exact ⟨0, Nat.zero_le _, by rw [thereB_0], rfl, K⟩
    case round =>
      obtain ⟨k, hk, rfl, rfl, K5⟩ := hrel
      clear K
      by_cases hki : k < i
      · obtain ⟨t, ht⟩ : ∃ t, l[k]? = some t := ⟨l[k], List.getElem?_eq_getElem (by omega)⟩
        have C1 : Hid (∀ w', More wr w' → w'.cell? ⟨b, o + k, none⟩ = some (.string t)) := Lib.hid fun w' h => CS.out w' (low_go K5.out.low h) k t ht
        have C2 : Hid (∀ w', More wr w' → w'.cell? ⟨b, o + i, none⟩ = some (.string s)) := Lib.hid fun w' h => CS.out w' (low_go K5.out.low h) i s hs
        have k1 : (k : Int) < (i : Int) := by omega
        have k2 : (k : Int) < (l.length : Int) := by omega
        have k0 : (0 : Int) ≤ (k : Int) := by omega
        obtain ⟨tb, htb⟩ : ∃ tb, thereB l k s = tb := ⟨_, rfl⟩
        rw [htb]
        rcases tb with _ | _
        · have E := Lib.hid (thereB_next htb ht)
          by_cases q : t = s
          · have te : (t.toList == s.toList) = true := by rw [q]; simp
            have E := Lib.hid (show thereB l (k + 1) s = true by rw [thereB_next htb ht]; exact decide_eq_true q)
            clear htb ht q
            go_upto_region 14 with fail
            refine wp_region_class (More wr) (by kernel_rfl) (by kernel_rfl) (More.drew _) ?_
            repeat (first | go_big_quiet_skip | (go_big_quiet_want; first | (refine quiet_str _ rfl _ rfl _ (by intro w' hw'; first | exact C1.out w' hw' | exact C2.out w' hw') ?_; simp only [Act.put, List.setIfInBounds_toArray, List.set_cons_zero, List.set_cons_succ]; go_big_quiet_on) | (go_big_quiet_op; first | go_big_quiet_on | (apply Exists.intro; refine ⟨fun _ _ => ?_, ?_⟩; (with_reducible exact rfl); go_big_quiet_on))))
            refine wpQuiet_nil ?_
            intro w8 hw8
            have K8 := Lib.hid (K5.out.below hw8)
            clear hw8
            go_wp2_with fail
            go_roundw
            case rel => exact ⟨k + 1, by omega, by first | rw [E.out] | (rw [E.out]; rfl), by congr 1, K8⟩
            case measure => simp [intOf]; omega
          · have te : (t.toList == s.toList) = false := by rw [beq_eq_false_iff_ne]; exact fun u => q (list_same u)
            have E := Lib.hid (show thereB l (k + 1) s = false by rw [thereB_next htb ht]; exact decide_eq_false q)
            clear htb ht q
            go_upto_region 14 with fail
            refine wp_region_class (More wr) (by kernel_rfl) (by kernel_rfl) (More.drew _) ?_
            repeat (first | go_big_quiet_skip | (go_big_quiet_want; first | (refine quiet_str _ rfl _ rfl _ (by intro w' hw'; first | exact C1.out w' hw' | exact C2.out w' hw') ?_; simp only [Act.put, List.setIfInBounds_toArray, List.set_cons_zero, List.set_cons_succ]; go_big_quiet_on) | (go_big_quiet_op; first | go_big_quiet_on | (apply Exists.intro; refine ⟨fun _ _ => ?_, ?_⟩; (with_reducible exact rfl); go_big_quiet_on))))
            refine wpQuiet_nil ?_
            intro w8 hw8
            have K8 := Lib.hid (K5.out.below hw8)
            clear hw8
            go_wp2_with fail
            go_roundw
            case rel => exact ⟨k + 1, by omega, by first | rw [E.out] | (rw [E.out]; rfl), by congr 1, K8⟩
            case measure => simp [intOf]; omega
        · have E := Lib.hid (thereB_on htb)
          clear htb ht
          go_upto_region 14 with fail
          refine wp_region_class (More wr) (by kernel_rfl) (by kernel_rfl) (More.drew _) ?_
          repeat (first | go_big_quiet_skip | (go_big_quiet_want; first | (refine quiet_str _ rfl _ rfl _ (by intro w' hw'; first | exact C1.out w' hw' | exact C2.out w' hw') ?_; simp only [Act.put, List.setIfInBounds_toArray, List.set_cons_zero, List.set_cons_succ]; go_big_quiet_on) | (go_big_quiet_op; first | go_big_quiet_on | (apply Exists.intro; refine ⟨fun _ _ => ?_, ?_⟩; (with_reducible exact rfl); go_big_quiet_on))))
          refine wpQuiet_nil ?_
          intro w8 hw8
          have K8 := Lib.hid (K5.out.below hw8)
          clear hw8
          go_wp2_with fail
          go_roundw
          case rel => exact ⟨k + 1, by omega, by first | rw [E.out] | (rw [E.out]; rfl), by congr 1, K8⟩
          case measure => simp [intOf]; omega
      obtain rfl : k = i := by omega
      have k1 : ¬ (k : Int) < (k : Int) := by omega
      have c1 := CS.out wr K5.out.low k s hs
      have w32 : IntKind.u32.wrap ((k : Int) + 1) = (k : Int) + 1 := by rw [IntKind.wrap_u32]; omega
      obtain ⟨may, hmay⟩ : ∃ may, decide (MayN s) = may := ⟨_, rfl⟩
      have CM := Lib.hid fun W => HS.out.may s W
      rw [hmay] at CM
      obtain ⟨tb, htb⟩ : ∃ tb, thereB l k s = tb := ⟨_, rfl⟩
      rw [htb]
      rcases may with _ | _
      · have ha := add_arg (s := s) (ino := k + 1) P.out.right (.inl (of_decide_eq_false hmay))
        have P2 := Lib.hid (P.out.skip hs (.inl (of_decide_eq_false hmay)))
        have CF := CM
        have CX : Hid (∀ W, BVar W bb X → Calls Try.prog 17 #[.pointer (some ⟨bb, 0, none⟩), .string s, .int .u32 ((k : Int) + 1)] W fun e' w' => e' = .returned (.int .i64 2) ∧ BVar w' bb X ∧ Only bb W w') := Lib.hid fun W h => by have := HS.out.add bb X s (k + 1) W h (by omega); rwa [ha] at this
        clear hmay ha htb
        go_upto_region 20 with (go_at_call 17; with_reducible refine (CX.out _ K5.out.blk).mono ?_; rintro e w6 ⟨rfl, hv, ho⟩)
        have K6 := Lib.hid (K5.out.set ho hv)
        have C3 : Hid (∀ w', More w6 w' → w'.cell? ⟨b, o + k, none⟩ = some (.string s)) := Lib.hid fun w' h => CS.out w' (low_go K6.out.low h) k s hs
        clear hv ho K5 CX
        refine wp_region_class (More w6) (by kernel_rfl) (by kernel_rfl) (More.drew _) ?_
        repeat (first | go_big_quiet_skip | (go_big_quiet_want; first | (refine quiet_load _ rfl _ _ rfl X (by intro w' hw'; exact (K6.out.blk.below hw').at) ?_; simp only [Act.put, List.setIfInBounds_toArray, List.set_cons_zero, List.set_cons_succ]; go_big_quiet_on) | (refine quiet_str _ rfl _ rfl _ (by intro w' hw'; exact C3.out w' hw') ?_; simp only [Act.put, List.setIfInBounds_toArray, List.set_cons_zero, List.set_cons_succ]; go_big_quiet_on) | (go_big_quiet_op; first | go_big_quiet_on | (apply Exists.intro; refine ⟨fun _ _ => ?_, ?_⟩; (with_reducible exact rfl); go_big_quiet_on) | go_big_quiet_call ((intro hC; first | ((with_reducible refine (CM.out _).mono ?_); exact fun e w' h => ⟨h.1, by rw [h.2]; exact hC⟩) | ((with_reducible refine (CF.out _).mono ?_); exact fun e w' h => ⟨h.1, hC.on h.2⟩))))))
        refine wpQuiet_nil ?_
        intro w8 hw8
        have K8 := Lib.hid (K6.out.below hw8)
        clear hw8
        go_wp2_with fail
        go_roundw
        case rel => exact ⟨k + 1, n, X, by omega, rfl, by congr 1, P2, K8⟩
        case measure => simp [intOf]; omega
      have hm := of_decide_eq_true hmay
      rcases hw : whereN X s with _ | a
      rotate_left
      · have ha := add_arg (s := s) (ino := k + 1) P.out.right (.inr (.inr (by rw [hw]; rfl)))
        have P2 := Lib.hid (P.out.skip hs (.inr (.inr (by rw [hw]; rfl))))
        have fd : decide (0 ≤ (findD X s).1) = true := decide_eq_true ((find_has P.out.right).2 (by rw [hw]; rfl))
        obtain rfl : tb = true := by rw [← htb]; exact P.out.there hw
        have CF : Hid (∀ W, Calls Try.prog 23 #[.agg (arr X), .string s] W fun e w' => e = .returned (.bool true) ∧ Below W.heap.size W w') := Lib.hid fun W => by have := sFnd HS.out X s W; rwa [fd] at this
        have CX : Hid (∀ W, BVar W bb X → Calls Try.prog 17 #[.pointer (some ⟨bb, 0, none⟩), .string s, .int .u32 ((k : Int) + 1)] W fun e' w' => e' = .returned (.int .i64 2) ∧ BVar w' bb X ∧ Only bb W w') := Lib.hid fun W h => by have := HS.out.add bb X s (k + 1) W h (by omega); rwa [ha] at this
        clear hmay ha htb hm hw fd
        go_upto_region 20 with (go_at_call 17; with_reducible refine (CX.out _ K5.out.blk).mono ?_; rintro e w6 ⟨rfl, hv, ho⟩)
        have K6 := Lib.hid (K5.out.set ho hv)
        have C3 : Hid (∀ w', More w6 w' → w'.cell? ⟨b, o + k, none⟩ = some (.string s)) := Lib.hid fun w' h => CS.out w' (low_go K6.out.low h) k s hs
        clear hv ho K5 CX
        refine wp_region_class (More w6) (by kernel_rfl) (by kernel_rfl) (More.drew _) ?_
        repeat (first | go_big_quiet_skip | (go_big_quiet_want; first | (refine quiet_load _ rfl _ _ rfl X (by intro w' hw'; exact (K6.out.blk.below hw').at) ?_; simp only [Act.put, List.setIfInBounds_toArray, List.set_cons_zero, List.set_cons_succ]; go_big_quiet_on) | (refine quiet_str _ rfl _ rfl _ (by intro w' hw'; exact C3.out w' hw') ?_; simp only [Act.put, List.setIfInBounds_toArray, List.set_cons_zero, List.set_cons_succ]; go_big_quiet_on) | (go_big_quiet_op; first | go_big_quiet_on | (apply Exists.intro; refine ⟨fun _ _ => ?_, ?_⟩; (with_reducible exact rfl); go_big_quiet_on) | go_big_quiet_call ((intro hC; first | ((with_reducible refine (CM.out _).mono ?_); exact fun e w' h => ⟨h.1, by rw [h.2]; exact hC⟩) | ((with_reducible refine (CF.out _).mono ?_); exact fun e w' h => ⟨h.1, hC.on h.2⟩))))))
        refine wpQuiet_nil ?_
        intro w8 hw8
        have K8 := Lib.hid (K6.out.below hw8)
        clear hw8
        go_wp2_with fail
        go_roundw
        case rel => exact ⟨k + 1, n, X, by omega, rfl, by congr 1, P2, K8⟩
        case measure => simp [intOf]; omega
      have NB : ¬ (¬ MayN s ∨ k + 1 = 0 ∨ (whereN X s).isSome = true) := by
        rw [hw]
        rintro (q | q | q)
        · exact q hm
        · omega
        · cases q
      by_cases h8 : n = 8
      · have ha := add_full (s := s) (ino := k + 1) P.out.right NB (P.out.full h8)
        have P2 := Lib.hid (P.out.skip hs (.inr (.inl h8)))
        have fd : decide (0 ≤ (findD X s).1) = false := decide_eq_false fun q => by have := (find_has P.out.right).1 q; rw [hw] at this; cases this
        have d8 : ((n : Int) == 8) = true := by rw [beq_iff_eq]; omega
        have CF : Hid (∀ W, Calls Try.prog 23 #[.agg (arr X), .string s] W fun e w' => e = .returned (.bool false) ∧ Below W.heap.size W w') := Lib.hid fun W => by have := sFnd HS.out X s W; rwa [fd] at this
        have CX : Hid (∀ W, BVar W bb X → Calls Try.prog 17 #[.pointer (some ⟨bb, 0, none⟩), .string s, .int .u32 ((k : Int) + 1)] W fun e' w' => e' = .returned (.int .i64 4) ∧ BVar w' bb X ∧ Only bb W w') := Lib.hid fun W h => by have := HS.out.add bb X s (k + 1) W h (by omega); rwa [ha] at this
        clear hmay ha htb hm hw fd NB h8
        rcases tb with _ | _
        all_goals
          go_upto_region 20 with (go_at_call 17; with_reducible refine (CX.out _ K5.out.blk).mono ?_; rintro e w6 ⟨rfl, hv, ho⟩)
          have K6 := Lib.hid (K5.out.set ho hv)
          have C3 : Hid (∀ w', More w6 w' → w'.cell? ⟨b, o + k, none⟩ = some (.string s)) := Lib.hid fun w' h => CS.out w' (low_go K6.out.low h) k s hs
          clear hv ho K5 CX
          refine wp_region_class (More w6) (by kernel_rfl) (by kernel_rfl) (More.drew _) ?_
          repeat (first | go_big_quiet_skip | (go_big_quiet_want; first | (refine quiet_load _ rfl _ _ rfl X (by intro w' hw'; exact (K6.out.blk.below hw').at) ?_; simp only [Act.put, List.setIfInBounds_toArray, List.set_cons_zero, List.set_cons_succ]; go_big_quiet_on) | (refine quiet_str _ rfl _ rfl _ (by intro w' hw'; exact C3.out w' hw') ?_; simp only [Act.put, List.setIfInBounds_toArray, List.set_cons_zero, List.set_cons_succ]; go_big_quiet_on) | (go_big_quiet_op; first | go_big_quiet_on | (apply Exists.intro; refine ⟨fun _ _ => ?_, ?_⟩; (with_reducible exact rfl); go_big_quiet_on) | go_big_quiet_call ((intro hC; first | ((with_reducible refine (CM.out _).mono ?_); exact fun e w' h => ⟨h.1, by rw [h.2]; exact hC⟩) | ((with_reducible refine (CF.out _).mono ?_); exact fun e w' h => ⟨h.1, hC.on h.2⟩))))))
          refine wpQuiet_nil ?_
          intro w8 hw8
          have K8 := Lib.hid (K6.out.below hw8)
          clear hw8
          go_wp2_with fail
          go_roundw
          case rel => exact ⟨k + 1, n, X, by omega, rfl, by congr 1, P2, K8⟩
          case measure => simp [intOf]; omega
      have n7 : n < 8 := by omega
      obtain ⟨Y, hY⟩ : ∃ Y, setS X n ⟨k + 1, s⟩ = Y := ⟨_, rfl⟩
      have ha := add_yes (s := s) (ino := k + 1) P.out.right NB (P.out.room n7)
      rw [hY] at ha
      have P2 : Hid (PE l (k + 1) (n + 1) Y) := Lib.hid (by rw [← hY]; exact P.out.add hs n7 hm hw (by omega))
      obtain rfl : tb = false := by rw [← htb]; exact P.out.notThere n7 hm hw
      have sY : slotS Y n = ⟨k + 1, s⟩ := by rw [← hY]; exact slot_set n7 (may_ok hm (by omega) (by omega))
      have CF : Hid (∀ W, Calls Try.prog 13 #[.agg (arr Y), .string s] W fun e w' => e = .returned (.tuple #[.int .i64 (n : Int), .int .u32 ((k : Int) + 1)]) ∧ Below W.heap.size W w') := Lib.hid fun W => by
        have := HS.out.find Y s W
        rw [find_at (i := n) P2.out.right n7 (by rw [sY]; show k + 1 ≠ 0; omega) (by rw [sY]), sY] at this
        exact this
      have d8 : ((n : Int) == 8) = false := by rw [beq_eq_false_iff_ne]; omega
      have CX : Hid (∀ W, BVar W bb X → Calls Try.prog 17 #[.pointer (some ⟨bb, 0, none⟩), .string s, .int .u32 ((k : Int) + 1)] W fun e' w' => e' = .returned (.int .i64 0) ∧ BVar w' bb Y ∧ Only bb W w') := Lib.hid fun W h => by have := HS.out.add bb X s (k + 1) W h (by omega); rwa [ha] at this
      clear hmay ha htb hm hw NB h8 hY sY
      go_upto_region 20 with (go_at_call 17; with_reducible refine (CX.out _ K5.out.blk).mono ?_; rintro e w6 ⟨rfl, hv, ho⟩)
      have K6 := Lib.hid (K5.out.set ho hv)
      have C3 : Hid (∀ w', More w6 w' → w'.cell? ⟨b, o + k, none⟩ = some (.string s)) := Lib.hid fun w' h => CS.out w' (low_go K6.out.low h) k s hs
      clear hv ho K5 CX
      refine wp_region_class (More w6) (by kernel_rfl) (by kernel_rfl) (More.drew _) ?_
      repeat (first | go_big_quiet_skip | (go_big_quiet_want; first | (refine quiet_load _ rfl _ _ rfl Y (by intro w' hw'; exact (K6.out.blk.below hw').at) ?_; simp only [Act.put, List.setIfInBounds_toArray, List.set_cons_zero, List.set_cons_succ]; go_big_quiet_on) | (refine quiet_str _ rfl _ rfl _ (by intro w' hw'; exact C3.out w' hw') ?_; simp only [Act.put, List.setIfInBounds_toArray, List.set_cons_zero, List.set_cons_succ]; go_big_quiet_on) | (go_big_quiet_op; first | go_big_quiet_on | (apply Exists.intro; refine ⟨fun _ _ => ?_, ?_⟩; (with_reducible exact rfl); go_big_quiet_on) | go_big_quiet_call ((intro hC; first | ((with_reducible refine (CM.out _).mono ?_); exact fun e w' h => ⟨h.1, by rw [h.2]; exact hC⟩) | ((with_reducible refine (CF.out _).mono ?_); exact fun e w' h => ⟨h.1, hC.on h.2⟩))))))
      refine wpQuiet_nil ?_
      intro w8 hw8
      have K8 := Lib.hid (K6.out.below hw8)
      clear hw8
      have C3 : Hid (∀ w', More w8 w' → w'.cell? ⟨b, o + k, none⟩ = some (.string s)) := Lib.hid fun w' h => CS.out w' (low_go K8.out.low h) k s hs
      clear K6
      go_upto_region 16 with fail
      refine wp_region_class (More w8) (by kernel_rfl) (by kernel_rfl) (More.drew _) ?_
      repeat (first | go_big_quiet_skip | (go_big_quiet_want; first | (refine quiet_load _ rfl _ _ rfl Y (by intro w' hw'; exact (K8.out.blk.below hw').at) ?_; simp only [Act.put, List.setIfInBounds_toArray, List.set_cons_zero, List.set_cons_succ]; go_big_quiet_on) | (refine quiet_str _ rfl _ rfl _ (by intro w' hw'; exact C3.out w' hw') ?_; simp only [Act.put, List.setIfInBounds_toArray, List.set_cons_zero, List.set_cons_succ]; go_big_quiet_on) | (go_big_quiet_op; first | go_big_quiet_on | (apply Exists.intro; refine ⟨fun _ _ => ?_, ?_⟩; (with_reducible exact rfl); go_big_quiet_on) | go_big_quiet_call ((intro hC; first | ((with_reducible refine (CM.out _).mono ?_); exact fun e w' h => ⟨h.1, by rw [h.2]; exact hC⟩) | ((with_reducible refine (CF.out _).mono ?_); exact fun e w' h => ⟨h.1, hC.on h.2⟩))))))
      refine wpQuiet_nil ?_
      intro w9 hw9
      have K9 := Lib.hid (K8.out.below hw9)
      clear hw9
      go_wp2_with fail
      go_roundw
      case rel => exact ⟨k + 1, n + 1, Y, by omega, by congr 1, by congr 1, P2, K9⟩
      case measure => simp [intOf]; omega
end Go.Proofs.Ytinpdomcfijnmaa
