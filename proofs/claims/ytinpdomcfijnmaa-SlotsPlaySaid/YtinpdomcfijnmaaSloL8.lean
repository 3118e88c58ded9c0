import Derived.Test.YtinpdomcfijnmaaSloR
namespace Go.Proofs.Ytinpdomcfijnmaa
open Go.RowKit

/-! SlotsPlay. -/
/-- Where a name stands in the list, as far as it has been looked at. -/
def AtL (L : List Entry) (s : ByteArray) (k : Nat) (at_ : Int) : Prop := (at_ = -1 ∧ ∀ j (h : j < L.length), j < k → (L[j]).1 ≠ s) ∨ (∃ (a : Nat) (h : a < L.length), a < k ∧ at_ = a ∧ (L[a]).1 = s)
theorem AtL.zero (L : List Entry) (s : ByteArray) : AtL L s 0 (-1) := .inl ⟨rfl, fun _ _ h => absurd h (Nat.not_lt_zero _)⟩
theorem AtL.hit {L : List Entry} {s : ByteArray} {k : Nat} (h : k < L.length) (e : (L[k]).1 = s) : AtL L s (k + 1) k := .inr ⟨k, h, by omega, rfl, e⟩
theorem AtL.miss {L : List Entry} {s : ByteArray} {k : Nat} {at_ : Int} (hh : AtL L s k at_) (hk : k < L.length) (e : (L[k]).1 ≠ s) : AtL L s (k + 1) at_ := by
  rcases hh with ⟨h1, h2⟩ | ⟨a, h1, h2, h3⟩
  · refine .inl ⟨h1, fun j h hj => ?_⟩
    by_cases q : j = k
    · subst q; exact e
    · exact h2 j h (by omega)
  · exact .inr ⟨a, h1, by omega, h3⟩
theorem own_turns1 {w : World} {base c : Nat} {A : Option Addr} {l : List Entry} (h : w.ownsRow base 52 2 (.slice A l.length c) l.length (eC l)) (hs : Small l) : TurnsAt w A l := by
  obtain ⟨A', c', e, _, ht⟩ := own_turns h hs
  injection e with e1 _ _
  subst e1
  exact ht
theorem entry_fill (s : ByteArray) (n : Int) : Instr.fill (fun i => some (i * 2, 2)) ((Array.range (1 * 2)).map ((Value.agg #[.string ⟨#[]⟩, .int .u32 0]).cells[· % (Value.agg #[.string ⟨#[]⟩, .int .u32 0]).cells.size]!)) [(0, .agg #[.string s, .int .u32 n])] = some #[.string s, .int .u32 n] := by kernel_rfl
theorem build_oneE {ops : Array Oper} {rest : List Oper} {op : Oper} {a : Act} {w : World} {Q : Exit → Act → World → Prop} (hgd : op.guard = none) (y0 : Operand) (ho : op.op = .buildSlice 48 1 #[(0, y0)]) (s : ByteArray) (n : Int) (h0 : a.eval y0 = .agg #[.string s, .int .u32 n])
    (h : wpList Try.prog ops Q rest (a.put op.dst (.slice (some ⟨w.heap.size, 0, none⟩) 1 1)) (w.alloc (.cells #[.string s, .int .u32 n] 52))) : wpList Try.prog ops Q (op :: rest) a w := by
  obtain ⟨i, i1, i2⟩ := Option.map_eq_some_iff.1 entry_two
  simp only [Prod.mk.injEq] at i2
  obtain ⟨hz, hs⟩ := i2
  refine wpList_plain hgd fun _ hK => wp_buildSlice 48 52 1 _ ho #[.string s, .int .u32 n] i _ Try.underlying48 i1 hz (by rw [hs]; decide) (by rw [hs]; decide) ?_ (hK _ _ h)
  rw [hs]
  simp only [List.map_toArray, List.map_cons, List.map_nil, h0]
  exact entry_fill s n
theorem small_add {l : List Entry} (h : Small l) {s : ByteArray} {n : Nat} (hn : n < 4294967296) : Small (l ++ [(s, n)]) := fun p hp => by
  rcases List.mem_append.1 hp with q | q
  · exact h p q
  · simp at q
    subst q
    exact hn
theorem small_cut {l : List Entry} (h : Small l) (k : Nat) : Small (l.take k ++ l.drop (k + 1)) := fun p hp => by
  rcases List.mem_append.1 hp with q | q
  · exact h p (List.mem_of_mem_take q)
  · exact h p (List.mem_of_mem_drop q)
theorem add_mid (b o i : Nat) : (⟨b, o, none⟩ : Addr).add i = ⟨b, o + i, none⟩ := by unfold Addr.add; split <;> simp_all
set_option maxRecDepth 100000 in
set_option maxHeartbeats 4000000 in
theorem sPlay (hS : SlotsSays) (A0 : Option Addr) (c0 : Nat) (T : List (ByteArray × Nat)) (w : World) (hT : TurnsAt w A0 T) : Calls Try.prog 5 #[.slice A0 T.length c0] w fun e w' => e = .returned (.bool true) ∧ Below w.heap.size w w' := by
  have hz := fun W => zero_blk W
  have CA := Lib.hid fun W => sAwake hS W
  by_cases h2 : 100 < T.length
  · have t1 : decide ((100 : Int) < (T.length : Int)) = true := by simp; omega
    have v1 : (100 : Int) < (T.length : Int) := by omega
    go_enter Try.func5, Try.ntmps5
    go_wp2_with (go_at_call 21; with_reducible refine (CA.out _).mono ?_; rintro e w2 ⟨rfl, hb⟩)
    go_ret
    exact ⟨rfl, hb⟩
  have t1 : decide ((100 : Int) < (T.length : Int)) = false := by simp; omega
  have v1 : ¬ (100 : Int) < (T.length : Int) := by omega
  obtain ⟨i0, hi0, hzz⟩ := Option.map_eq_some_iff.1 entry_info
  simp only [Prod.mk.injEq] at hzz
  obtain ⟨hz0, hz1, hz2⟩ := hzz
  have HZ0 := Lib.hid hz0
  have HZ1 := Lib.hid hz1
  have HZ2 := Lib.hid hz2
  have HI0 := Lib.hid hi0
  have HS := Lib.hid hS
  have HT := Lib.hid hT
  have T100 := Lib.hid h2
  clear hz0 hz1 hz2 hi0 hS hT h2
  go_enter Try.func5, Try.ntmps5
  go_upto_region 6 with (go_at_call 21; with_reducible refine (CA.out _).mono ?_; rintro e w2 ⟨rfl, hb⟩)
  have K2 : Hid (SP w w2.heap.size .zero (.slice none 0 0) [] (w2.alloc (.cells (arr .zero) 23))) := Lib.hid ⟨heap_alloc_new w2 _, World.ownsRow_nil _ _ _ _, hb.size, low_go hb (below_new w2 _)⟩
  clear hb hz CA t1 v1
  generalize w2.alloc (.cells (arr .zero) 23) = w3 at K2 ⊢
  generalize w2.heap.size = bb at K2 ⊢
  go_wp2_with fail
  go_loopw [4, 5] (fun lv iv wr => ∃ (i : Nat) (X : Blk) (L : List Entry) (v : Value), i ≤ T.length ∧ lv = v ∧ iv = .int .i64 i ∧ Hid (PL X L) ∧ Hid (Small L) ∧ Hid (SP w bb X v L wr)) (fun _ iv _ => T.length - (intOf iv).toNat)
  case atStart => exact ⟨0, .zero, [], _, Nat.zero_le _, rfl, rfl, Lib.hid PL.zero, Lib.hid (fun _ h => nomatch h), K2⟩
  case round =>
    obtain ⟨i, X, L, v, hi, rfl, rfl, P, S, K⟩ := hrel
    clear K2
    by_cases hlt : i < T.length
    rotate_left
    · obtain rfl : i = T.length := by omega
      have g1 : ¬ (T.length : Int) < (T.length : Int) := by omega
      go_wp2_with fail
      go_ret
      exact ⟨rfl, K.out.low⟩
    obtain ⟨⟨s, n⟩, hp⟩ : ∃ p, T[i]? = some p := ⟨T[i], List.getElem?_eq_getElem hlt⟩
    obtain ⟨b, o, rfl, hbl, hc⟩ := HT.out (by omega)
    have n32 := (hc i _ hp).2.2
    have C1 : Hid (∀ w', Below w.heap.size w w' → w'.cell? ⟨b, o + i * 2, none⟩ = some (.string s)) := Lib.hid fun w' h => (h.cell (p := ⟨b, o + i * 2, none⟩) hbl).trans (hc i _ hp).1
    have C2 : Hid (∀ w', Below w.heap.size w w' → w'.cell? ⟨b, o + i * 2 + 1, none⟩ = some (.int .u32 ((n : Nat) : Int))) := Lib.hid fun w' h => (h.cell (p := ⟨b, o + i * 2 + 1, none⟩) hbl).trans (hc i _ hp).2.1
    have N32 := Lib.hid n32
    have i0' : (0 : Int) ≤ (i : Int) := by omega
    have i1 : (i : Int) < (T.length : Int) := by omega
    have i100 : i < 100 := by have := T100.out; omega
    have l8 := P.out.le
    clear hc hbl hp n32
    go_upto_region 10 with fail
    refine wp_region_class (More wr) (by kernel_rfl) (by kernel_rfl) (More.drew _) ?_
    repeat (first | go_big_quiet_skip | (go_big_quiet_want; first | (refine quiet_str _ rfl _ rfl _ (by intro w' hw'; exact C1.out w' (low_go K.out.low hw')) ?_; simp only [Act.put, List.setIfInBounds_toArray, List.set_cons_zero, List.set_cons_succ]; go_big_quiet_on) | (refine quiet_u32 _ rfl _ rfl _ (by intro w' hw'; exact C2.out w' (low_go K.out.low hw')) ?_; simp only [Act.put, List.setIfInBounds_toArray, List.set_cons_zero, List.set_cons_succ]; go_big_quiet_on) | (go_big_quiet_op; first | go_big_quiet_on | (apply Exists.intro; refine ⟨fun _ _ => ?_, ?_⟩; (with_reducible exact rfl); go_big_quiet_on))))
    refine wpQuiet_nil ?_
    intro w4 hw4
    have K4 := Lib.hid (K.out.below hw4)
    clear hw4 K C1 C2
    by_cases long : 1000 < s.size
    · have t1 : decide ((1000 : Int) < (s.size : Int)) = true := by simp; omega
      have v1 : (1000 : Int) < (s.size : Int) := by omega
      go_wp2_with fail
      go_ret
      exact ⟨rfl, K4.out.low⟩
    have t1 : decide ((1000 : Int) < (s.size : Int)) = false := by simp; omega
    have v1 : ¬ (1000 : Int) < (s.size : Int) := by omega
    obtain ⟨A, c, hv, cle, ht⟩ := own_turns K4.out.own S.out
    subst hv
    have HL := Lib.hid ht
    clear ht long
    go_wp2_with fail
    clear t1 v1
    go_loopw [8, 9] (fun av kv wr => ∃ (k : Nat) (a : Int), k ≤ L.length ∧ av = .int .i64 a ∧ kv = .int .i64 k ∧ wr = w4 ∧ Hid (AtL L s k a)) (fun _ kv _ => L.length - (intOf kv).toNat)
    case atStart => exact ⟨0, -1, Nat.zero_le _, rfl, rfl, rfl, Lib.hid (AtL.zero L s)⟩
    case round =>
      obtain ⟨k, at_, hk, rfl, rfl, hwr, H⟩ := hrel
      subst hwr
      by_cases hkl : k < L.length
      · obtain ⟨b', o', rfl, _, hc⟩ := HL.out (by omega)
        obtain ⟨⟨t, m⟩, hq⟩ : ∃ p, L[k]? = some p := ⟨L[k], List.getElem?_eq_getElem hkl⟩
        have hq2 : L[k] = (t, m) := by rw [List.getElem?_eq_getElem hkl] at hq; exact Option.some.inj hq
        have d0 := (hc k _ hq).1
        have k0 : (0 : Int) ≤ (k : Int) := by omega
        have k1 : (k : Int) < (L.length : Int) := by omega
        by_cases e : t = s
        · have te : (t.toList == s.toList) = true := by rw [e]; simp
          have H2 : Hid (AtL L s (k + 1) (k : Int)) := Lib.hid (AtL.hit hkl (by rw [hq2]; exact e))
          clear hc hq hq2 e
          go_wp2_with fail
          go_roundw
          case rel => exact ⟨k + 1, k, by omega, rfl, by congr 1, trivial, H2⟩
          case measure => simp [intOf]; omega
        · have te : (t.toList == s.toList) = false := by rw [beq_eq_false_iff_ne]; exact fun u => e (list_same u)
          have H2 : Hid (AtL L s (k + 1) at_) := Lib.hid (H.out.miss hkl (by rw [hq2]; exact e))
          clear hc hq hq2 e
          go_wp2_with fail
          go_roundw
          case rel => exact ⟨k + 1, at_, by omega, rfl, by congr 1, trivial, H2⟩
          case measure => simp [intOf]; omega
      obtain rfl : k = L.length := by omega
      have k1 : ¬ (L.length : Int) < (L.length : Int) := by omega
      by_cases n0 : n = 0
      · subst n0
        rcases H.out with ⟨rfl, hno⟩ | ⟨a, ha, _, rfl, hname⟩
        · have hw := P.out.nowhere (s := s) (fun j h => hno j h (by omega))
          have CR : Hid (∀ W, BVar W bb X → Calls Try.prog 19 #[.pointer (some ⟨bb, 0, none⟩), .string s] W fun e' w' => e' = .returned (.bool false) ∧ BVar w' bb X ∧ Only bb W w') := Lib.hid fun W h => by
            have := HS.out.rem bb X s W h
            rw [show remD X s = (X, false) by unfold remD; rw [if_pos P.out.right, hw]] at this
            exact this
          clear hw hno H
          go_upto_region 30 with (go_at_call 19; with_reducible refine (CR.out _ K4.out.blk).mono ?_; rintro e w6 ⟨rfl, hv, ho⟩)
          have K6 := Lib.hid (K4.out.set ho hv)
          clear hv ho K4 CR
          have CH := Lib.hid (sHolds HS.out X A c L w6 P.out (own_turns1 K6.out.own S.out))
          go_wp2_with (first
            | (refine load_blk rfl (.tmp 3) rfl bb 0 rfl X K6.out.blk.at ?_)
            | (go_at_call 22; with_reducible refine (CH.out).mono ?_; rintro e wz ⟨rfl, hb⟩))
          have Kz := Lib.hid (K6.out.below hb)
          clear hb CH
          go_roundw
          case rel => exact ⟨i + 1, X, L, (.slice A L.length c), by omega, rfl, by congr 1, P, S, Kz⟩
          case measure => simp [intOf]; omega
        · obtain ⟨j, hwj, _⟩ := P.out.mem a ha
          rw [hname] at hwj
          obtain ⟨Y, hY⟩ : ∃ Y, setS X j .free = Y := ⟨_, rfl⟩
          have CR : Hid (∀ W, BVar W bb X → Calls Try.prog 19 #[.pointer (some ⟨bb, 0, none⟩), .string s] W fun e' w' => e' = .returned (.bool true) ∧ BVar w' bb Y ∧ Only bb W w') := Lib.hid fun W h => by
            have := HS.out.rem bb X s W h
            rw [show remD X s = (Y, true) by unfold remD; rw [if_pos P.out.right, hwj]; simp only; rw [hY]] at this
            exact this
          have P2 : Hid (PL Y (L.take a ++ L.drop (a + 1))) := Lib.hid (by rw [← hY]; exact P.out.rem ha (by rw [hname]; exact hwj))
          have S2 := Lib.hid (small_cut S.out a)
          have a1 : decide ((0 : Int) ≤ (a : Int)) = true := by simp
          have a2 : (0 : Int) ≤ (a : Int) := by omega
          clear hwj hname hY H
          go_upto_region 23 with (go_at_call 19; with_reducible refine (CR.out _ K4.out.blk).mono ?_; rintro e w6 ⟨rfl, hv, ho⟩)
          have K6 := Lib.hid (K4.out.set ho hv)
          clear hv ho K4 CR
          rcases K6.out.own.2 with ⟨_, hl0⟩ | ⟨g, cap, cur, hq, _, _, _, hmx, _, _⟩
          · omega
          injection hq with q1 _ q3
          subst q1 q3
          have OWN := Lib.hid K6.out.own
          have CLE := Lib.hid cle
          have cm : c ≠ 0 := by omega
          refine wp_region_gen (n := 10) cutD (RG w6 g c a L) (by kernel_rfl) (by kernel_rfl) (by kernel_rfl) (by kernel_rfl) (by kernel_rfl) (fun x => RG.start) ?_ ?_
          · intro ix op α w' seen x hix ho hsz hk hx hI hun hdep
            have hsz : seen.size = 11 := hsz
            have e4 : α.eval (.tmp 4) = .slice (some ⟨g, 0, none⟩) L.length c := (hk.eval (by decide)).trans rfl
            have e8 : α.eval (.tmp 8) = .int .i64 (a : Int) := (hk.eval (by decide)).trans rfl
            have cells : ∀ j u, (eC L)[j]? = some u → w'.cell? ((⟨g, 0, none⟩ : Addr).add j) = some u := (own_below OWN.out hI.low).cells rfl
            match ix, ho with
            | 0, ho =>
              cases ho
              refine wp_value (v := .slice (some ⟨w'.heap.size, 0, none⟩) 0 0) (w' := w'.alloc (.cells #[] 52)) ?_ ⟨_, rfl, hI.step0 (below_new _ _) ⟨by simp, .inr ⟨w'.heap.size, 0, #[], rfl, hI.low.size, heap_alloc_new w' _, Nat.le_refl _, by simp only [maxLen]; omega, rfl, by simp⟩⟩⟩
              unfold execOp
              simp [run_build0, Result.andThen]
            | 1, ho =>
              cases ho
              exact Go.BigFrame.wp_move _ rfl ⟨_, rfl, hI.pure (by decide) (by decide) (by decide) e4⟩
            | 2, ho =>
              cases ho
              exact Go.BigFrame.wp_move _ rfl ⟨_, rfl, hI.pure (by decide) (by decide) (by decide) e8⟩
            | 3, ho =>
              cases ho
              have x1 : α.eval (.tmp 60) = .slice (some ⟨g, 0, none⟩) L.length c := (hx 1 (by omega)).trans (hI.val 1 (by omega) (hdep ⟨1, .data⟩ (by simp) rfl))
              have x2 : α.eval (.tmp 61) = .int .i64 (a : Int) := (hx 2 (by omega)).trans (hI.val 2 (by omega) (hdep ⟨2, .data⟩ (by simp) rfl))
              refine wp_value (v := .slice (some ⟨g, 0, none⟩) a c) (w' := w') ?_ ⟨_, rfl, hI.pure (by decide) (by decide) (by decide) rfl⟩
              have ac : (a : Int) ≤ (c : Int) := by have := CLE.out; omega
              generalize α.eval = ev at x1 x2 ⊢
              go_simp
            | 4, ho =>
              cases ho
              have x0 : α.eval (.tmp 59) = x 0 := hx 0 (by omega)
              have x3 : α.eval (.tmp 62) = .slice (some ⟨g, 0, none⟩) a c := (hx 3 (by omega)).trans (hI.val 3 (by omega) (hdep ⟨3, .data⟩ (by simp) rfl))
              have own0 := hI.s0 (hdep ⟨0, .data⟩ (by simp) rfl) (getD_both hun)
              refine wp_append_own w' (.tmp 59) (.tmp 62) 48 rfl w6.heap.size 52 i0 _ 2 24 Try.underlying48 HI0.out HZ0.out HZ1.out HZ2.out (by rfl) (by omega) (x 0) 0 [] x0 own0 ⟨g, 0, none⟩ a c (eC (L.take a)) x3 (by rw [eC_length, List.length_take]; omega) (fun j u h => cells j u (eC_take L a j u h)) (eC_one _) (by simp only [maxLen]; omega) (by omega) hI.low.size fun v' w'' h2 h3 _ => ⟨v', rfl, hI.step4 hsz (getD_both hun) (hI.low.grown h3 hI.low.size (fun k e => (own0.lt k e).1)) (by rw [Nat.zero_add] at h2; exact h2)⟩
            | 5, ho =>
              cases ho
              exact Go.BigFrame.wp_move _ rfl ⟨_, rfl, hI.pure (by decide) (by decide) (by decide) e4⟩
            | 6, ho =>
              cases ho
              exact Go.BigFrame.wp_move _ rfl ⟨_, rfl, hI.pure (by decide) (by decide) (by decide) e8⟩
            | 7, ho =>
              cases ho
              have x6 : α.eval (.tmp 65) = .int .i64 (a : Int) := (hx 6 (by omega)).trans (hI.val 6 (by omega) (hdep ⟨6, .data⟩ (by simp) rfl))
              refine wp_value (v := .int .i64 ((a : Int) + 1)) (w' := w') ?_ ⟨_, rfl, hI.pure (by decide) (by decide) (by decide) rfl⟩
              have w1 : IntKind.i64.wrap ((a : Int) + 1) = (a : Int) + 1 := by rw [IntKind.wrap_i64]; omega
              have a8 : a < 8 := by omega
              have ec : α.eval (.const (.int .i64 1)) = .int .i64 1 := rfl
              generalize α.eval = ev at x6 ec ⊢
              go_simp
            | 8, ho =>
              cases ho
              have x5 : α.eval (.tmp 64) = .slice (some ⟨g, 0, none⟩) L.length c := (hx 5 (by omega)).trans (hI.val 5 (by omega) (hdep ⟨5, .data⟩ (by simp) rfl))
              have x7 : α.eval (.tmp 66) = .int .i64 ((a : Int) + 1) := (hx 7 (by omega)).trans (hI.val 7 (by omega) (hdep ⟨7, .data⟩ (by simp) rfl))
              refine wp_value (v := .slice (some (if c = a + 1 then ⟨g, 0, none⟩ else ⟨g, (a + 1) * 2, none⟩)) (L.length - (a + 1)) (c - (a + 1))) (w' := w') ?_ ⟨_, rfl, hI.pure (by decide) (by decide) (by decide) rfl⟩
              have ac : (a : Int) + 1 ≤ (L.length : Int) := by omega
              have lc : (L.length : Int) ≤ (c : Int) := by have := CLE.out; omega
              have tn : ((a : Int) + 1).toNat = a + 1 := by omega
              have az : (0 : Int) ≤ (a : Int) + 1 := by omega
              generalize α.eval = ev at x5 x7 ⊢
              go_simp
              by_cases q : c = a + 1
              · simp [q]
              · simp [q]
            | 9, ho =>
              cases ho
              have x4 : α.eval (.tmp 63) = x 4 := hx 4 (by omega)
              have x8 : α.eval (.tmp 67) = .slice (some (if c = a + 1 then ⟨g, 0, none⟩ else ⟨g, (a + 1) * 2, none⟩)) (L.length - (a + 1)) (c - (a + 1)) := (hx 8 (by omega)).trans (hI.val 8 (by omega) (hdep ⟨8, .data⟩ (by simp) rfl))
              have own4 := hI.s4 (hdep ⟨4, .data⟩ (by simp) rfl) (getD_both hun)
              refine wp_append_own w' (.tmp 63) (.tmp 67) 48 rfl w6.heap.size 52 i0 _ 2 24 Try.underlying48 HI0.out HZ0.out HZ1.out HZ2.out (by rfl) (by omega) (x 4) a (eC (L.take a)) x4 own4 _ (L.length - (a + 1)) (c - (a + 1)) (eC (L.drop (a + 1))) x8 (by rw [eC_length, List.length_drop]) (fun j u h => ?_) (eC_one _) (by simp only [maxLen]; omega) (by omega) hI.low.size fun v' w'' h2 h3 _ => ⟨v', rfl, hI.step9 hsz (hdep ⟨4, .data⟩ (by simp) rfl) (hI.low.grown h3 hI.low.size (fun k e => (own4.lt k e).1)) (by rw [eC_append]; exact h2)⟩
              have := cells ((a + 1) * 2 + j) u (eC_cut L (a + 1) j u (by omega) h)
              by_cases q : c = a + 1
              · have hn : L.length = a + 1 := by have := CLE.out; omega
                rw [List.drop_eq_nil_of_le (by omega)] at h
                simp [eC] at h
              · rw [if_neg q]
                rw [add_mid] at this ⊢
                rwa [Nat.zero_add] at this
          · intro α w' x hk hx hI
            obtain ⟨y, hy, ea⟩ := hk.lit2 119 rfl
            replace ea : α = { tmps := #[.slice (some ⟨b, o, none⟩) T.length c0, undef, u2, .pointer (some ⟨bb, 0, none⟩), .slice (some ⟨g, 0, none⟩) L.length c, .int .i64 (i : Int), .string s, .int .u32 0, .int .i64 (a : Int), .int .i64 (L.length : Int), u10, u11, .bool true, .bool false, .slice (some ⟨b, o, none⟩) T.length c0, .int .i64 (T.length : Int), .bool false, .int .i64 (i : Int), .slice (some ⟨b, o, none⟩) T.length c0, .int .i64 (T.length : Int), .bool true, u21, u22, .slice (some ⟨b, o, none⟩) T.length c0, .int .i64 (i : Int), .pointer (some ⟨b, o + i * 2, none⟩), .pointer (some ⟨b, o + i * 2, none⟩), .string s, .slice (some ⟨b, o, none⟩) T.length c0, .int .i64 (i : Int), .pointer (some ⟨b, o + i * 2, none⟩), .pointer (some ⟨b, o + i * 2 + 1, none⟩), .int .u32 0, .string s, .int .i64 (s.size : Int), .bool false, .int .i64 (L.length : Int), .slice (some ⟨g, 0, none⟩) L.length c, .int .i64 (L.length : Int), .bool false, u40, u41, u42, u43, u44, u45, u46, u47, u48, u49, .int .u32 0, .bool true, .string s, .bool true, .int .i64 (a : Int), .bool true, .bool false, .int .i64 (a : Int), .bool true, y 59, y 60, y 61, y 62, y 63, y 64, y 65, y 66, y 67, y 68, u69, u70, u71, u72, u73, u74, u75, u76, u77, u78, u79, u80, u81, u82, u83, u84, u85, u86, u87, u88, u89, u90, u91, u92, u93, u94, u95, u96, u97, u98, u99, u100, u101, u102, u103, u104, u105, u106, u107, u108, u109, u110, u111, u112, u113, u114, u115, u116, u117, u118], defers := [] } := ea
            have O9 := hI.s9 rfl
            have x9 : y 68 = x 9 := (hy 68).symm.trans (hx 9 (by omega))
            obtain ⟨M, hM⟩ : ∃ M, L.take a ++ L.drop (a + 1) = M := ⟨_, rfl⟩
            have hml : M.length = a + (L.length - (a + 1)) := by rw [← hM, List.length_append, List.length_take, List.length_drop]; omega
            rw [← x9, hM, ← hml] at O9
            rw [hM] at P2 S2
            have K7 := Lib.hid (K6.out.new hI.low O9)
            obtain ⟨A7, c7, hv7, _, _⟩ := own_turns O9 S2.out
            clear hk hx hI O9 x9 hM hml OWN CLE K6
            rw [hv7] at K7 ea
            subst ea
            simp only [List.drop_succ_cons, List.drop_zero]
            have CH := Lib.hid (sHolds HS.out Y A7 c7 M w' P2.out (own_turns1 K7.out.own S2.out))
            go_wp2_with (first
              | (refine load_blk rfl (.tmp 3) rfl bb 0 rfl Y K7.out.blk.at ?_)
              | (go_at_call 22; with_reducible refine (CH.out).mono ?_; rintro e wz ⟨rfl, hb⟩))
            have Kz := Lib.hid (K7.out.below hb)
            clear hb CH
            go_roundw
            case rel => exact ⟨i + 1, Y, M, (.slice A7 M.length c7), by omega, rfl, by congr 1, P2, S2, Kz⟩
            case measure => simp [intOf]; omega
      have n1 : (((n : Nat) : Int) == 0) = false := by rw [beq_eq_false_iff_ne]; omega
      obtain ⟨may, hmay⟩ : ∃ may, decide (MayN s) = may := ⟨_, rfl⟩
      have CM := Lib.hid fun W => HS.out.may s W
      rw [hmay] at CM
      rcases may with _ | _
      · have ha := add_arg (s := s) (ino := n) P.out.right (.inl (of_decide_eq_false hmay))
        have CX : Hid (∀ W, BVar W bb X → Calls Try.prog 17 #[.pointer (some ⟨bb, 0, none⟩), .string s, .int .u32 (n : Int)] W fun e' w' => e' = .returned (.int .i64 2) ∧ BVar w' bb X ∧ Only bb W w') := Lib.hid fun W h => by have := HS.out.add bb X s n W h N32.out; rwa [ha] at this
        clear hmay ha H n0
        go_upto_region 30 with (first
          | (go_at_call 17; with_reducible refine (CX.out _ K4.out.blk).mono ?_; rintro e w6 ⟨rfl, hv, ho⟩; have K6 := Lib.hid (K4.out.set ho hv); clear hv ho)
          | (go_at_call 15; with_reducible refine (CM.out _).mono ?_; rintro e w7 ⟨rfl, rfl⟩))
        have CH := Lib.hid (sHolds HS.out X A c L w7 P.out (own_turns1 K6.out.own S.out))
        go_wp2_with (first
          | (refine load_blk rfl (.tmp 3) rfl bb 0 rfl X K6.out.blk.at ?_)
          | (go_at_call 22; with_reducible refine (CH.out).mono ?_; rintro e wz ⟨rfl, hb⟩))
        have Kz := Lib.hid (K6.out.below hb)
        clear hb CH
        go_roundw
        case rel => exact ⟨i + 1, X, L, (.slice A L.length c), by omega, rfl, by congr 1, P, S, Kz⟩
        case measure => simp [intOf]; omega
      have hm := of_decide_eq_true hmay
      rcases H.out with ⟨rfl, hno⟩ | ⟨a, hal, _, rfl, hname⟩
      rotate_left
      · obtain ⟨j, hwj, _⟩ := P.out.mem a hal
        rw [hname] at hwj
        have ha := add_arg (s := s) (ino := n) P.out.right (.inr (.inr (by rw [hwj]; rfl)))
        have a1 : decide ((a : Int) < 0) = false := by simp
        have a2 : (0 : Int) ≤ (a : Int) := by omega
        have CX : Hid (∀ W, BVar W bb X → Calls Try.prog 17 #[.pointer (some ⟨bb, 0, none⟩), .string s, .int .u32 (n : Int)] W fun e' w' => e' = .returned (.int .i64 2) ∧ BVar w' bb X ∧ Only bb W w') := Lib.hid fun W h => by have := HS.out.add bb X s n W h N32.out; rwa [ha] at this
        clear hmay ha H n0 hwj hname hm
        go_upto_region 30 with (first
          | (go_at_call 17; with_reducible refine (CX.out _ K4.out.blk).mono ?_; rintro e w6 ⟨rfl, hv, ho⟩; have K6 := Lib.hid (K4.out.set ho hv); clear hv ho)
          | (go_at_call 15; with_reducible refine (CM.out _).mono ?_; rintro e w7 ⟨rfl, rfl⟩))
        have CH := Lib.hid (sHolds HS.out X A c L w7 P.out (own_turns1 K6.out.own S.out))
        go_wp2_with (first
          | (refine load_blk rfl (.tmp 3) rfl bb 0 rfl X K6.out.blk.at ?_)
          | (go_at_call 22; with_reducible refine (CH.out).mono ?_; rintro e wz ⟨rfl, hb⟩))
        have Kz := Lib.hid (K6.out.below hb)
        clear hb CH
        go_roundw
        case rel => exact ⟨i + 1, X, L, (.slice A L.length c), by omega, rfl, by congr 1, P, S, Kz⟩
        case measure => simp [intOf]; omega
      have hw := P.out.nowhere (s := s) (fun j h => hno j h (by omega))
      have NB : ¬ (¬ MayN s ∨ n = 0 ∨ (whereN X s).isSome = true) := by
        rw [hw]
        rintro (q | q | q)
        · exact q hm
        · exact n0 q
        · cases q
      by_cases h8 : L.length = 8
      · have ha := add_full (s := s) (ino := n) P.out.right NB (P.out.full h8)
        have d1 : decide ((L.length : Int) < 8) = false := by simp; omega
        have d2 : ((L.length : Int) == 8) = true := by rw [beq_iff_eq]; omega
        have d3 : ¬ (L.length : Int) < 8 := by omega
        have CX : Hid (∀ W, BVar W bb X → Calls Try.prog 17 #[.pointer (some ⟨bb, 0, none⟩), .string s, .int .u32 (n : Int)] W fun e' w' => e' = .returned (.int .i64 4) ∧ BVar w' bb X ∧ Only bb W w') := Lib.hid fun W h => by have := HS.out.add bb X s n W h N32.out; rwa [ha] at this
        clear hmay ha H n0 hw hm NB hno h8
        go_upto_region 30 with (first
          | (go_at_call 17; with_reducible refine (CX.out _ K4.out.blk).mono ?_; rintro e w6 ⟨rfl, hv, ho⟩; have K6 := Lib.hid (K4.out.set ho hv); clear hv ho)
          | (go_at_call 15; with_reducible refine (CM.out _).mono ?_; rintro e w7 ⟨rfl, rfl⟩))
        have CH := Lib.hid (sHolds HS.out X A c L w7 P.out (own_turns1 K6.out.own S.out))
        go_wp2_with (first
          | (refine load_blk rfl (.tmp 3) rfl bb 0 rfl X K6.out.blk.at ?_)
          | (go_at_call 22; with_reducible refine (CH.out).mono ?_; rintro e wz ⟨rfl, hb⟩))
        have Kz := Lib.hid (K6.out.below hb)
        clear hb CH
        go_roundw
        case rel => exact ⟨i + 1, X, L, (.slice A L.length c), by omega, rfl, by congr 1, P, S, Kz⟩
        case measure => simp [intOf]; omega
      have l7 : L.length < 8 := by omega
      obtain ⟨j, hj⟩ := P.out.free l7
      obtain ⟨Y, hY⟩ : ∃ Y, setS X j ⟨n, s⟩ = Y := ⟨_, rfl⟩
      have ha := add_yes (s := s) (ino := n) P.out.right NB hj
      rw [hY] at ha
      have P2 : Hid (PL Y (L ++ [(s, n)])) := Lib.hid (by rw [← hY]; exact P.out.add hm n0 N32.out (fun k h => hno k h (by omega)) hj)
      have S2 := Lib.hid (small_add S.out (s := s) N32.out)
      have d1 : decide ((L.length : Int) < 8) = true := by simp; omega
      have d2 : ((L.length : Int) == 8) = false := by rw [beq_eq_false_iff_ne]; omega
      have d3 : (L.length : Int) < 8 := by omega
      have CX : Hid (∀ W, BVar W bb X → Calls Try.prog 17 #[.pointer (some ⟨bb, 0, none⟩), .string s, .int .u32 (n : Int)] W fun e' w' => e' = .returned (.int .i64 0) ∧ BVar w' bb Y ∧ Only bb W w') := Lib.hid fun W h => by have := HS.out.add bb X s n W h N32.out; rwa [ha] at this
      clear hmay ha H n0 hw hm NB hno h8 hj hY
      go_upto_region 30 with (first
        | (go_at_call 17; with_reducible refine (CX.out _ K4.out.blk).mono ?_; rintro e w6 ⟨rfl, hv, ho⟩; have K6 := Lib.hid (K4.out.set ho hv); clear hv ho)
        | (go_at_call 15; with_reducible refine (CM.out _).mono ?_; rintro e w7 ⟨rfl, rfl⟩)
        | (refine build_oneE rfl (.tmp 112) rfl s (n : Int) rfl ?_)
        | (at_builtin; refine wpList_append_lies _ rfl (.tmp 109) (.tmp 113) 48 rfl (bb + 1) 52 i0 _ 2 24 Try.underlying48 HI0.out HZ0.out HZ1.out HZ2.out (by rfl) (by omega) _ L.length (eC L) (by rfl) (K6.out.below (below_new _ _)).own ⟨w7.heap.size, 0, none⟩ 1 1 (ecs (s, n)) (by rfl) (by rfl) (World.news_of_block (heap_alloc_new w7 _)) (by simp [ecs, Value.oneCell']) (by omega) (by simp only [maxLen]; omega) (by omega) (by have := K6.out.blk.lt; simp; omega) (w7.heap.size + 1) (by simp) ?_; intro gg cap w8 hown hgrow hat hlt2; clear hat hlt2))
      have K8 : Hid (SP w bb Y (.slice (some ⟨gg, 0, none⟩) (L.length + 1) cap) (L ++ [(s, n)]) w8) := Lib.hid (K6.out.app _ (by rw [List.length_append, eC_append]; exact hown) hgrow)
      clear hown hgrow K6
      obtain ⟨M, hM⟩ : ∃ M, L ++ [(s, n)] = M := ⟨_, rfl⟩
      have hml : L.length + 1 = M.length := by rw [← hM]; simp
      rw [hM] at P2 S2 K8
      rw [hml] at K8 ⊢
      clear hM hml
      have CH := Lib.hid (sHolds HS.out Y (some ⟨gg, 0, none⟩) cap M w8 P2.out (own_turns1 K8.out.own S2.out))
      go_wp2_with (first
        | (refine load_blk rfl (.tmp 3) rfl bb 0 rfl Y K8.out.blk.at ?_)
        | (go_at_call 22; with_reducible refine (CH.out).mono ?_; rintro e wz ⟨rfl, hb⟩))
      have Kz := Lib.hid (K8.out.below hb)
      clear hb CH
      go_roundw
      case rel => exact ⟨i + 1, Y, M, (.slice (some ⟨gg, 0, none⟩) M.length cap), by omega, rfl, by congr 1, P2, S2, Kz⟩
      case measure => simp [intOf]; omega
end Go.Proofs.Ytinpdomcfijnmaa
