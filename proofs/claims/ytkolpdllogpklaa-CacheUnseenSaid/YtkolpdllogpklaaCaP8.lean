import Derived.Test.YtkolpdllogpklaaCaP7
namespace Go.Proofs.Ytkolpdllogpklaa
open Go.RowKit Go.Maps

/-! The landed cache: Sync, Disk. -/
section
variable (w : World) (cb bm pm : Nat) (c : CS) (av : Av)
theorem backs_step {c : CS} {l : List Int} {k : Nat} {b : Int} (hb : l[k]? = some b) (he : c.backE b = 0) : c.backs (l.drop k) = (c.back b).backs (l.drop (k + 1)) := by
  obtain ⟨hk, rfl⟩ := List.getElem?_eq_some_iff.1 hb
  rw [List.drop_eq_getElem_cons hk, CS.backs, if_pos he]
theorem backs_stop {c : CS} {l : List Int} {k : Nat} {b : Int} (hb : l[k]? = some b) (he : c.backE b ≠ 0) : c.backs (l.drop k) = (c.back b, c.backE b) := by
  obtain ⟨hk, rfl⟩ := List.getElem?_eq_some_iff.1 hb
  rw [List.drop_eq_getElem_cons hk, CS.backs, if_neg he]
set_option maxRecDepth 100000 in
set_option maxHeartbeats 2000000 in
theorem cSync (h : CAt w cb bm pm c av) (ha : c.d.acts < 990000) : Calls Try.prog 20 #[.pointer (some ⟨cb, 0, none⟩)] w fun e w' => e = .returned (.int .i64 c.sync.2) ∧ CaW w cb bm pm c.sync.1 av w' := by
  have M := Lib.hid (cMade w cb bm pm c av h)
  have DD := Lib.hid (cDirty w cb bm pm c av h)
  have LN := Lib.hid (dirty_le w cb bm pm c av h)
  have H0 := Lib.hid h
  have BD := Lib.hid h.bound
  have HA := Lib.hid ha
  have ES : Hid (c.sync = if (c.backs c.dirty).2 = 0 then ({ (c.backs c.dirty).1 with d := (c.backs c.dirty).1.d.flush }, (c.backs c.dirty).1.d.err 0) else c.backs c.dirty) := Lib.hid rfl
  clear h ha
  generalize c.dirty = l at DD LN ES
  go_enter Try.func20, Try.ntmps20
  go_wp2_with (first
    | (go_at_call 34; refine M.out.mono ?_; rintro e w1 ⟨rfl, hw1⟩; obtain rfl := hw1.symm; clear M)
    | (go_at_call 15; refine DD.out.mono ?_; rintro e w2 ⟨⟨v, rfl, ho⟩, hb⟩; obtain ⟨A, cp, rfl, hcp, hA⟩ := own_ints ho rfl; clear DD))
  obtain ⟨av2, hav⟩ : ∃ av2 : Av, ∀ i, av2 i ↔ (av i ∨ (w.heap.size ≤ i ∧ i < w2.heap.size)) := ⟨_, fun _ => Iff.rfl⟩
  have W2 : Hid (CAt w2 cb bm pm c av2) := Lib.hid (H0.out.frame hb.size (fun i hi _ => hb.block i hi) fun i h => (hav i).1 h)
  have K2 : Hid (Keep av w w2) := Lib.hid ((Keep.of_below hb).mono BD.out)
  have A2 := Lib.hid hA
  have OA : Hid (∀ b o, A = some ⟨b, o, none⟩ → av2 b) := Lib.hid fun b o e => (hav b).2 (.inr (ho.lt b (by subst e; rfl)))
  have SUB : Hid (∀ i, av i → av2 i) := Lib.hid fun i hi => (hav i).2 (.inl hi)
  clear ho hb hA H0 hcp hav
  go_loopw [12] (fun i wr => ∃ (k : Nat) (ck : CS), k ≤ l.length ∧ i = .int .i64 k ∧ Hid (c.backs l = ck.backs (l.drop k)) ∧ Hid (CAt wr cb bm pm ck av2) ∧ Hid (Keep av w wr) ∧ Hid (IntsAt wr A l) ∧ Hid (ck.d.acts ≤ c.d.acts + k)) (fun i _ => l.length - (intOf i).toNat)
  case atStart => exact ⟨0, c, Nat.zero_le _, rfl, Lib.hid rfl, W2, K2, A2, Lib.hid (Nat.le_refl _)⟩
  case round =>
    clear W2 K2 A2
    obtain ⟨k, ck, hk, rfl, EB, WK, KK, AK, AC⟩ := hrel
    by_cases hlt : k < l.length
    · obtain ⟨g, o, hAe, hgl, hcell⟩ := AK.out (by omega)
      subst hAe
      obtain ⟨b, hb⟩ : ∃ b, l[k]? = some b := ⟨_, List.getElem?_eq_getElem hlt⟩
      have c1 := hcell k b hb
      have j1 : (0 : Int) ≤ k := by omega
      have j2 : (k : Int) < l.length := by omega
      have j3 : (l.length : Int) ≤ 2048 := by have := LN.out; omega
      have BK := Lib.hid (cBack wr cb bm pm ck av2 b WK.out (by have := AC.out; have := HA.out; have := LN.out; omega))
      have BA := Lib.hid (ck.back_acts b)
      clear hcell hgl
      by_cases he : ck.backE b = 0
      · have E2 : Hid (c.backs l = (ck.back b).backs (l.drop (k + 1))) := Lib.hid (EB.out.trans (backs_step hb he))
        rw [he] at BK
        clear he hb EB
        go_wp2_with (go_at_call 18; refine BK.out.mono ?_; rintro e w3 ⟨rfl, hc3⟩)
        go_roundw
        case rel => exact ⟨k + 1, ck.back b, by omega, by go_num, E2, Lib.hid hc3.1, Lib.hid (KK.out.trans (hc3.2.mono SUB.out)), Lib.hid (ints_keep AK.out hc3.2 OA.out), Lib.hid (by have := BA.out; have := AC.out; omega)⟩
        case measure => simp [intOf]; omega
      · have E2 : Hid (c.backs l = (ck.back b, ck.backE b)) := Lib.hid (EB.out.trans (backs_stop hb he))
        have E3 : Hid (c.sync = (ck.back b, ck.backE b)) := Lib.hid (by rw [ES.out, E2.out, if_neg he])
        obtain ⟨q, hq⟩ : ∃ q, ck.backE b = q := ⟨_, rfl⟩
        rw [hq] at BK he
        have t0 : (q != 0) = true := by rw [bne_iff_ne]; exact he
        have t1 : (q == 0) = false := by rw [beq_eq_false_iff_ne]; exact he
        have HQ := Lib.hid hq
        clear he hb EB hq E2 ES
        go_wp2_with (go_at_call 18; refine BK.out.mono ?_; rintro e w3 ⟨rfl, hc3⟩)
        refine bodyPost_ret (results_tmp Try.results20 _ _ _) rfl ⟨by rw [E3.out, HQ.out]; rfl, ?_⟩
        rw [E3.out]
        exact ⟨hc3.1.mono SUB.out, KK.out.trans (hc3.2.mono SUB.out)⟩
    · obtain rfl : k = l.length := by omega
      have E2 : Hid (c.backs l = (ck, 0)) := Lib.hid (by rw [EB.out, List.drop_length]; rfl)
      have E3 : Hid (c.sync = ({ ck with d := ck.d.flush }, ck.d.err 0)) := Lib.hid (by rw [ES.out, E2.out]; rfl)
      have c0 := WK.out.c0
      have FL := Lib.hid (dk_flush ck.a ck.d _ wr WK.out.disk (by have := AC.out; have := HA.out; have := LN.out; omega))
      clear EB E2 ES
      go_wp2_with (go_at_call 41; refine FL.out.mono ?_; rintro e w3 ⟨rfl, hd3, hk3⟩)
      refine bodyPost_ret (results_tmp Try.results20 _ _ _) rfl ⟨by rw [E3.out]; rfl, by rw [E3.out]; exact (WK.out.redisk (flush_len _) hd3 hk3).mono SUB.out, KK.out.trans (hk3.mono fun i hi => .inl (SUB.out i hi))⟩
theorem cDisk (h : CAt w cb bm pm c av) : Calls Try.prog 14 #[.pointer (some ⟨cb, 0, none⟩)] w fun e w' => e = .returned (.pointer (some c.a)) ∧ w' = w := by
  have M := Lib.hid (cMade w cb bm pm c av h)
  have c0 := h.c0
  clear h
  generalize c.a = a at c0 ⊢
  go_enter Try.func14, Try.ntmps14
  go_wp2_with (go_at_call 34; refine M.out.mono ?_; rintro e w1 ⟨rfl, hw1⟩; obtain rfl := hw1.symm; clear M)
  go_ret
  exact ⟨rfl, rfl⟩
end
end Go.Proofs.Ytkolpdllogpklaa
