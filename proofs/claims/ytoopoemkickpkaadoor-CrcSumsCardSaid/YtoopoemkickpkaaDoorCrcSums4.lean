import Derived.Test.YtoopoemkickpkaaDoorCrcSums3
namespace Go.Proofs.YtoopoemkickpkaaDoor
open Go.RowKit CrcM

theorem at_append_fresh {P : Program} (w : World) {ops : Array Oper} {rest : List Oper} {o : Oper} {a : Act} {Q : Exit → Act → World → Prop} (hgd : o.guard = none) (s x : Operand) (t : TypeId)
    (ho : o.op = .call { callee := .builtin .append, args := #[s, x], argTypes := #[t, t] })
    (e : TypeId) (i : TypeInfo) (ht : P.underlying t = some (.slice e)) (hi : P.info? e = some i) (hz : i.zero = some (.int .u8 0)) (hsize : i.size = 1) (hby : i.bytes = 1)
    (hs : a.eval s = .slice (some ⟨w.heap.size, 0, none⟩) 0 0) (A : Option Addr) (n c : Nat) (f : Nat → Nat) (hx : a.eval x = .slice A n c) (hR : Row w A n f) (hlen : n ≤ 1000000)
    (h : ∀ A' c' w', n ≤ c' → Own w' w.heap.size A' n f → Below w.heap.size w w' → wpList P ops Q rest (a.put o.dst (.slice A' n c')) w') :
    wpList P ops Q (o :: rest) a (w.alloc (.cells #[] e)) := by
  refine at_append_row _ hgd s x t ho w.heap.size e i ht hi hz hsize hby _ 0 [] hs (World.ownsRow_made w #[] 0 (Nat.le_refl _) (Nat.zero_le _) rfl) A n c f hx (hR.below ((Below.refl _ _).alloc (Nat.le_refl _) _)) (by omega) (by simp) fun v' w' h1 h2 _ => ?_
  rw [Nat.zero_add, List.nil_append] at h1
  obtain ⟨A', c', rfl, h3, _, h5⟩ := own_of_row hR.1 h1
  refine h A' c' w' h3 h5 (((Below.refl _ _).alloc (Nat.le_refl _) _).grown h2 (by simp) fun k hk => ?_)
  simp only [Value.ownBlock, Option.some.injEq] at hk
  omega
theorem below_drewN (w : World) (d : Nat) : Below w.heap.size w (w.drewN d) := ⟨rfl, rfl, rfl, Nat.le_refl _, fun _ _ => rfl⟩
theorem bytes_info : (Tryd.prog.info? 24).map (fun i => (i.zero, i.size, i.bytes)) = some (some (.slice none 0 0), 1, 24) := by kernel_rfl

set_option maxRecDepth 100000 in
set_option maxHeartbeats 2000000 in
theorem crcSums_any (hS : SumSays) (A : Option Addr) (c : Nat) (ps : Pieces) (w : World) (hE : Env w) (hL : Lst w A ps) :
    Calls Tryd.prog 3 #[.slice A ps.length c] w fun e w' => e = .returned (.bool true) ∧ Below w.heap.size w w' := by
  have HE := Lib.hid hE
  clear hE
  have HS := Lib.hid hS
  have H := Lib.hid hL
  have G := Lib.hid (great_any A c ps w hL)
  clear hS hL
  by_cases hg : (decide (100 < ps.length) || gr 20000 ps) = true
  · rw [hg] at G
    clear hg
    go_enter Tryd.func3, Tryd.ntmps3
    go_wp2_with fail
    refine G.out.mono ?_
    rintro e1 w1 ⟨rfl, d, rfl⟩
    go_wp2_with fail
    go_ret
    exact ⟨rfl, below_drewN w d⟩
  obtain ⟨hg1, hg2⟩ : ps.length ≤ 100 ∧ gr 20000 ps = false := by
    simp only [Bool.or_eq_true, decide_eq_true_eq, not_or, Bool.not_eq_true] at hg
    exact ⟨by omega, hg.2⟩
  rw [Bool.eq_false_iff.2 hg] at G
  have T := Lib.hid (gr_no hg2)
  clear hg hg2
  obtain ⟨m, hm⟩ : ∃ m, ps.length = m := ⟨_, rfl⟩
  have M := Lib.hid hm
  rw [hm] at G hg1 ⊢
  clear hm
  obtain ⟨i0, hi0, hz0, hz1, hz2⟩ := info_parts u8_info8
  obtain ⟨j0, hj0, hy0, hy1, hy2⟩ := info_parts bytes_info
  go_enter Tryd.func3, Tryd.ntmps3
  go_wp2_with fail
  refine G.out.mono ?_
  rintro e1 w1 ⟨rfl, d, rfl⟩
  have B1 : Hid (Below w.heap.size w (w.drewN d)) := Lib.hid (below_drewN w d)
  generalize w.drewN d = w1 at B1 ⊢
  clear G
  go_wp2_with fail
  go_loopw [3, 4] (fun v i wr => ∃ (k : Nat) (vs : List Value), k ≤ m ∧ i = .int .i64 k ∧ Hid (wr.ownsRow w.heap.size 24 1 v k vs) ∧ Hid (Mine wr v ps k vs) ∧ Hid (Below w.heap.size w wr)) (fun _ i _ => m - (intOf i).toNat)
  case atStart => exact ⟨0, [], Nat.zero_le _, rfl, Lib.hid (World.ownsRow_nil _ _ _ _), Lib.hid (fun j hj => absurd hj (by omega)), B1⟩
  case round =>
    obtain ⟨k, vs, hk, rfl, HO, HM, HB⟩ := hrel
    by_cases hlt : k < m
    · obtain ⟨p, hp⟩ : ∃ p, ps[k]? = some p := ⟨_, List.getElem?_eq_getElem (by have := M.out; omega)⟩
      have hp1 : p.1 ≤ 20000 := Nat.le_trans (tot_each (List.mem_of_getElem? hp)) T.out
      obtain ⟨b, o, rfl, lb, hc⟩ := H.out (by have := M.out; omega)
      obtain ⟨Ai, ci, ck, hr⟩ := hc k p hp
      have ck2 := (HB.out.cell (p := ⟨b, o + k, none⟩) lb).trans ck
      have ck3 := ((HB.out.alloc HB.out.size (.cells #[] 5)).cell (p := ⟨b, o + k, none⟩) lb).trans ck
      have HR := Lib.hid (hr.below HB.out)
      have HP := Lib.hid hp
      have l1 : (0 : Int) ≤ k := by omega
      have l2 : (k : Int) < m := by omega
      clear hc hp ck hr lb
      go_wp2_with (at_builtin; first
        | (refine at_append_fresh _ rfl (.tmp 15) (.tmp 19) _ rfl 5 i0 Tryd.underlying24 hi0 hz0 hz1 hz2 rfl Ai p.1 ci p.2 rfl HR.out (by omega) ?_; intro A' c' w2 h1 h2 h3; have HO2 := Lib.hid h2; have HB2 := Lib.hid h3; have HV := Lib.hid (HO.out.kept (row := none) (below_grown h3 none) (by cases hv : u3.ownBlock <;> simp)); clear h1 h2 h3)
        | (refine wpList_append_lies _ rfl (.tmp 14) (.tmp 21) _ rfl w.heap.size 24 j0 _ 1 24 Tryd.underlying22 hj0 hy0 hy1 hy2 rfl (by omega) u3 k vs rfl (HV.out.alloc _) ⟨w2.heap.size, 0, none⟩ 1 1 [.slice A' p.1 c'] rfl rfl (World.news_of_block (cs := #[.slice A' p.1 c']) (t := 24) (fr := (0, 0)) (heap_alloc_new w2 _)) (by simp [Value.oneCell']) (by omega) (by simp only [maxLen]; omega) (by omega) (by have := HB2.out.size; have := HB.out.size; simp; omega) (w2.heap.size + 1) (by simp) ?_; intro gg cap w3 hown hgrow hat hlt2))
      have hlen := HO.out.1
      have HB3 := Lib.hid ((HB.out.trans (HB2.out.mono HB.out.size)).alloc (Nat.le_trans HB.out.size HB2.out.size) (.cells #[.slice A' p.1 c'] 24))
      have HB4 := Lib.hid (HB3.out.grown hgrow HB3.out.size (own_at HO.out))
      have HM2 := Lib.hid (Mine.step (v3 := .slice (some ⟨gg, 0, none⟩) (k + 1) cap) (c' := c') HM.out (by simpa using hlen) (fun b hb => (HO.out.lt b hb).2) HP.out HB2.out HO2.out hgrow (by
        rcases hat with q | q
        · exact .inl q.symm
        · exact .inr (by rw [← q]; rfl)))
      have HO3 := Lib.hid hown
      clear hown hgrow hat hlt2 hlen
      go_roundw
      case rel => exact ⟨k + 1, _, by omega, by go_num, HO3, HM2, HB4⟩
      case measure => simp [intOf]; omega
    · have hkm : k = m := by omega
      subst hkm
      obtain ⟨V, cv, rfl, _⟩ := own_list HO.out
      have HL := Lib.hid (mine_lst HO.out M.out.symm HM.out)
      have HP := Lib.hid (HL.out.pcs (HE.out.below HB.out) fun p hp => by have := tot_each hp; have := T.out; omega)
      clear HO HM
      go_wp2_with fail
      refine (HS.out _ _ _ ps _ M.out.symm hg1 HP.out).mono ?_
      rintro e2 w4 ⟨rfl, hb⟩
      have HL4 := Lib.hid (HL.out.below hb)
      have B4 := Lib.hid (HB.out.trans (hb.mono HB.out.size))
      have L4 := Lib.hid (H.out.below B4.out)
      clear hb HP HL
      go_wp2_with fail
      have HAll := All_any A c ps w4 L4.out (by have := M.out; omega) T.out
      rw [M.out] at HAll
      refine HAll.mono ?_
      rintro e3 w5 ⟨A5, c5, rfl, hc5, hr5, hb⟩
      have HL5 := Lib.hid (HL4.out.below hb)
      have R5 := Lib.hid hr5
      have B5 := Lib.hid (B4.out.trans (hb.mono B4.out.size))
      have L5 := Lib.hid (H.out.below B5.out)
      clear hb hr5 HAll HL4 L4 hc5
      go_wp2_with fail
      refine (rSum_any _ _ _ _ _ (by have := T.out; omega) R5.out).mono ?_
      rintro e4 w6 ⟨rfl, rfl⟩
      rw [sum_cat]
      go_wp2_with fail
      go_loopw [5] (fun i wr => ∃ k2 : Nat, k2 ≤ k ∧ i = .int .i64 k2 ∧ ∃ d, wr = w5.drewN d) (fun i _ => k - (intOf i).toNat)
      case atStart => exact ⟨0, Nat.zero_le _, rfl, 0, rfl⟩
      case round =>
        obtain ⟨j, hj, rfl, dd, rfl⟩ := hrel
        by_cases hlt2 : j < k
        · obtain ⟨p, hp⟩ : ∃ p, ps[j]? = some p := ⟨_, List.getElem?_eq_getElem (by have := M.out; omega)⟩
          have hp1 : p.1 ≤ 20000 := Nat.le_trans (tot_each (List.mem_of_getElem? hp)) T.out
          obtain ⟨b, o, eL, lb, hc⟩ := L5.out (by have := M.out; omega)
          obtain ⟨Ai, ci, ck, hr⟩ := hc j p hp
          obtain ⟨b', o', eV, lb', hc'⟩ := HL5.out (by have := M.out; omega)
          obtain ⟨Aj, cj, ck', hr'⟩ := hc' j p hp
          subst eL eV
          have l1 : (0 : Int) ≤ j := by omega
          have l2 : (j : Int) < k := by omega
          have W7 : Hid (∃ d, w5.drewN dd = w5.drewN d) := Lib.hid ⟨dd, rfl⟩
          have ck1 : (w5.drewN dd).cell? ⟨b, o + j, none⟩ = some (.slice Ai p.1 ci) := ck
          have ck2 : (w5.drewN dd).cell? ⟨b', o' + j, none⟩ = some (.slice Aj p.1 cj) := ck'
          have Q1 : Hid (∀ d, Calls Tryd.prog 14 #[.slice Aj p.1 cj, .slice Ai p.1 ci] ((w5.drewN dd).drewN d) fun e w' => e = .returned (.bool true) ∧ ∃ d, w' = (w5.drewN dd).drewN d) := Lib.hid (fun d => same_all_at Aj Ai p.1 cj ci p.2 p.2 (w5.drewN dd) d (by omega) hr' hr (fun _ _ => rfl))
          clear hc hc' hr hr' hp ck ck'
          generalize w5.drewN dd = w7 at W7 ck1 ck2 Q1 ⊢
          go_wp2_with fail
          go_quiet ((go_at_call 14; with_reducible exact Q1.out _))
          go_wp2
          go_roundw
          case rel =>
            obtain ⟨d7, e7⟩ := W7.out
            exact ⟨j + 1, by omega, by go_num, _, by rw [e7, World.drewN_drewN]⟩
          case measure => simp [intOf]; omega
        · go_wp2
          go_ret
          exact ⟨rfl, B5.out.trans ⟨rfl, rfl, rfl, Nat.le_refl _, fun _ _ => rfl⟩⟩

end Go.Proofs.YtoopoemkickpkaaDoor
