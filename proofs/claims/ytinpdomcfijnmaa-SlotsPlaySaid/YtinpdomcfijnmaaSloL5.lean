import Derived.Test.YtinpdomcfijnmaaSloG
namespace Go.Proofs.Ytinpdomcfijnmaa
open Go.RowKit

/-! SlotsGone. -/
set_option maxHeartbeats 1000000 in
theorem sFnd (hS : SlotsSays) (X : Blk) (s : ByteArray) (w : World) : Calls Try.prog 23 #[.agg (arr X), .string s] w fun e w' => e = .returned (.bool (decide (0 ≤ (findD X s).1))) ∧ Below w.heap.size w w' := by
  have V := Lib.hid (show BVar (w.alloc (.cells (arr X) 23)) w.heap.size X from heap_alloc_new w _)
  have B := Lib.hid (below_new w (.cells (arr X) 23))
  have CF := Lib.hid fun W => hS.find X s W
  generalize (findD X s).1 = fi at CF ⊢
  go_enter Try.func23, Try.ntmps23
  go_upto_region 1 with fail
  generalize w.alloc (.cells (arr X) 23) = w1 at V B ⊢
  go_wp2_with (first
    | (refine load_blk rfl (.tmp 2) rfl w.heap.size 0 rfl X V.out.at ?_)
    | (go_at_call 13; with_reducible refine (CF.out _).mono ?_; rintro e w2 ⟨rfl, hb⟩))
  go_ret
  exact ⟨rfl, low_go B.out hb⟩
theorem find_has {X : Blk} {s : ByteArray} (hr : Right X) : (0 ≤ (findD X s).1) ↔ (whereN X s).isSome = true := by
  unfold findD
  rw [if_pos hr]
  rcases whereN X s with _ | i
  · simp
  · simp
/-- What SlotsGone keeps in memory. -/
structure GO (w0 : World) (X : Blk) (g b : Nat) (Y : Blk) (w : World) : Prop where
  l : GR w g (slotS X)
  c : BVar w b Y
  ne : g ≠ b
  at_ : w0.heap.size ≤ b
  low : Below w0.heap.size w0 w
section
variable {w0 w w' : World} {X Y V : Blk} {g b : Nat}
theorem GO.below (h : GO w0 X g b Y w) (hb : Below w.heap.size w w') : GO w0 X g b Y w' := ⟨h.l.below hb, h.c.below hb, h.ne, h.at_, low_go h.low hb⟩
theorem GO.set (h : GO w0 X g b Y w) (ho : Only b w w') (hv : BVar w' b V) : GO w0 X g b V w' := ⟨h.l.only ho h.ne, hv, h.ne, h.at_, low_only h.low ho h.at_⟩
end
set_option maxRecDepth 100000 in
set_option maxHeartbeats 4000000 in
theorem sGone (hS : SlotsSays) (X : Blk) (s t : ByteArray) (ino : Nat) (w : World) (hi : ino < 4294967296) : Calls Try.prog 8 #[.agg (arr X), .string s, .string t, .int .u32 (ino : Int)] w fun e w' => e = .returned (.bool true) ∧ Below w.heap.size w w' := by
  have hz := fun W => zero_blk W
  have V := Lib.hid (show BVar (w.alloc (.cells (arr X) 23)) w.heap.size X from heap_alloc_new w _)
  have B := Lib.hid (below_new w (.cells (arr X) 23))
  have CA := Lib.hid fun W => sAwake hS W
  have CL := Lib.hid fun W => hS.list X W
  have CF := Lib.hid fun W => hS.find X s W
  have CM := Lib.hid fun W => hS.may t W
  have CT := Lib.hid fun W => sFnd hS X t W
  have HS := Lib.hid hS
  have HI := Lib.hid hi
  clear hS hi
  by_cases hr : Right X
  rotate_left
  · have HR := Lib.hid hr
    rw [find_not hr] at CF
    clear hr
    go_enter Try.func8, Try.ntmps8
    go_upto_region 1 with fail
    generalize w.alloc (.cells (arr X) 23) = w1 at V B ⊢
    go_wp2_with (first
      | (go_at_call 21; with_reducible refine (CA.out _).mono ?_; rintro e w2 ⟨rfl, hb⟩; have V2 := Lib.hid (V.out.below hb))
      | (refine load_blk rfl (.tmp 4) rfl w.heap.size 0 rfl X V2.out.at ?_)
      | (go_at_call 11; with_reducible refine (CL.out _).mono ?_; rintro e w3 ⟨hl, hc⟩; obtain rfl : e = .returned (.tuple #[.slice none 0 0, .int .i64 80]) := hl.no HR.out; have V3 := Lib.hid (V2.out.below hc))
      | (refine load_blk rfl (.tmp 4) rfl w.heap.size 0 rfl X V3.out.at ?_)
      | (go_at_call 13; with_reducible refine (CF.out _).mono ?_; rintro e w4 ⟨rfl, hd⟩))
    go_ret
    exact ⟨rfl, low_go (low_go (low_go B.out hb) hc) hd⟩
  have HR := Lib.hid hr
  obtain ⟨fi, hfi⟩ : ∃ fi, (findD X s).1 = fi := ⟨_, rfl⟩
  obtain ⟨fo, hfo⟩ : ∃ fo, (findD X s).2 = fo := ⟨_, rfl⟩
  rw [hfi, hfo] at CF
  go_enter Try.func8, Try.ntmps8
  go_upto_region 1 with fail
  generalize w.alloc (.cells (arr X) 23) = w1 at V B ⊢
  go_upto_region 5 with (first
    | (go_at_call 21; with_reducible refine (CA.out _).mono ?_; rintro e w2 ⟨rfl, hb⟩; have V2 := Lib.hid (V.out.below hb))
    | (refine load_blk rfl (.tmp 4) rfl w.heap.size 0 rfl X V2.out.at ?_)
    | (go_at_call 11; with_reducible refine (CL.out _).mono ?_; rintro e w3 ⟨hl, hc⟩; obtain ⟨A, c, rfl, hown⟩ := hl.own HR.out; have V3 := Lib.hid (V2.out.below hc))
    | (refine load_blk rfl (.tmp 4) rfl w.heap.size 0 rfl X V3.out.at ?_)
    | (go_at_call 13; with_reducible refine (CF.out _).mono ?_; rintro e w4 ⟨rfl, hd⟩))
  obtain ⟨g, rfl, _, hgr⟩ := own_gr hown
  have V4 := Lib.hid (V3.out.below hd)
  have G4 := Lib.hid (hgr.below hd)
  have B4 := Lib.hid (low_go (low_go (low_go B.out hb) hc) hd)
  clear hb hc hd hl hown hgr V V2 V3 B CA CL CF
  rcases hw : whereN X s with _ | a
  · obtain rfl : fi = -1 := by rw [← hfi]; unfold findD; rw [if_pos hr, hw]
    clear hfi hfo hr hw
    go_wp2_with fail
    go_ret
    exact ⟨rfl, B4.out⟩
  obtain ⟨a8, a0, an⟩ := (where_some hr).1 hw
  obtain rfl : fi = (a : Int) := by rw [← hfi]; unfold findD; rw [if_pos hr, hw]
  have p1 : decide ((a : Int) < 0) = false := by simp
  have p2 : (0 : Int) ≤ (a : Int) := by omega
  clear hfi hfo
  obtain ⟨may, hmay⟩ : ∃ may, decide (MayN t) = may := ⟨_, rfl⟩
  rw [hmay] at CM
  rcases may with _ | _
  · clear hmay hr hw a0 an
    go_wp2_with (go_at_call 15; with_reducible refine (CM.out _).mono ?_; rintro e w5 ⟨rfl, rfl⟩)
    go_ret
    exact ⟨rfl, B4.out⟩
  have hm := of_decide_eq_true hmay
  by_cases h0 : ino = 0
  · subst h0
    clear hmay hr hw a0 an hm
    go_wp2_with (go_at_call 15; with_reducible refine (CM.out _).mono ?_; rintro e w5 ⟨rfl, rfl⟩)
    go_ret
    exact ⟨rfl, B4.out⟩
  have t0 : (((ino : Nat) : Int) == 0) = false := by rw [beq_eq_false_iff_ne]; omega
  rcases hv : whereN X t with _ | tv
  rotate_left
  · rw [decide_eq_true ((find_has hr).2 (by rw [hv]; rfl))] at CT
    clear hmay hr hw a0 an hm h0 hv
    go_wp2_with (first
      | (go_at_call 15; with_reducible refine (CM.out _).mono ?_; rintro e w5 ⟨rfl, rfl⟩)
      | (refine load_blk_w (by with_unfolding_all rfl) (.tmp 4) rfl w.heap.size 0 rfl X V4.out.at ?_)
      | (go_at_call 23; with_reducible refine (CT.out _).mono ?_; rintro e w6 ⟨rfl, hb⟩))
    go_ret
    exact ⟨rfl, low_go B4.out hb⟩
  rw [decide_eq_false (fun q => by have := (find_has hr).1 q; rw [hv] at this; cases this)] at CT
  -- Y: without the name; Z: with the other one.
  have hst : s ≠ t := fun q => by rw [q, hv] at hw; cases hw
  obtain ⟨Y, hY⟩ : ∃ Y, setS X a .free = Y := ⟨_, rfl⟩
  have rY : Right Y := by rw [← hY]; exact right_rem hr a8
  have yS : whereN Y s = none := by rw [← hY]; exact where_gone hr hw
  have yT : whereN Y t = none := by rw [← hY, where_set_other .free a8 (fun _ q => hst (an.symm.trans q)) (fun q => absurd rfl q)]; exact hv
  have y0 : slotS Y a = .free := by rw [← hY]; exact slot_set a8 .free
  have yo : ∀ j, j ≠ a → slotS Y j = slotS X j := fun j hj => by rw [← hY]; exact slot_other hj
  have R1 : Hid (∀ b W, BVar W b X → Calls Try.prog 19 #[.pointer (some ⟨b, 0, none⟩), .string s] W fun e' w' => e' = .returned (.bool true) ∧ BVar w' b Y ∧ Only b W w') := Lib.hid fun b W h => by
    have := HS.out.rem b X s W h
    rw [show remD X s = (Y, true) by unfold remD; rw [if_pos hr, hw]; simp only; rw [hY]] at this
    exact this
  have R2 : Hid (∀ b W, BVar W b Y → Calls Try.prog 19 #[.pointer (some ⟨b, 0, none⟩), .string s] W fun e' w' => e' = .returned (.bool false) ∧ BVar w' b Y ∧ Only b W w') := Lib.hid fun b W h => by
    have := HS.out.rem b Y s W h
    rw [show remD Y s = (Y, false) by unfold remD; rw [if_pos rY, yS]] at this
    exact this
  have CY := Lib.hid fun W => sFnd HS.out Y s W
  rw [decide_eq_false (fun q => by have := (find_has rY).1 q; rw [yS] at this; cases this)] at CY
  have DO : Hid (∀ k, k ≤ a → (k = a ∨ (slotS X k).ino = 0) → (∀ j, j < k → (slotS X j).ino ≠ 0) → addD Y t ino = (setS Y k ⟨ino, t⟩, 0) ∧ Right (setS Y k ⟨ino, t⟩) ∧ findD (setS Y k ⟨ino, t⟩) t = ((k : Int), ino) ∧ ∀ j, j ≠ a → j ≠ k → slotS (setS Y k ⟨ino, t⟩) j = slotS X j) := Lib.hid fun k hk hz hn => by
    have k0 : (slotS Y k).ino = 0 := by
      rcases hz with rfl | hz
      · rw [y0]; rfl
      · by_cases q : k = a
        · rw [q, y0]; rfl
        · rw [yo k q]; exact hz
    have hf : freeN Y = some k := free_some.2 ⟨by omega, k0, fun j hj => by rw [yo j (by omega)]; exact hn j hj⟩
    have rz := right_add rY hm h0 HI.out yT (i := k) (by omega)
    have sz : slotS (setS Y k ⟨ino, t⟩) k = ⟨ino, t⟩ := slot_set (by omega) (may_ok hm h0 HI.out)
    refine ⟨add_ok rY hm h0 yT hf, rz, ?_, fun j ja jk => by rw [slot_other jk, yo j ja]⟩
    rw [find_at (i := k) rz (by omega) (by rw [sz]; exact h0) (by rw [sz]), sz]
  clear hmay hr hw a0 an hm h0 hv hst hY rY yS yT y0 yo
  go_upto_region 8 with (first
    | (go_at_call 15; with_reducible refine (CM.out _).mono ?_; rintro e w5 ⟨rfl, rfl⟩)
    | (refine load_blk_w (by with_unfolding_all rfl) (.tmp 4) rfl w.heap.size 0 rfl X V4.out.at ?_)
    | (go_at_call 23; with_reducible refine (CT.out _).mono ?_; rintro e w6 ⟨rfl, hb⟩; have V6 := Lib.hid (V4.out.below hb))
    | (refine load_blk rfl (.tmp 4) rfl w.heap.size 0 rfl X V6.out.at ?_)
    | (refine store_newB rfl (.tmp 13) (.tmp 53) rfl X rfl rfl ?_))
  have K6 : Hid (GO w X g w6.heap.size X (w6.alloc (.cells (arr X) 23))) := Lib.hid ⟨(G4.out.below hb).below (below_new w6 _), heap_alloc_new w6 _, by have := (G4.out.below hb).lt; omega, by have := V6.out.lt; omega, low_go (low_go B4.out hb) (below_new w6 _)⟩
  clear hb V4 G4 B4 V6 CM CT hz
  generalize w6.alloc (.cells (arr X) 23) = w7 at K6 ⊢
  generalize w6.heap.size = b at K6 ⊢
  go_upto_region 10 with (first
    | (go_at_call 19; with_reducible refine (R1.out _ _ K6.out.c).mono ?_; rintro e w8 ⟨rfl, hv, ho⟩; have K8 := Lib.hid (K6.out.set ho hv); clear hv ho)
    | (refine load_blk_w (by with_unfolding_all rfl) (.tmp 13) rfl b 0 rfl Y K8.out.c.at ?_)
    | (go_at_call 23; with_reducible refine (CY.out _).mono ?_; rintro e w9 ⟨rfl, hb⟩; have K9 := Lib.hid (K8.out.below hb); clear hb)
    | (go_at_call 19; with_reducible refine (R2.out _ _ K9.out.c).mono ?_; rintro e wa ⟨rfl, hv, ho⟩))
  have Ka := Lib.hid (K9.out.set ho hv)
  clear hv ho K6 K8 K9 R1 R2 CY
  go_wp2_with fail
  go_loopw [14] (fun kv wr => ∃ k : Nat, k ≤ a ∧ kv = .int .i64 k ∧ wr = wa ∧ Hid (∀ j, j < k → (slotS X j).ino ≠ 0)) (fun kv _ => a - (intOf kv).toNat)
  case atStart => exact ⟨0, Nat.zero_le _, rfl, rfl, Lib.hid fun j h => absurd h (Nat.not_lt_zero _)⟩
  case round =>
    obtain ⟨k, hk, rfl, hwr, HN⟩ := hrel
    subst hwr
    have g0 : (0 : Int) ≤ (k : Int) := by omega
    have g1 : (k : Int) < 8 := by omega
    have d0 := (Ka.out.l.at_ k (by omega)).ino
    obtain ⟨ik, hik⟩ : ∃ ik, (slotS X k).ino = ik := ⟨_, rfl⟩
    rw [hik] at d0
    have HK := Lib.hid hk
    clear hk p1
    go_upto_region 11 with fail
    go_cut [76] from 66 to 76 (fun v wx => v = .bool (decide (k < a ∧ ik ≠ 0)) ∧ wx = wr)
    case first =>
      by_cases q1 : k < a
      · have e1 : decide ((k : Int) < (a : Int)) = true := by simp; omega
        have v1 : (k : Int) < (a : Int) := by omega
        by_cases q2 : ik = 0
        · subst q2
          go_wp2_with fail
          go_meet
          exact ⟨by simp, rfl⟩
        · have e2 : (((ik : Nat) : Int) != 0) = true := by rw [bne_iff_ne]; omega
          have e3 : (((ik : Nat) : Int) == 0) = false := by rw [beq_eq_false_iff_ne]; omega
          have E := Lib.hid (show decide (k < a ∧ ik ≠ 0) = true from decide_eq_true ⟨q1, q2⟩)
          clear q1 q2
          go_wp2_with fail
          go_meet
          exact ⟨by rw [E.out]; try simp only [e3, Bool.not_false], rfl⟩
      · have e1 : decide ((k : Int) < (a : Int)) = false := by simp; omega
        have v1 : ¬ (k : Int) < (a : Int) := by omega
        have E := Lib.hid (show decide (k < a ∧ ik ≠ 0) = false from decide_eq_false fun q => q1 q.1)
        clear q1
        go_wp2_with fail
        go_meet
        exact ⟨by rw [E.out], rfl⟩
    case rest =>
      obtain ⟨rfl, rfl⟩ := hcut
      rcases hq : decide (k < a ∧ ik ≠ 0) with _ | _
      rotate_left
      · obtain ⟨q1, q2⟩ := of_decide_eq_true hq
        have HN' : Hid (∀ j, j < k + 1 → (slotS X j).ino ≠ 0) := Lib.hid fun j hj => by
          rcases Nat.lt_or_ge j k with u | u
          · exact HN.out j u
          · rw [show j = k by omega, hik]; exact q2
        clear hq hik q2
        go_wp2_with fail
        go_roundw
        case rel => exact ⟨k + 1, by omega, by congr 1, trivial, HN'⟩
        case measure => simp [intOf]; omega
      have hq2 := of_decide_eq_false hq
      obtain ⟨ha, rz, hfz, same⟩ := DO.out k HK.out (by
        rw [hik]
        by_cases u : k = a
        · exact .inl u
        · refine .inr (Classical.byContradiction fun v => hq2 ⟨by have := HK.out; omega, v⟩)) HN.out
      obtain ⟨Z, hZ⟩ : ∃ Z, setS Y k ⟨ino, t⟩ = Z := ⟨_, rfl⟩
      rw [hZ] at ha rz hfz same
      have RZ := Lib.hid rz
      have SA := Lib.hid same
      have CD : Hid (∀ W, BVar W b Y → Calls Try.prog 17 #[.pointer (some ⟨b, 0, none⟩), .string t, .int .u32 (ino : Int)] W fun e' w' => e' = .returned (.int .i64 0) ∧ BVar w' b Z ∧ Only b W w') := Lib.hid fun W h => by have := HS.out.add b Y t ino W h HI.out; rwa [ha] at this
      have CF : Hid (∀ W, Calls Try.prog 13 #[.agg (arr Z), .string t] W fun e w' => e = .returned (.tuple #[.int .i64 (k : Int), .int .u32 (ino : Int)]) ∧ Below W.heap.size W w') := Lib.hid fun W => by
        have := HS.out.find Z t W
        rwa [hfz] at this
      have CL := Lib.hid fun W => HS.out.list Z W
      clear hq hq2 ha rz hfz same hZ hik d0 HN
      go_upto_region 18 with (first
        | (go_at_call 17; with_reducible refine (CD.out _ Ka.out.c).mono ?_; rintro e wc ⟨rfl, hv, ho⟩; have Kc := Lib.hid (Ka.out.set ho hv); clear hv ho)
        | (refine load_blk rfl (.tmp 13) rfl b 0 rfl Z Kc.out.c.at ?_)
        | (go_at_call 13; with_reducible refine (CF.out _).mono ?_; rintro e wd ⟨rfl, hb⟩))
      have Kd := Lib.hid (Kc.out.below hb)
      clear hb Kc Ka CD CF
      go_wp2_with fail
      go_loopw [17] (fun jv wr => ∃ j : Nat, j ≤ 8 ∧ jv = .int .i64 j ∧ Hid (GO w X g b Z wr)) (fun jv _ => 8 - (intOf jv).toNat)
      case atStart => exact ⟨0, Nat.zero_le _, rfl, Kd⟩
      case round =>
        obtain ⟨j, hj, rfl, Ke⟩ := hrel
        clear Kd
        by_cases hlt : j < 8
        rotate_left
        · obtain rfl : j = 8 := by omega
          go_wp2_with fail
          go_ret
          exact ⟨rfl, Ke.out.low⟩
        have j1 : (j : Int) < 8 := by omega
        have j0 : (0 : Int) ≤ (j : Int) := by omega
        go_upto_region 22 with (first
          | (refine load_blk rfl (.tmp 13) rfl b 0 rfl Z Ke.out.c.at ?_)
          | (go_at_call 11; with_reducible refine (CL.out _).mono ?_; rintro e wz ⟨hl, hb⟩; obtain ⟨A', c', rfl, hown⟩ := hl.own RZ.out))
        obtain ⟨g', rfl, _, hgr⟩ := own_gr hown
        have Kz := Lib.hid (Ke.out.below hb)
        have Nz := Lib.hid hgr
        clear hb hl hown hgr Ke
        have hgs := slot_guard
        obtain ⟨x, hx⟩ : ∃ x, slotS X j = x := ⟨_, rfl⟩
        have he := fun W => equalIn_slot x x W
        simp only [decide_true] at he
        have GX : Hid (∀ w', More wz w' → SAt w' g (j * 2) x) := Lib.hid fun w' h => by rw [← hx]; exact (Kz.out.l.below h).at_ j hlt
        by_cases q : j = a
        · have n1 : ((j : Int) != (a : Int)) = false := by rw [bne_eq_false_iff_eq, q]
          clear q GX hx
          refine wp_region_class (More wz) (by kernel_rfl) (by kernel_rfl) (More.drew _) ?_
          repeat (first | go_big_quiet_skip | (go_big_quiet_want; first | (refine quiet_slot _ rfl _ _ rfl x (by intro w' hw'; first | exact GX.out w' hw' | exact GY.out w' hw') ?_; simp only [Act.put, List.setIfInBounds_toArray, List.set_cons_zero, List.set_cons_succ]; go_big_quiet_on) | (go_big_quiet_op; first | go_big_quiet_on | (apply Exists.intro; refine ⟨fun _ _ => ?_, ?_⟩; (with_reducible exact rfl); go_big_quiet_on))))
          refine wpQuiet_nil ?_
          intro wy hwy
          have Ky := Lib.hid (Kz.out.below hwy)
          clear hwy
          go_wp2_with fail
          go_roundw
          case rel => exact ⟨j + 1, by omega, by congr 1, Ky⟩
          case measure => simp [intOf]; omega
        have n1 : ((j : Int) != (a : Int)) = true := by rw [bne_iff_ne]; omega
        by_cases q2 : j = k
        · have n2 : ((j : Int) != (k : Int)) = false := by rw [bne_eq_false_iff_eq, q2]
          clear q q2 GX hx
          refine wp_region_class (More wz) (by kernel_rfl) (by kernel_rfl) (More.drew _) ?_
          repeat (first | go_big_quiet_skip | (go_big_quiet_want; first | (refine quiet_slot _ rfl _ _ rfl x (by intro w' hw'; first | exact GX.out w' hw' | exact GY.out w' hw') ?_; simp only [Act.put, List.setIfInBounds_toArray, List.set_cons_zero, List.set_cons_succ]; go_big_quiet_on) | (go_big_quiet_op; first | go_big_quiet_on | (apply Exists.intro; refine ⟨fun _ _ => ?_, ?_⟩; (with_reducible exact rfl); go_big_quiet_on))))
          refine wpQuiet_nil ?_
          intro wy hwy
          have Ky := Lib.hid (Kz.out.below hwy)
          clear hwy
          go_wp2_with fail
          go_roundw
          case rel => exact ⟨j + 1, by omega, by congr 1, Ky⟩
          case measure => simp [intOf]; omega
        have n2 : ((j : Int) != (k : Int)) = true := by rw [bne_iff_ne]; omega
        have GY : Hid (∀ w', More wz w' → SAt w' g' (j * 2) x) := Lib.hid fun w' h => by rw [← hx, ← SA.out j q q2]; exact (Nz.out.below h).at_ j hlt
        clear q q2 hx
        refine wp_region_class (More wz) (by kernel_rfl) (by kernel_rfl) (More.drew _) ?_
        repeat (first | go_big_quiet_skip | (go_big_quiet_want; first | (refine quiet_slot _ rfl _ _ rfl x (by intro w' hw'; first | exact GX.out w' hw' | exact GY.out w' hw') ?_; simp only [Act.put, List.setIfInBounds_toArray, List.set_cons_zero, List.set_cons_succ]; go_big_quiet_on) | (go_big_quiet_op; first | go_big_quiet_on | (apply Exists.intro; refine ⟨fun _ _ => ?_, ?_⟩; (with_reducible exact rfl); go_big_quiet_on))))
        refine wpQuiet_nil ?_
        intro wy hwy
        have Ky := Lib.hid (Kz.out.below hwy)
        clear hwy
        go_wp2_with fail
        go_roundw
        case rel => exact ⟨j + 1, by omega, by congr 1, Ky⟩
        case measure => simp [intOf]; omega
theorem sGone_i (hS : SlotsSays) (X : Blk) (s t : ByteArray) (a : Int) (w : World) (h0 : 0 ≤ a) (h1 : a < 4294967296) : Calls Try.prog 8 #[.agg (arr X), .string s, .string t, .int .u32 a] w fun e w' => e = .returned (.bool true) ∧ Below w.heap.size w w' := by
  obtain ⟨n, rfl⟩ := Int.eq_ofNat_of_zero_le h0
  exact sGone hS X s t n w (by omega)
end Go.Proofs.Ytinpdomcfijnmaa
