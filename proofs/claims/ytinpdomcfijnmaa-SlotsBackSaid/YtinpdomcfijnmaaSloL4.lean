import Derived.Test.YtinpdomcfijnmaaSloG
namespace Go.Proofs.Ytinpdomcfijnmaa
open Go.RowKit

/-! SlotsBack. -/
/-- What SlotsBack keeps in memory. -/
structure BK (w0 : World) (X : Blk) (b9 : Nat) (Y : Blk) (w : World) : Prop where
  box : BVar w w0.heap.size X
  c : BVar w b9 Y
  at_ : w0.heap.size < b9
  low : Below w0.heap.size w0 w
section
variable {w0 w w' : World} {X Y V : Blk} {b9 : Nat}
theorem BK.below (h : BK w0 X b9 Y w) (hb : Below w.heap.size w w') : BK w0 X b9 Y w' := ⟨h.box.below hb, h.c.below hb, h.at_, low_go h.low hb⟩
theorem BK.set (h : BK w0 X b9 Y w) (ho : Only b9 w w') (hv : BVar w' b9 V) : BK w0 X b9 V w' := ⟨ho.blk (by have := h.at_; omega) h.box, hv, h.at_, low_only h.low ho (by have := h.at_; omega)⟩
end
/-- What Add answers, four ways. -/
theorem add_ways (X : Blk) (s : ByteArray) (ino : Nat) : (¬ Right X ∧ addD X s ino = (X, 80)) ∨ (Right X ∧ ∃ f : Int, addD X s ino = (X, f) ∧ f ≠ 0 ∧ f ≠ 80) ∨ (Right X ∧ ∃ i, i < 8 ∧ addD X s ino = (setS X i ⟨ino, s⟩, 0) ∧ MayN s ∧ ino ≠ 0 ∧ whereN X s = none ∧ freeN X = some i) := by
  by_cases hr : Right X
  · by_cases hb : ¬ MayN s ∨ ino = 0 ∨ (whereN X s).isSome = true
    · exact .inr (.inl ⟨hr, 2, add_arg hr hb, by omega, by omega⟩)
    · rcases e : freeN X with _ | i
      · exact .inr (.inl ⟨hr, 4, add_full hr hb e, by omega, by omega⟩)
      · refine .inr (.inr ⟨hr, i, (free_some.1 e).1, add_yes hr hb e, ?_, ?_, ?_, rfl⟩)
        · exact Classical.byContradiction fun q => hb (.inl q)
        · exact fun q => hb (.inr (.inl q))
        · rcases q : whereN X s with _ | j
          · rfl
          · exact absurd (.inr (.inr (by rw [q]; rfl))) hb
  · exact .inl ⟨hr, add_not hr⟩
set_option maxRecDepth 100000 in
set_option maxHeartbeats 4000000 in
theorem sBack (hS : SlotsSays) (X : Blk) (s : ByteArray) (ino : Nat) (w : World) (hi : ino < 4294967296) : Calls Try.prog 6 #[.agg (arr X), .string s, .int .u32 (ino : Int)] w fun e w' => e = .returned (.bool true) ∧ Below w.heap.size w w' := by
  have hz := fun W => zero_blk W
  have V := Lib.hid (show BVar (w.alloc (.cells (arr X) 23)) w.heap.size X from heap_alloc_new w _)
  have B := Lib.hid (below_new w (.cells (arr X) 23))
  have CA := Lib.hid fun W => sAwake hS W
  by_cases h2 : 20000 < s.size
  · have t1 : decide ((20000 : Int) < (s.size : Int)) = true := by simp; omega
    have v1 : (20000 : Int) < (s.size : Int) := by omega
    go_enter Try.func6, Try.ntmps6
    go_upto_region 1 with fail
    generalize w.alloc (.cells (arr X) 23) = w1 at V B ⊢
    go_wp2_with (go_at_call 21; with_reducible refine (CA.out _).mono ?_; rintro e w2 ⟨rfl, hb⟩)
    go_ret
    exact ⟨rfl, low_go B.out hb⟩
  have t1 : decide ((20000 : Int) < (s.size : Int)) = false := by simp; omega
  have v1 : ¬ (20000 : Int) < (s.size : Int) := by omega
  have CL := Lib.hid fun W => hS.list X W
  have hg := blk_guard
  have heX := fun W => equalIn_blk X X W
  simp only [decide_true] at heX
  have HS := Lib.hid hS
  have HI := Lib.hid hi
  clear h2 hS hi
  go_enter Try.func6, Try.ntmps6
  go_upto_region 1 with fail
  generalize w.alloc (.cells (arr X) 23) = w1 at V B ⊢
  go_upto_region 5 with (go_at_call 21; with_reducible refine (CA.out _).mono ?_; rintro e w2 ⟨rfl, hb⟩)
  have V2 := Lib.hid (V.out.below hb)
  have B2 := Lib.hid (low_go B.out hb)
  clear hb V B CA t1 v1
  rcases add_ways X s ino with ⟨hr, ha⟩ | ⟨hr, f, ha, f0, f80⟩ | ⟨hr, i, i8, ha, hm, h0, hw, hf⟩
  · have HR := Lib.hid hr
    have CX : Hid (∀ b W, BVar W b X → Calls Try.prog 17 #[.pointer (some ⟨b, 0, none⟩), .string s, .int .u32 (ino : Int)] W fun e' w' => e' = .returned (.int .i64 80) ∧ BVar w' b X ∧ Only b W w') := Lib.hid fun b W h => by have := HS.out.add b X s ino W h HI.out; rwa [ha] at this
    clear hr ha
    go_upto_region 7 with (first
      | (refine load_blk rfl (.tmp 3) rfl w.heap.size 0 rfl X V2.out.at ?_)
      | (go_at_call 11; with_reducible refine (CL.out _).mono ?_; rintro e w3 ⟨hl, hb⟩; obtain rfl : e = .returned (.tuple #[.slice none 0 0, .int .i64 80]) := hl.no HR.out; have V3 := Lib.hid (V2.out.below hb))
      | (refine load_blk rfl (.tmp 3) rfl w.heap.size 0 rfl X V3.out.at ?_)
      | (refine store_newB rfl (.tmp 9) (.tmp 26) rfl X rfl rfl ?_))
    have K4 : Hid (BK w X w3.heap.size X (w3.alloc (.cells (arr X) 23))) := Lib.hid ⟨V3.out.below (below_new w3 _), heap_alloc_new w3 _, V3.out.lt, low_go (low_go B2.out hb) (below_new w3 _)⟩
    clear hb hl V3 V2 B2 hz
    generalize w3.alloc (.cells (arr X) 23) = w4 at K4 ⊢
    generalize w3.heap.size = b9 at K4 ⊢
    go_upto_region 8 with (go_at_call 17; with_reducible refine (CX.out _ _ K4.out.c).mono ?_; rintro e w5 ⟨rfl, hv, ho⟩)
    have K5 := Lib.hid (K4.out.set ho hv)
    clear hv ho K4
    go_wp2_with (first
      | (refine load_blk rfl (.tmp 9) rfl b9 0 rfl X K5.out.c.at ?_)
      | (refine load_blk rfl (.tmp 3) rfl w.heap.size 0 rfl X K5.out.box.at ?_))
    go_ret
    exact ⟨rfl, K5.out.low⟩
  · have HR := Lib.hid hr
    have CX : Hid (∀ b W, BVar W b X → Calls Try.prog 17 #[.pointer (some ⟨b, 0, none⟩), .string s, .int .u32 (ino : Int)] W fun e' w' => e' = .returned (.int .i64 f) ∧ BVar w' b X ∧ Only b W w') := Lib.hid fun b W h => by have := HS.out.add b X s ino W h HI.out; rwa [ha] at this
    have u0 : (f != 0) = true := by rw [bne_iff_ne]; exact f0
    have u8 : (f != 80) = true := by rw [bne_iff_ne]; exact f80
    clear hr ha f0 f80
    go_upto_region 7 with (first
      | (refine load_blk rfl (.tmp 3) rfl w.heap.size 0 rfl X V2.out.at ?_)
      | (go_at_call 11; with_reducible refine (CL.out _).mono ?_; rintro e w3 ⟨hl, hb⟩; obtain ⟨A, c, rfl, hown⟩ := hl.own HR.out; have V3 := Lib.hid (V2.out.below hb))
      | (refine load_blk rfl (.tmp 3) rfl w.heap.size 0 rfl X V3.out.at ?_)
      | (refine store_newB rfl (.tmp 9) (.tmp 26) rfl X rfl rfl ?_))
    have K4 : Hid (BK w X w3.heap.size X (w3.alloc (.cells (arr X) 23))) := Lib.hid ⟨V3.out.below (below_new w3 _), heap_alloc_new w3 _, V3.out.lt, low_go (low_go B2.out hb) (below_new w3 _)⟩
    clear hb hl V3 V2 B2 hz hown
    generalize w3.alloc (.cells (arr X) 23) = w4 at K4 ⊢
    generalize w3.heap.size = b9 at K4 ⊢
    go_upto_region 8 with (go_at_call 17; with_reducible refine (CX.out _ _ K4.out.c).mono ?_; rintro e w5 ⟨rfl, hv, ho⟩)
    have K5 := Lib.hid (K4.out.set ho hv)
    clear hv ho K4
    go_wp2_with (first
      | (refine load_blk rfl (.tmp 9) rfl b9 0 rfl X K5.out.c.at ?_)
      | (refine load_blk rfl (.tmp 3) rfl w.heap.size 0 rfl X K5.out.box.at ?_))
    go_ret
    exact ⟨rfl, K5.out.low⟩
  have HR := Lib.hid hr
  obtain ⟨Y, hY⟩ : ∃ Y, setS X i ⟨ino, s⟩ = Y := ⟨_, rfl⟩
  have wY : whereN Y s = some i := by rw [← hY]; exact where_add hr hm h0 HI.out hw i8
  have rY : Right Y := by rw [← hY]; exact right_add hr hm h0 HI.out hw i8
  have sY : slotS Y i = ⟨ino, s⟩ := by rw [← hY]; exact slot_set i8 (may_ok hm h0 HI.out)
  have oY : Hid (∀ j, j ≠ i → slotS Y j = slotS X j) := Lib.hid fun j hj => by rw [← hY]; exact slot_other hj
  have RY := Lib.hid rY
  obtain ⟨fi0, fz, fl⟩ := free_some.1 hf
  have FZ := Lib.hid fz
  have FL := Lib.hid fl
  have CX : Hid (∀ b W, BVar W b X → Calls Try.prog 17 #[.pointer (some ⟨b, 0, none⟩), .string s, .int .u32 (ino : Int)] W fun e' w' => e' = .returned (.int .i64 0) ∧ BVar w' b Y ∧ Only b W w') := Lib.hid fun b W h => by have := HS.out.add b X s ino W h HI.out; rwa [ha, hY] at this
  have CY := Lib.hid fun W => HS.out.list Y W
  have CF : Hid (∀ W, Calls Try.prog 13 #[.agg (arr Y), .string s] W fun e w' => e = .returned (.tuple #[.int .i64 (i : Int), .int .u32 (ino : Int)]) ∧ Below W.heap.size W w') := Lib.hid fun W => by
    have := HS.out.find Y s W
    rw [show findD Y s = ((i : Int), ino) by rw [find_at rY i8 (by rw [sY]; exact h0) (by rw [sY]), sY]] at this
    exact this
  have CR : Hid (∀ b W, BVar W b Y → Calls Try.prog 19 #[.pointer (some ⟨b, 0, none⟩), .string s] W fun e' w' => e' = .returned (.bool true) ∧ BVar w' b X ∧ Only b W w') := Lib.hid fun b W h => by
    have := HS.out.rem b Y s W h
    rw [show remD Y s = (X, true) by unfold remD; rw [if_pos rY, wY]; simp only; rw [← hY, add_rem hr fz i8]] at this
    exact this
  have CQ : Hid (∀ b W, BVar W b X → Calls Try.prog 19 #[.pointer (some ⟨b, 0, none⟩), .string s] W fun e' w' => e' = .returned (.bool false) ∧ BVar w' b X ∧ Only b W w') := Lib.hid fun b W h => by
    have := HS.out.rem b X s W h
    rw [show remD X s = (X, false) by unfold remD; rw [if_pos hr, hw]] at this
    exact this
  clear hr ha hm h0 hw hf wY rY sY fi0 fz fl hY
  go_upto_region 7 with (first
    | (refine load_blk rfl (.tmp 3) rfl w.heap.size 0 rfl X V2.out.at ?_)
    | (go_at_call 11; with_reducible refine (CL.out _).mono ?_; rintro e w3 ⟨hl, hb⟩; obtain ⟨A, c, rfl, hown⟩ := hl.own HR.out; have V3 := Lib.hid (V2.out.below hb))
    | (refine load_blk rfl (.tmp 3) rfl w.heap.size 0 rfl X V3.out.at ?_)
    | (refine store_newB rfl (.tmp 9) (.tmp 26) rfl X rfl rfl ?_))
  obtain ⟨g, rfl, _, hgr⟩ := own_gr hown
  have K4 : Hid (BK w X w3.heap.size X (w3.alloc (.cells (arr X) 23))) := Lib.hid ⟨V3.out.below (below_new w3 _), heap_alloc_new w3 _, V3.out.lt, low_go (low_go B2.out hb) (below_new w3 _)⟩
  have G4 := Lib.hid (hgr.below (below_new w3 (.cells (arr X) 23)))
  have gl := hgr.lt
  clear hb hl V3 V2 B2 hz hown hgr CL
  generalize w3.alloc (.cells (arr X) 23) = w4 at K4 G4 ⊢
  generalize w3.heap.size = b9 at K4 gl ⊢
  have GL := Lib.hid gl
  clear gl
  go_upto_region 8 with (go_at_call 17; with_reducible refine (CX.out _ _ K4.out.c).mono ?_; rintro e w5 ⟨rfl, hv, ho⟩)
  have K5 := Lib.hid (K4.out.set ho hv)
  have G5 := Lib.hid (G4.out.only ho (by have := GL.out; omega))
  clear hv ho K4 G4 CX
  go_upto_region 11 with (first
    | (refine load_blk rfl (.tmp 9) rfl b9 0 rfl Y K5.out.c.at ?_)
    | (go_at_call 11; with_reducible refine (CY.out _).mono ?_; rintro e w6 ⟨hl, hb⟩; obtain ⟨A', c', rfl, hown⟩ := hl.own RY.out))
  obtain ⟨g', rfl, hg', hgr⟩ := own_gr hown
  have K6 := Lib.hid (K5.out.below hb)
  have G6 := Lib.hid (G5.out.below hb)
  have N6 := Lib.hid hgr
  clear hb hl hown hgr K5 G5 CY hg'
  go_upto_region 12 with (first
    | (refine load_blk rfl (.tmp 9) rfl b9 0 rfl Y K6.out.c.at ?_)
    | (go_at_call 13; with_reducible refine (CF.out _).mono ?_; rintro e w7 ⟨rfl, hb⟩))
  have K7 := Lib.hid (K6.out.below hb)
  have G7 := Lib.hid (G6.out.below hb)
  have N7 := Lib.hid (N6.out.below hb)
  clear hb K6 G6 N6 CF
  have d0 := (G7.out.at_ i i8).ino
  rw [FZ.out] at d0
  have t1 : decide ((i : Int) < 0) = false := by simp
  have t2 : (0 : Int) ≤ (i : Int) := by omega
  have t3 : (i : Int) < 8 := by omega
  go_wp2_with fail
  go_loopw [15] (fun jv wr => ∃ j : Nat, j ≤ 8 ∧ jv = .int .i64 j ∧ Hid (BK w X b9 Y wr) ∧ Hid (GR wr g (slotS X)) ∧ Hid (GR wr g' (slotS Y))) (fun jv _ => 8 - (intOf jv).toNat)
  case atStart => exact ⟨0, Nat.zero_le _, rfl, K7, G7, N7⟩
  case round =>
    obtain ⟨j, hj, rfl, K8, G8, N8⟩ := hrel
    clear K7 G7 N7 d0 t1
    by_cases hlt : j < 8
    · have g1 : (j : Int) < 8 := by omega
      have g0 : (0 : Int) ≤ (j : Int) := by omega
      have hgs := slot_guard
      obtain ⟨x, hx⟩ : ∃ x, slotS X j = x := ⟨_, rfl⟩
      have he := fun W => equalIn_slot x x W
      simp only [decide_true] at he
      have GX : Hid (∀ w', More wr w' → SAt w' g (j * 2) x) := Lib.hid fun w' h => by rw [← hx]; exact (G8.out.below h).at_ j hlt
      have GI : Hid (∀ w', More wr w' → w'.cell? ⟨g, j * 2, none⟩ = some (.int .u32 ((x.ino : Nat) : Int))) := Lib.hid fun w' h => (GX.out w' h).ino
      go_upto_region 17 with fail
      by_cases q : j = i
      · have n1 : ((j : Int) != (i : Int)) = false := by rw [bne_eq_false_iff_eq, q]
        have n2 : decide ((j : Int) < (i : Int)) = false := by rw [q]; simp
        have n3 : ¬ (j : Int) < (i : Int) := by omega
        clear q GX GI hx
        refine wp_region_class (More wr) (by kernel_rfl) (by kernel_rfl) (More.drew _) ?_
        repeat (first | go_big_quiet_skip | (go_big_quiet_want; first | (refine quiet_slot _ rfl _ _ rfl x (by intro w' hw'; first | exact GX.out w' hw' | exact GY.out w' hw') ?_; simp only [Act.put, List.setIfInBounds_toArray, List.set_cons_zero, List.set_cons_succ]; go_big_quiet_on) | (refine quiet_u32 _ rfl _ rfl _ (by intro w' hw'; exact GI.out w' hw') ?_; simp only [Act.put, List.setIfInBounds_toArray, List.set_cons_zero, List.set_cons_succ]; go_big_quiet_on) | (go_big_quiet_op; first | go_big_quiet_on | (apply Exists.intro; refine ⟨fun _ _ => ?_, ?_⟩; (with_reducible exact rfl); go_big_quiet_on))))
        refine wpQuiet_nil ?_
        intro w8 hw8
        have K9 := Lib.hid (K8.out.below hw8)
        have G9 := Lib.hid (G8.out.below hw8)
        have N9 := Lib.hid (N8.out.below hw8)
        clear hw8
        go_wp2_with fail
        go_roundw
        case rel => exact ⟨j + 1, by omega, by congr 1, K9, G9, N9⟩
        case measure => simp [intOf]; omega
      have n1 : ((j : Int) != (i : Int)) = true := by rw [bne_iff_ne]; omega
      have GY : Hid (∀ w', More wr w' → SAt w' g' (j * 2) x) := Lib.hid fun w' h => by rw [← hx, ← oY.out j q]; exact (N8.out.below h).at_ j hlt
      by_cases u : j < i
      · have n2 : decide ((j : Int) < (i : Int)) = true := by simp; omega
        have n3 : (j : Int) < (i : Int) := by omega
        have ix : (((x.ino : Nat) : Int) == 0) = false := by rw [beq_eq_false_iff_ne, ← hx]; have := FL.out j u; omega
        clear q u hx
        refine wp_region_class (More wr) (by kernel_rfl) (by kernel_rfl) (More.drew _) ?_
        repeat (first | go_big_quiet_skip | (go_big_quiet_want; first | (refine quiet_slot _ rfl _ _ rfl x (by intro w' hw'; first | exact GX.out w' hw' | exact GY.out w' hw') ?_; simp only [Act.put, List.setIfInBounds_toArray, List.set_cons_zero, List.set_cons_succ]; go_big_quiet_on) | (refine quiet_u32 _ rfl _ rfl _ (by intro w' hw'; exact GI.out w' hw') ?_; simp only [Act.put, List.setIfInBounds_toArray, List.set_cons_zero, List.set_cons_succ]; go_big_quiet_on) | (go_big_quiet_op; first | go_big_quiet_on | (apply Exists.intro; refine ⟨fun _ _ => ?_, ?_⟩; (with_reducible exact rfl); go_big_quiet_on))))
        refine wpQuiet_nil ?_
        intro w8 hw8
        have K9 := Lib.hid (K8.out.below hw8)
        have G9 := Lib.hid (G8.out.below hw8)
        have N9 := Lib.hid (N8.out.below hw8)
        clear hw8
        go_wp2_with fail
        go_roundw
        case rel => exact ⟨j + 1, by omega, by congr 1, K9, G9, N9⟩
        case measure => simp [intOf]; omega
      · have n2 : decide ((j : Int) < (i : Int)) = false := by simp; omega
        have n3 : ¬ (j : Int) < (i : Int) := by omega
        clear q u hx
        refine wp_region_class (More wr) (by kernel_rfl) (by kernel_rfl) (More.drew _) ?_
        repeat (first | go_big_quiet_skip | (go_big_quiet_want; first | (refine quiet_slot _ rfl _ _ rfl x (by intro w' hw'; first | exact GX.out w' hw' | exact GY.out w' hw') ?_; simp only [Act.put, List.setIfInBounds_toArray, List.set_cons_zero, List.set_cons_succ]; go_big_quiet_on) | (refine quiet_u32 _ rfl _ rfl _ (by intro w' hw'; exact GI.out w' hw') ?_; simp only [Act.put, List.setIfInBounds_toArray, List.set_cons_zero, List.set_cons_succ]; go_big_quiet_on) | (go_big_quiet_op; first | go_big_quiet_on | (apply Exists.intro; refine ⟨fun _ _ => ?_, ?_⟩; (with_reducible exact rfl); go_big_quiet_on))))
        refine wpQuiet_nil ?_
        intro w8 hw8
        have K9 := Lib.hid (K8.out.below hw8)
        have G9 := Lib.hid (G8.out.below hw8)
        have N9 := Lib.hid (N8.out.below hw8)
        clear hw8
        go_wp2_with fail
        go_roundw
        case rel => exact ⟨j + 1, by omega, by congr 1, K9, G9, N9⟩
        case measure => simp [intOf]; omega
    · obtain rfl : j = 8 := by omega
      have hg := blk_guard
      go_wp2_with (first
        | (go_at_call 19; with_reducible refine (CR.out _ _ K8.out.c).mono ?_; rintro e w9 ⟨rfl, hv, ho⟩; have Ka := Lib.hid (K8.out.set ho hv); clear hv ho)
        | (refine load_blk_w (by with_unfolding_all rfl) (.tmp 9) rfl b9 0 rfl X Ka.out.c.at ?_)
        | (refine load_blk_w (by with_unfolding_all rfl) (.tmp 3) rfl w.heap.size 0 rfl X Ka.out.box.at ?_)
        | (go_at_call 19; with_reducible refine (CQ.out _ _ Ka.out.c).mono ?_; rintro e wb ⟨rfl, hv, ho⟩))
      go_ret
      exact ⟨rfl, (Ka.out.set ho hv).low⟩
theorem sBack_i (hS : SlotsSays) (X : Blk) (s : ByteArray) (a : Int) (w : World) (h0 : 0 ≤ a) (h1 : a < 4294967296) : Calls Try.prog 6 #[.agg (arr X), .string s, .int .u32 a] w fun e w' => e = .returned (.bool true) ∧ Below w.heap.size w w' := by
  obtain ⟨n, rfl⟩ := Int.eq_ofNat_of_zero_le h0
  exact sBack hS X s n w (by omega)
end Go.Proofs.Ytinpdomcfijnmaa
