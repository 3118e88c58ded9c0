import Derived.Test.YtinpdomcfijnmaaSloP6
import Derived.Test.YtinpdomcfijnmaaSloQ7
import Derived.Test.YtinpdomcfijnmaaSloQ8
namespace Go.Proofs.Ytinpdomcfijnmaa
open Go.RowKit

/-! The landed Find, Remove and Add. -/
theorem look_none {X : Blk} {s : ByteArray} {hs fr : Int} (h : LookS (slotS X) 8 s hs fr) (hr : Right X) : (∃ k : Nat, k < 8 ∧ whereN X s = some k ∧ hs = k) ∨ (hs = -1 ∧ whereN X s = none ∧ ((∃ k : Nat, k < 8 ∧ fr = k ∧ freeN X = some k) ∨ (fr = -1 ∧ freeN X = none))) := by
  rcases h with ⟨k, hk, k0, kn, rfl⟩ | ⟨rfl, hn, hf⟩
  · exact .inl ⟨k, hk, (where_some hr).2 ⟨hk, k0, kn⟩, rfl⟩
  · refine .inr ⟨rfl, where_none.2 hn, ?_⟩
    rcases hf with ⟨k, hk, e, k0, ha⟩ | ⟨e, ha⟩
    · exact .inl ⟨k, hk, e, free_some.2 ⟨hk, k0, ha⟩⟩
    · exact .inr ⟨e, free_none.2 ha⟩
theorem look_nil {d : Nat → SlotV} {s : ByteArray} {hs fr : Int} (h : LookS d 0 s hs fr) : hs = -1 := by
  rcases h with ⟨k, hk, _⟩ | ⟨h, _⟩
  · omega
  · exact h
set_option maxRecDepth 100000 in
set_option maxHeartbeats 4000000 in
theorem pFind (X : Blk) (s : ByteArray) (w : World) : Calls Try.prog 13 #[.agg (arr X), .string s] w fun e w' => e = .returned (.tuple #[.int .i64 (findD X s).1, .int .u32 (((findD X s).2 : Nat) : Int)]) ∧ Below w.heap.size w w' := by
  have V := show BVar (w.alloc (.cells (arr X) 23)) w.heap.size X from heap_alloc_new w _
  have B := Lib.hid (below_new w (.cells (arr X) 23))
  have CL := Lib.hid (pSlotsOf w.heap.size X _ V)
  clear V
  by_cases hr : Right X
  rotate_left
  · have HR := Lib.hid hr
    have E := Lib.hid (find_not (s := s) hr)
    clear hr
    have CK := Lib.hid fun W => pLook none 0 0 (slotS X) s W (by omega) (SRow.nil _ _ _)
    have t1 : decide ((-1 : Int) < 0) = true := rfl
    go_enter Try.func13, Try.ntmps13
    go_upto_region 1 with fail
    generalize w.alloc (.cells (arr X) 23) = w1 at CL B ⊢
    go_wp2_with (first
      | (go_at_call 27; with_reducible refine (CL.out).mono ?_; rintro e w2 ⟨hl, hb⟩; obtain rfl : e = .returned (.tuple #[.slice none 0 0, .bool false]) := hl.no HR.out; clear hl)
      | (go_at_call 28; with_reducible refine (CK.out _).mono ?_; rintro e w3 ⟨⟨hs, fr, rfl, hl⟩, hc⟩; obtain rfl : hs = -1 := look_nil hl; clear hl))
    go_ret2
    exact ⟨by rw [E.out]; rfl, low_go (low_go B.out hb) hc⟩
  have HR := Lib.hid hr
  clear hr
  go_enter Try.func13, Try.ntmps13
  go_upto_region 1 with fail
  generalize w.alloc (.cells (arr X) 23) = w1 at CL B ⊢
  go_upto_region 2 with (go_at_call 27; with_reducible refine (CL.out).mono ?_; rintro e w2 ⟨hl, hb⟩; obtain ⟨A, c, rfl, hs⟩ : ∃ A c, e = .returned (.tuple #[.slice A 8 c, .bool true]) ∧ SRow w2 A 8 (slotS X) := hl.yes HR.out; clear hl)
  have B2 := Lib.hid (low_go B.out hb)
  have CK := Lib.hid (pLook A 8 c (slotS X) s w2 (by omega) hs)
  have S2 := Lib.hid hs
  clear hb hs CL B
  go_upto_region 3 with (go_at_call 28; with_reducible refine (CK.out).mono ?_; rintro e w3 ⟨⟨hs, fr, rfl, hl⟩, hb⟩)
  have B3 := Lib.hid (low_go B2.out hb)
  have S3 := Lib.hid (S2.out.below hb)
  clear hb CK S2 B2
  rcases look_none hl HR.out with ⟨k, hk, hw, rfl⟩ | ⟨rfl, hw, _⟩
  · obtain ⟨b, o, rfl, _, hc⟩ := S3.out.mem (by omega)
    have E : Hid (findD X s = ((k : Int), (slotS X k).ino)) := Lib.hid (by unfold findD; rw [if_pos HR.out, hw])
    have d0 := (hc k hk).ino
    obtain ⟨ik, hik⟩ : ∃ ik, (slotS X k).ino = ik := ⟨_, rfl⟩
    rw [hik] at d0 E
    have t1 : decide ((k : Int) < 0) = false := by simp
    have t2 : ¬ (k : Int) < 0 := by omega
    have g0 : (0 : Int) ≤ (k : Int) := by omega
    have g1 : (k : Int) < 8 := by omega
    clear hw hl hc hik
    go_wp2_with fail
    go_quiet (fail)
    go_wp2_with fail
    go_ret2
    exact ⟨by rw [E.out]; rfl, low_drewN B3.out _⟩
  · have E : Hid (findD X s = (-1, 0)) := Lib.hid (by unfold findD; rw [if_pos HR.out, hw])
    clear hw hl
    go_wp2_with fail
    go_ret2
    exact ⟨by rw [E.out]; rfl, B3.out⟩
@[irreducible] def zeros32 : List Value := List.replicate 32 (.int .u8 0)
theorem zeros32_map : zeros32 = (List.replicate 32 0).map fun v : Nat => Value.int .u8 ((v : Nat) : Int) := by unfold zeros32; rw [List.map_replicate]; rfl
theorem rep_getD (n i : Nat) : (List.replicate n 0).getD i 0 = 0 := by
  rw [List.getD_eq_getElem?_getD, List.getElem?_replicate]
  split <;> rfl
theorem pRemove_nil (s : ByteArray) (w : World) : Calls Try.prog 19 #[.pointer none, .string s] w fun e w' => e = .returned (.bool false) ∧ Below w.heap.size w w' := by
  go_enter Try.func19, Try.ntmps19
  go_wp2
  go_ret
  exact ⟨rfl, Below.refl _ _⟩
set_option maxRecDepth 100000 in
set_option maxHeartbeats 4000000 in
theorem pRemove (b : Nat) (X : Blk) (s : ByteArray) (w : World) (hV : BVar w b X) : Calls Try.prog 19 #[.pointer (some ⟨b, 0, none⟩), .string s] w fun e w' => e = .returned (.bool (remD X s).2) ∧ BVar w' b (remD X s).1 ∧ Only b w w' := by
  have CL := Lib.hid (pSlotsOf b X w hV)
  have V := Lib.hid hV
  clear hV
  by_cases hr : Right X
  rotate_left
  · have HR := Lib.hid hr
    have E : Hid (remD X s = (X, false)) := Lib.hid (by unfold remD; rw [if_neg hr])
    clear hr
    have CK := Lib.hid fun W => pLook none 0 0 (slotS X) s W (by omega) (SRow.nil _ _ _)
    have t1 : decide ((-1 : Int) < 0) = true := rfl
    go_enter Try.func19, Try.ntmps19
    go_wp2_with (first
      | (go_at_call 27; with_reducible refine (CL.out).mono ?_; rintro e w2 ⟨hl, hb⟩; obtain rfl : e = .returned (.tuple #[.slice none 0 0, .bool false]) := hl.no HR.out; clear hl)
      | (go_at_call 28; with_reducible refine (CK.out _).mono ?_; rintro e w3 ⟨⟨hs, fr, rfl, hl⟩, hc⟩; obtain rfl : hs = -1 := look_nil hl; clear hl))
    go_ret
    have hbc := low_go hb hc
    exact ⟨by rw [E.out]; rfl, by rw [E.out]; exact V.out.below hbc, Only.of_below hbc⟩
  have HR := Lib.hid hr
  clear hr
  go_enter Try.func19, Try.ntmps19
  go_upto_region 4 with (go_at_call 27; with_reducible refine (CL.out).mono ?_; rintro e w2 ⟨hl, hb⟩; obtain ⟨A, c, rfl, hs⟩ : ∃ A c, e = .returned (.tuple #[.slice A 8 c, .bool true]) ∧ SRow w2 A 8 (slotS X) := hl.yes HR.out; clear hl)
  have B2 := Lib.hid hb
  have CK := Lib.hid (pLook A 8 c (slotS X) s w2 (by omega) hs)
  clear hb hs CL
  go_upto_region 5 with (go_at_call 28; with_reducible refine (CK.out).mono ?_; rintro e w3 ⟨⟨hs, fr, rfl, hl⟩, hb⟩)
  have B3 := Lib.hid (low_go B2.out hb)
  have V3 := Lib.hid (V.out.below B3.out)
  clear hb CK B2 V
  rcases look_none hl HR.out with ⟨k, hk, hw, rfl⟩ | ⟨rfl, hw, _⟩
  · have E : Hid (remD X s = (setS X k .free, true)) := Lib.hid (by unfold remD; rw [if_pos HR.out, hw])
    have CP := Lib.hid fun W => pPiece b k hk W
    have t1 : decide ((k : Int) < 0) = false := by simp
    have t2 : ¬ (k : Int) < 0 := by omega
    have hcl : ∀ ty, (Builtin.clear_ #[58] ty #[.slice (some ⟨b, 32 * k, none⟩) 32 32]).run Try.prog w3 = .ok (.tuple #[]) (w3.setCells b (32 * k) zeros32) :=
      fun ty => by unfold zeros32; exact Lib.run_clear_slice w3 58 5 ty (.int .u8 0) Try.underlying58 (fun W => by kernel_rfl) rfl rfl b (32 * k) 32 32 (by omega) (fun j hj => by rw [V3.out.cell (by omega)]; rfl) (fun j _ => V3.out.frozen _)
    clear hw hl
    go_wp2_with (go_at_call 31; with_reducible refine (CP.out _).mono ?_; rintro e w4 ⟨rfl, rfl⟩)
    go_ret
    obtain ⟨Y, hY, he⟩ := blk_sets (List.replicate 32 0) (fun v hv => by rw [List.eq_of_mem_replicate hv]; omega) (32 * k) _ X V3.out
    have e2 : setS X k .free = Y := Blk.same fun j hj => by
      rw [he j hj]
      by_cases q : 32 * k ≤ j ∧ j < 32 * k + 32
      · rw [if_pos (by simpa using q), show j = 32 * k + (j - 32 * k) by omega, setS_in hk (by omega), slotB_free]
        exact (rep_getD _ _).symm
      · rw [if_neg (by simpa using q), setS_off (by omega)]
    rw [← zeros32_map] at hY
    exact ⟨by rw [E.out]; rfl, by rw [E.out, e2]; exact hY, (Only.of_below B3.out).trans (Only.setCells _ b _ _)⟩
  · have E : Hid (remD X s = (X, false)) := Lib.hid (by unfold remD; rw [if_pos HR.out, hw])
    clear hw hl
    go_wp2_with fail
    go_ret
    exact ⟨by rw [E.out]; rfl, by rw [E.out]; exact V3.out, Only.of_below B3.out⟩
theorem pAdd_nil (s : ByteArray) (ino : Int) (w : World) : Calls Try.prog 17 #[.pointer none, .string s, .int .u32 ino] w fun e w' => e = .returned (.int .i64 1) ∧ Below w.heap.size w w' := by
  go_enter Try.func17, Try.ntmps17
  go_wp2
  go_ret
  exact ⟨rfl, Below.refl _ _⟩
theorem free_slot {X : Blk} {i : Nat} (hr : Right X) (hi : i < 8) (h0 : (slotS X i).ino = 0) : ∀ k, k < 32 → X.f (32 * i + k) = 0 := fun k hk => by
  have := (hr.each i hi).so k hk
  rw [cutS_in hk] at this
  rw [this, show slotAt (cutS X i) = .free from (hr.ok hi).none h0, slotB_free]
set_option maxRecDepth 100000 in
set_option maxHeartbeats 4000000 in
theorem pAdd (b : Nat) (X : Blk) (s : ByteArray) (ino : Nat) (w : World) (hV : BVar w b X) (hino : ino < 4294967296) : Calls Try.prog 17 #[.pointer (some ⟨b, 0, none⟩), .string s, .int .u32 (ino : Int)] w fun e w' => e = .returned (.int .i64 (addD X s ino).2) ∧ BVar w' b (addD X s ino).1 ∧ Only b w w' := by
  have CL := Lib.hid (pSlotsOf b X w hV)
  have V := Lib.hid hV
  clear hV
  by_cases hr : Right X
  rotate_left
  · have HR := Lib.hid hr
    have E := Lib.hid (add_not (s := s) (ino := ino) hr)
    clear hr
    go_enter Try.func17, Try.ntmps17
    go_wp2_with (go_at_call 27; with_reducible refine (CL.out).mono ?_; rintro e w2 ⟨hl, hb⟩; obtain rfl : e = .returned (.tuple #[.slice none 0 0, .bool false]) := hl.no HR.out; clear hl)
    go_ret
    exact ⟨by rw [E.out]; rfl, by rw [E.out]; exact V.out.below hb, Only.of_below hb⟩
  have HR := Lib.hid hr
  clear hr
  have CM := Lib.hid fun W => pMayN s W
  go_enter Try.func17, Try.ntmps17
  go_upto_region 6 with (go_at_call 27; with_reducible refine (CL.out).mono ?_; rintro e w2 ⟨hl, hb⟩; obtain ⟨A, c, rfl, hs⟩ : ∃ A c, e = .returned (.tuple #[.slice A 8 c, .bool true]) ∧ SRow w2 A 8 (slotS X) := hl.yes HR.out; clear hl)
  have B2 := Lib.hid hb
  have CK := Lib.hid (pLook A 8 c (slotS X) s w2 (by omega) hs)
  clear hb hs CL
  go_upto_region 7 with (go_at_call 28; with_reducible refine (CK.out).mono ?_; rintro e w3 ⟨⟨hs, fr, rfl, hl⟩, hb⟩)
  have B3 := Lib.hid (low_go B2.out hb)
  have V3 := Lib.hid (V.out.below B3.out)
  clear hb CK B2 V
  obtain ⟨may, hmay⟩ : ∃ may, decide (MayN s) = may := ⟨_, rfl⟩
  rw [hmay] at CM
  rcases may with _ | _
  · have E := Lib.hid (add_arg (ino := ino) HR.out (.inl (of_decide_eq_false hmay)))
    clear hmay hl
    go_wp2_with (go_at_call 15; with_reducible refine (CM.out _).mono ?_; rintro e w4 ⟨rfl, rfl⟩)
    go_ret
    exact ⟨by rw [E.out]; rfl, by rw [E.out]; exact V3.out, Only.of_below B3.out⟩
  have HM := Lib.hid (of_decide_eq_true hmay)
  clear hmay
  by_cases h0 : ino = 0
  · have E := Lib.hid (add_arg (s := s) (ino := ino) HR.out (.inr (.inl h0)))
    have E2 : Hid (addD X s 0 = (X, 2)) := Lib.hid (by have := E.out; rwa [h0] at this)
    subst h0
    clear hl E
    go_wp2_with (go_at_call 15; with_reducible refine (CM.out _).mono ?_; rintro e w4 ⟨rfl, rfl⟩)
    go_ret
    exact ⟨by rw [E2.out]; rfl, by rw [E2.out]; exact V3.out, Only.of_below B3.out⟩
  have H0 := Lib.hid h0
  have t0 : (((ino : Nat) : Int) == 0) = false := by rw [beq_eq_false_iff_ne]; omega
  clear h0
  rcases look_none hl HR.out with ⟨k, hk, hw, rfl⟩ | ⟨rfl, hw, hf⟩
  · have E := Lib.hid (add_arg (s := s) (ino := ino) HR.out (.inr (.inr (by rw [hw]; rfl))))
    have t1 : decide ((0 : Int) ≤ (k : Int)) = true := by simp
    have t2 : (0 : Int) ≤ (k : Int) := by omega
    clear hl hw
    go_wp2_with (go_at_call 15; with_reducible refine (CM.out _).mono ?_; rintro e w4 ⟨rfl, rfl⟩)
    go_ret
    exact ⟨by rw [E.out]; rfl, by rw [E.out]; exact V3.out, Only.of_below B3.out⟩
  have NB : Hid (¬ (¬ MayN s ∨ ino = 0 ∨ (whereN X s).isSome = true)) := Lib.hid (by rw [hw]; rintro (q | q | q); exact q HM.out; exact H0.out q; cases q)
  clear hl hw
  rcases hf with ⟨k, hk, rfl, hf⟩ | ⟨rfl, hf⟩
  · have E := Lib.hid (add_yes HR.out NB.out hf)
    have CP := Lib.hid fun W => pPiece b k hk W
    have CF := Lib.hid (pFill b k s ino X w3 V3.out hk (free_slot HR.out hk (free_some.1 hf).2.1) HM.out H0.out hino)
    have t1 : decide ((k : Int) < 0) = false := by simp
    have t2 : (0 : Int) ≤ (k : Int) := by omega
    clear hf
    go_wp2_with (first
      | (go_at_call 15; with_reducible refine (CM.out _).mono ?_; rintro e w4 ⟨rfl, rfl⟩)
      | (go_at_call 31; with_reducible refine (CP.out _).mono ?_; rintro e w5 ⟨rfl, rfl⟩)
      | (go_at_call 30; with_reducible refine (CF.out).mono ?_; rintro e w6 ⟨rfl, hv, ho⟩))
    go_ret
    exact ⟨by rw [E.out]; rfl, by rw [E.out]; exact hv, (Only.of_below B3.out).trans ho⟩
  · have E := Lib.hid (add_full HR.out NB.out hf)
    clear hf
    go_wp2_with (go_at_call 15; with_reducible refine (CM.out _).mono ?_; rintro e w4 ⟨rfl, rfl⟩)
    go_ret
    exact ⟨by rw [E.out]; rfl, by rw [E.out]; exact V3.out, Only.of_below B3.out⟩
/-- What package slots says. -/
structure SlotsSays : Prop where
  may : ∀ (s : ByteArray) (w : World), Calls Try.prog 15 #[.string s] w fun e w' => e = .returned (.bool (decide (MayN s))) ∧ w' = w
  list : ∀ (X : Blk) (w : World), Calls Try.prog 11 #[.agg (arr X)] w fun e w' => ListedO X w.heap.size e w' ∧ Below w.heap.size w w'
  find : ∀ (X : Blk) (s : ByteArray) (w : World), Calls Try.prog 13 #[.agg (arr X), .string s] w fun e w' => e = .returned (.tuple #[.int .i64 (findD X s).1, .int .u32 (((findD X s).2 : Nat) : Int)]) ∧ Below w.heap.size w w'
  addNil : ∀ (s : ByteArray) (ino : Int) (w : World), Calls Try.prog 17 #[.pointer none, .string s, .int .u32 ino] w fun e w' => e = .returned (.int .i64 1) ∧ Below w.heap.size w w'
  add : ∀ (b : Nat) (X : Blk) (s : ByteArray) (ino : Nat) (w : World), BVar w b X → ino < 4294967296 → Calls Try.prog 17 #[.pointer (some ⟨b, 0, none⟩), .string s, .int .u32 (ino : Int)] w fun e w' => e = .returned (.int .i64 (addD X s ino).2) ∧ BVar w' b (addD X s ino).1 ∧ Only b w w'
  remNil : ∀ (s : ByteArray) (w : World), Calls Try.prog 19 #[.pointer none, .string s] w fun e w' => e = .returned (.bool false) ∧ Below w.heap.size w w'
  rem : ∀ (b : Nat) (X : Blk) (s : ByteArray) (w : World), BVar w b X → Calls Try.prog 19 #[.pointer (some ⟨b, 0, none⟩), .string s] w fun e w' => e = .returned (.bool (remD X s).2) ∧ BVar w' b (remD X s).1 ∧ Only b w w'
theorem pSlotsSays : SlotsSays := ⟨pMayN, pList, pFind, pAdd_nil, pAdd, pRemove_nil, pRemove⟩
end Go.Proofs.Ytinpdomcfijnmaa
