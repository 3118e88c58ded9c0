import Derived.Test.YtinpdomcfijnmaaSloP5
import Derived.Test.YtinpdomcfijnmaaSloQ6
import Derived.Lib.SliceRun
import Derived.Lib.LazyBuf
import Derived.Lib.SlBuf
namespace Go.Proofs.Ytinpdomcfijnmaa
open Go.RowKit

/-! The landed fill: a number put into a piece of a block; a name copied. -/
theorem blk_sets {b : Nat} : ∀ (l : List Nat) (_ : ∀ v ∈ l, v < 256) (o : Nat) (w : World) (X : Blk) (_ : BVar w b X), ∃ Y : Blk, BVar (w.setCells b o (l.map fun v => Value.int .u8 ((v : Nat) : Int))) b Y ∧ ∀ j, j < 256 → Y.f j = if o ≤ j ∧ j < o + l.length then l.getD (j - o) 0 else X.f j
  | [], _, o, w, X, h => ⟨X, h, fun j _ => (if_neg (fun q => by have := q.2; simp at this; omega)).symm⟩
  | v :: r, hl, o, w, X, h => by
    have hv : v < 256 := hl v (by simp)
    obtain ⟨Y, hY, e⟩ := blk_sets r (fun u hu => hl u (by simp [hu])) (o + 1) _ _ (blk_set h o v hv)
    refine ⟨Y, hY, fun j hj => ?_⟩
    rw [e j hj]
    unfold Blk.set
    rw [Blk.of_f hj]
    simp only [List.length_cons]
    by_cases q : j = o
    · subst q
      rw [if_neg (by omega), if_pos rfl, if_pos (by omega)]
      simp
    · by_cases u : o + 1 ≤ j ∧ j < o + 1 + r.length
      · rw [if_pos u, if_pos (by omega), show j - o = (j - (o + 1)) + 1 by omega]
        simp
      · rw [if_neg u, if_neg q, if_neg (by omega)]
theorem Only.setCells (w : World) (b o : Nat) (vs : List Value) : Only b w (w.setCells b o vs) :=
  ⟨(setCells_only b vs o w).1, (setCells_only b vs o w).2.1, (setCells_only b vs o w).2.2, Nat.le_of_eq (setCells_size b vs o w).symm, fun j _ hne => setCells_heap_ne b vs o w j (fun e => hne (by rw [e]))⟩
set_option maxHeartbeats 400000 in
theorem put32_o (g o c x : Nat) (f : Nat → Nat) (w : World) (hc : Cells8 w g o 32 f) (hv : x < 4294967296) :
    Calls Try.prog 40 #[.slice (some ⟨g, o, none⟩) 32 c, .int .i64 0, .int .u32 x] w fun e w' => e = .returned (.bool true) ∧ w' = set32 w g o x := by
  have c3 := hc.cell 3 (by omega)
  have c2 := hc.cell 2 (by omega)
  have c1 := hc.cell 1 (by omega)
  have c0 := hc.cell 0 (by omega)
  rw [Nat.add_zero] at c0
  have z3 := hc.frozen (o + 3)
  have z2 := hc.frozen (o + 2)
  have z1 := hc.frozen (o + 1)
  have z0 := hc.frozen o
  clear hc
  go_enter Try.func40, Try.ntmps40
  go_wp2_with (first | (go_at_call 42; refine (w32_any _).mono ?_; rintro e w' ⟨rfl, rfl⟩) | (go_at_call 43; refine (within_yes _ _ _ _ _ _ (by omega) (by omega) (by omega) (by omega) (by omega)).mono ?_; rintro e w' ⟨rfl, rfl⟩))
  refine wp_loop_rounds 5 ?_
  iterate 5 (rw [rounds_succ]; go_wp2)
  go_ret
  exact ⟨rfl, set32_end (by omega) (by omega) (by omega) (by omega)⟩
theorem Put32_o (g o c x : Nat) (f : Nat → Nat) (w : World) (hc : Cells8 w g o 32 f) (hv : x < 4294967296) :
    Calls Try.prog 36 #[.slice (some ⟨g, o, none⟩) 32 c, .int .i64 0, .int .u32 x] w fun e w' => e = .returned (.bool true) ∧ w' = set32 w g o x := by
  have H := Lib.hid hc
  clear hc
  go_enter Try.func36, Try.ntmps36
  go_wp2_with (go_at_call 40; refine (put32_o _ _ _ _ _ _ H.out hv).mono ?_; rintro e w' ⟨rfl, rfl⟩)
  go_ret
  exact ⟨rfl, rfl⟩
theorem p32_shift (f : Nat → Nat) (o v k : Nat) (hk : k < 4) : p32 f o v (o + k) = p32 (fun _ => 0) 0 v k := by
  match k, hk with
  | 0, _ => rw [Nat.add_zero, p32_0, p32_0]
  | 1, _ => rw [p32_1]; exact (p32_1 _ 0 v).symm
  | 2, _ => rw [p32_2]; exact (p32_2 _ 0 v).symm
  | 3, _ => rw [p32_3]; exact (p32_3 _ 0 v).symm
theorem BVar.cells_at {w : World} {b : Nat} {X : Blk} (h : BVar w b X) {i : Nat} (hi : i < 8) : Cells8 w b (32 * i) 32 (fun k => X.f (32 * i + k)) := ⟨_, _, h, fun k hk => arr_get (by omega)⟩
theorem BVar.frozen {w : World} {b : Nat} {X : Blk} (h : BVar w b X) (i : Nat) : w.frozen? ⟨b, i, none⟩ = false := by
  unfold BVar at h
  simp [World.frozen?, h]
theorem BVar.cell {w : World} {b : Nat} {X : Blk} (h : BVar w b X) {k : Nat} (hk : k < 256) : w.cell? ⟨b, k, none⟩ = some (.int .u8 ((X.f k : Nat) : Int)) := by
  have := h.at.cell hk
  rwa [Nat.zero_add] at this
set_option maxRecDepth 100000 in
set_option maxHeartbeats 4000000 in
theorem pFill (b i : Nat) (s : ByteArray) (ino : Nat) (X : Blk) (w : World) (hV : BVar w b X) (hi : i < 8) (hz : ∀ k, k < 32 → X.f (32 * i + k) = 0) (hm : MayN s) (h0 : ino ≠ 0) (h1 : ino < 4294967296) :
    Calls Try.prog 30 #[.slice (some ⟨b, 32 * i, none⟩) 32 32, .string s, .int .u32 ino] w fun e w' => e = .returned (.tuple #[]) ∧ BVar w' b (setS X i ⟨ino, s⟩) ∧ Only b w w' := by
  have CP := Lib.hid (Put32_o b (32 * i) 32 ino _ w (hV.cells_at hi) h1)
  obtain ⟨Y, hY⟩ : ∃ Y, putB32 X (32 * i) ino = Y := ⟨_, rfl⟩
  have V2 : Hid (BVar (set32 w b (32 * i) ino) b Y) := Lib.hid (by rw [← hY]; exact hV.set32 (by omega))
  have O2 := Lib.hid (Only.set32 w b (32 * i) ino)
  have n27 := hm.le
  have n1 := hm.pos
  have s256 : s.size < 256 := by omega
  obtain ⟨o, ho⟩ : ∃ o, 32 * i = o := ⟨_, rfl⟩
  rw [ho] at CP V2 O2 ⊢
  have ob : o + 32 ≤ 256 := by omega
  have END : Hid (∀ (w5 : World) (Y5 : Blk), BVar w5 b Y5 → (∀ j, j < 256 → Y5.f j = if o + 5 ≤ j ∧ j < o + 5 + s.size then nb s (j - (o + 5)) else if j = o + 4 then s.size else Y.f j) → BVar w5 b (setS X i ⟨ino, s⟩)) := Lib.hid fun w5 Y5 hB he => by
    have : setS X i ⟨ino, s⟩ = Y5 := Blk.same fun j hj => by
      rw [he j hj, ← hY]
      by_cases q : 32 * i ≤ j ∧ j < 32 * i + 32
      · rw [show j = 32 * i + (j - 32 * i) by omega, setS_in hi (by omega)]
        have hzz := hz (j - 32 * i) (by omega)
        unfold slotB
        rw [if_neg h0]
        by_cases q4 : j - 32 * i < 4
        · rw [if_pos q4, if_neg (by omega), if_neg (by omega)]
          rw [putB32_f (by omega)]
          exact (p32_shift X.f (32 * i) ino (j - 32 * i) q4).symm
        · rw [if_neg q4]
          by_cases q5 : j - 32 * i = 4
          · rw [if_pos q5, if_neg (by omega), if_pos (by omega)]
            show s.size % 256 = s.size
            omega
          · rw [if_neg q5]
            show nb s _ = _
            by_cases q6 : j - 32 * i - 5 < s.size
            · rw [if_pos (by omega)]
              congr 1; omega
            · rw [if_neg (by omega), if_neg (by omega), nb_past (by omega), putB32_off (by omega)]
              exact hzz.symm
      · rw [setS_off (by omega), if_neg (by omega), if_neg (by omega), putB32_off (by omega)]
    rw [this]; exact hB
  clear hV hz hm h0 hY
  go_enter Try.func30, Try.ntmps30
  go_upto_region 1 with (go_at_call 36; with_reducible refine (CP.out).mono ?_; rintro e w2 ⟨rfl, rfl⟩)
  clear CP
  generalize set32 w b o ino = w2 at V2 O2 ⊢
  have c4 := V2.out.cell (k := o + 4) (by omega)
  have z4 := V2.out.frozen (o + 4)
  have wn : IntKind.u8.wrap ((s.size : Nat) : Int) = ((s.size : Nat) : Int) := by rw [IntKind.wrap_u8]; omega
  have V3' := Lib.hid (blk_set V2.out (o + 4) s.size s256)
  have O3' := Lib.hid (O2.out.trans (Only.set w2 b (o + 4) (.int .u8 ((s.size : Nat) : Int))))
  go_upto_region 2 with fail
  have V3 : Hid (BVar (w2.setCell ⟨b, o + 4, none⟩ (.int .u8 ((s.size : Nat) : Int))) b (Y.set (o + 4) s.size s256)) := V3'
  have O3 : Hid (Only b w (w2.setCell ⟨b, o + 4, none⟩ (.int .u8 ((s.size : Nat) : Int)))) := O3'
  clear V3' O3' V2 O2 c4 z4 wn
  generalize w2.setCell ⟨b, o + 4, none⟩ (.int .u8 ((s.size : Nat) : Int)) = w3 at V3 O3 ⊢
  have hcp : ∀ ty, (Builtin.copy_ #[58, 9] ty #[.slice (some ⟨b, o + 5, none⟩) 27 27, .string s]).run Try.prog w3 = .ok (goInt s.size) (w3.setCells b (o + 5) (s.data.toList.map fun x => Value.int .u8 (x.toNat : Int))) :=
    fun ty => Go.run_copy_string w3 58 9 ty 5 b (o + 5) 27 27 s Try.underlying58 u8_size n27 (fun j hj => by rw [V3.out.cell (by omega)]; rfl) (fun j _ => V3.out.frozen _)
  go_wp2_with fail
  have e1 : (s.data.toList.map fun x => Value.int .u8 (x.toNat : Int)) = (s.data.toList.map UInt8.toNat).map fun v => Value.int .u8 ((v : Nat) : Int) := by rw [List.map_map]; rfl
  rw [e1]
  obtain ⟨Y5, h5, he⟩ := blk_sets (s.data.toList.map UInt8.toNat) (fun v hv => by obtain ⟨u, _, rfl⟩ := List.mem_map.1 hv; exact u.toNat_lt) (o + 5) w3 _ V3.out
  refine bodyPost_end (results_none rfl _ _ _) rfl ⟨rfl, END.out _ Y5 h5 fun j hj => ?_, O3.out.trans (Only.setCells w3 b (o + 5) _)⟩
  rw [he j hj, List.length_map, show s.data.toList.length = s.size from rfl]
  by_cases q : o + 5 ≤ j ∧ j < o + 5 + s.size
  · rw [if_pos q, if_pos q]
    unfold nb
    have hs : j - (o + 5) < s.data.toList.length := by show _ < s.size; omega
    rw [List.getD_eq_getElem?_getD, List.getElem?_map, List.getElem?_eq_getElem hs]
    simp [Array.getD]
    rw [dif_pos (show j - (o + 5) < s.size from by omega)]
  · rw [if_neg q, if_neg q]
    unfold Blk.set
    rw [Blk.of_f hj]
end Go.Proofs.Ytinpdomcfijnmaa
