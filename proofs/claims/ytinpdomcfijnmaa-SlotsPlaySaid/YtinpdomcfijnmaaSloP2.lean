import Derived.Test.YtinpdomcfijnmaaSloP1
import Derived.Test.YtinpdomcfijnmaaSloQ4
import Derived.Test.YtinpdomcfijnmaaNums3
import Derived.Test.YtinpdomcfijnmaaPutW
namespace Go.Proofs.Ytinpdomcfijnmaa
open Go.RowKit

/-! The landed piece and told: a slot's bytes, cut out of the block; the slot that they tell. -/
theorem slice_piece (b i : Nat) (hi : i < 8) (w : World) : (Instr.sliceAt 23 (.pointer (some ⟨b, 0, none⟩)) (some (.int .i64 ((i : Int) * 32))) (some (.int .i64 (((i : Int) + 1) * 32))) (some (.int .i64 (((i : Int) + 1) * 32)))).run Try.prog w = .ok (.slice (some ⟨b, 32 * i, none⟩) 32 32) w := by
  have h := run_sliceAt_array_lhm (P := Try.prog) w 23 ⟨b, 0, none⟩ (by kernel_rfl) .i64 .i64 .i64 ((i : Int) * 32) (((i : Int) + 1) * 32) (((i : Int) + 1) * 32) (by omega) (by omega) (by omega) (by rw [show Try.prog.arrayLen 23 = 256 by kernel_rfl]; omega)
  obtain ⟨z, hz, hh⟩ := Option.map_eq_some_iff.1 u8_info
  simp only [Prod.mk.injEq] at hh
  rw [h, show Try.prog.elem 23 = 5 by kernel_rfl]
  have e1 : ((i : Int) * 32).toNat = 32 * i := by omega
  have e2 : (((i : Int) + 1) * 32).toNat = 32 * i + 32 := by omega
  have e4 : 32 * i + 32 - 32 * i = 32 := by omega
  simp [sizeOf, typeInfo, hz, hh, slicedAt, e1, e2, e4, Addr.add]
  try omega
set_option maxHeartbeats 1000000 in
theorem pPiece (b i : Nat) (hi : i < 8) (w : World) : Calls Try.prog 31 #[.pointer (some ⟨b, 0, none⟩), .int .i64 (i : Int)] w fun e w' => e = .returned (.slice (some ⟨b, 32 * i, none⟩) 32 32) ∧ w' = w := by
  have hs := fun W => slice_piece b i hi W
  have w1 : IntKind.i64.wrap ((i : Int) * 32) = (i : Int) * 32 := by rw [IntKind.wrap_i64]; omega
  have w2 : IntKind.i64.wrap ((i : Int) + 1) = (i : Int) + 1 := by rw [IntKind.wrap_i64]; omega
  have w3 : IntKind.i64.wrap (((i : Int) + 1) * 32) = ((i : Int) + 1) * 32 := by rw [IntKind.wrap_i64]; omega
  go_enter Try.func31, Try.ntmps31
  go_wp2
  go_ret
  exact ⟨rfl, rfl⟩
noncomputable instance (f : Nat → Nat) : Decidable (RightB f) := Classical.propDecidable _
/-- What told answers. -/
noncomputable def toldS (f : Nat → Nat) : SlotV := if RightB f then slotAt f else .free
theorem told_right {f : Nat → Nat} (h : RightB f) : toldS f = slotAt f := if_pos h
theorem told_wrong {f : Nat → Nat} (h : ¬ RightB f) : toldS f = .free := if_neg h
theorem right_all0 {f : Nat → Nat} (h : ∀ i, i < 32 → f i = 0) : RightB f ∧ slotAt f = .free := by
  have e : slotAt f = .free := slotAt_zero (by unfold g32; rw [h 0 (by omega), h 1 (by omega), h 2 (by omega), h 3 (by omega)])
  exact ⟨⟨by rw [e]; exact .free, fun k hk => by rw [e, slotB_free, h k hk]⟩, e⟩
theorem wrong_ino0 {f : Nat → Nat} {j : Nat} (hj : j < 32) (hn : f j ≠ 0) (h : g32 f 0 = 0) : ¬ RightB f := fun r => by
  have := r.so j hj
  rw [slotAt_zero h, slotB_free] at this
  exact hn this
theorem bytes32 {f : Nat → Nat} (hf : ∀ i, f i < 256) {k : Nat} (hk : k < 4) : p32 (fun _ => 0) 0 (g32 f 0) k = f k := by
  have h0 := hf 0
  have h1 := hf 1
  have h2 := hf 2
  have h3 := hf 3
  rw [p32_at]
  unfold g32
  simp only [Nat.zero_add]
  match k, hk with
  | 0, _ => simp; omega
  | 1, _ => simp; omega
  | 2, _ => simp; omega
  | 3, _ => simp; omega
theorem right_some {f : Nat → Nat} {ino : Nat} (hf : ∀ i, f i < 256) (h : g32 f 0 = ino) (h0 : ino ≠ 0) (h27 : f 4 ≤ 27) (hm : MayN (nameOf (fun k => f (5 + k)) (f 4))) : RightB f ↔ ∀ k, k < 27 - f 4 → f (5 + f 4 + k) = 0 := by
  have hlt : ino < 4294967296 := by rw [← h]; exact g32_lt hf 0
  have e := slotAt_some h h0
  constructor
  · intro r k hk
    have := r.so (5 + f 4 + k) (by omega)
    rw [this, e]
    unfold slotB
    rw [if_neg h0, if_neg (by omega), if_neg (by omega)]
    exact nb_past (by show (nameOf _ _).size ≤ _; rw [nameOf_size]; omega)
  · intro hz
    refine ⟨by rw [e]; exact may_ok hm h0 hlt, fun k hk => ?_⟩
    rw [e]
    unfold slotB
    rw [if_neg h0]
    split
    · rename_i q
      rw [← h]
      exact (bytes32 hf q).symm
    · split
      · rename_i q
        subst q
        show f 4 = (nameOf _ _).size % 256
        rw [nameOf_size]; omega
      · show f k = nb (nameOf _ _) (k - 5)
        by_cases q : k - 5 < f 4
        · rw [nb_nameOf (fun _ => hf _) q]
          show f k = f (5 + (k - 5))
          rw [show 5 + (k - 5) = k by omega]
        · rw [nb_past (by rw [nameOf_size]; omega)]
          have := hz (k - 5 - f 4) (by omega)
          rwa [show 5 + f 4 + (k - 5 - f 4) = k by omega] at this
end Go.Proofs.Ytinpdomcfijnmaa
