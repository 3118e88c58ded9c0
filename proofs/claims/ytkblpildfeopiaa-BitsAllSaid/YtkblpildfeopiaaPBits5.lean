import Derived.Test.YtkblpildfeopiaaPBits4
import Derived.Lib.BitFns
namespace Go.Proofs.Ytkblpildfeopiaa
open Go.RowKit Go.Shelf Go.BigFrame
attribute [local go_sem] Oper.semAt_some

set_option maxRecDepth 100000 in
theorem tz_any (x : Int) (w : World) (h0 : 0 ≤ x) (h1 : x ≤ 255) : Calls Try.prog 27 #[.int .u8 x] w fun e w' => e = .returned (.int .i64 (Lib.trailingZeros8 x.toNat)) ∧ w' = w := by
  rw [← Lib.ntz8_int x h0 h1]
  go_enter Try.func27, Try.ntmps27
  go_wp2
  go_ret
  generalize Lib.ntz8 x = y
  refine ⟨?_, rfl⟩
  show Ending.returned (.int .i64 (wrap64 y)) = _
  congr 2
  all_goals (simp only [wrap64]; done)
theorem run_index_blk (X : Blk) {k : Nat} (h : k < 256) (w : World) : (Instr.index 23 (.agg (arr X)) (.int .i64 k)).run Try.prog w = .ok (.int .u8 (X.f k)) w := by
  have hk : (0 : Int) ≤ (k : Int) ∧ (k : Int) < ((256 : Nat) : Int) := by omega
  simp [Instr.index, run_underlying Try.underlying23, asIntOf, hk, arr_get h, go_sem]
  intro q; omega

/-! A byte whose lowest bits are gone. -/
def low (v j : Nat) : Nat := v / 2 ^ j * 2 ^ j
def tzN (v : Nat) : Nat := Lib.trailingZeros8 v
theorem low_all : ((List.range 256).all fun v => (List.range 9).all fun j => decide (low v j < 256) && (if low v j = 0 then (List.range 8).all fun i => i < j || v / 2 ^ i % 2 != 1 else decide (j ≤ tzN (low v j)) && decide (tzN (low v j) < 8) && (v / 2 ^ tzN (low v j) % 2 == 1) && ((List.range 8).all fun i => i < j || tzN (low v j) ≤ i || v / 2 ^ i % 2 != 1) && (bits BinOp.and IntKind.u8 ((low v j : Nat) : Int) (((low v j : Nat) : Int) - 1) == ((low v (tzN (low v j) + 1) : Nat) : Int)) && decide (low v (tzN (low v j) + 1) < low v j))) = true := by kernel_rfl
theorem low_lt {v j : Nat} (hv : v < 256) (hj : j ≤ 8) : low v j < 256 := by
  have h := List.all_eq_true.1 (List.all_eq_true.1 low_all v (List.mem_range.2 hv)) j (List.mem_range.2 (by omega))
  rw [Bool.and_eq_true] at h
  exact of_decide_eq_true h.1
theorem low_zero {v j : Nat} (hv : v < 256) (hj : j ≤ 8) (h0 : low v j = 0) : ∀ i, j ≤ i → i < 8 → (v / 2 ^ i % 2 == 1) = false := by
  have h := List.all_eq_true.1 (List.all_eq_true.1 low_all v (List.mem_range.2 hv)) j (List.mem_range.2 (by omega))
  rw [Bool.and_eq_true, if_pos h0] at h
  intro i h1 h2
  have := List.all_eq_true.1 h.2 i (List.mem_range.2 h2)
  simp at this
  rcases this with q | q
  · omega
  · simpa using q
theorem low_next {v j : Nat} (hv : v < 256) (hj : j ≤ 8) (h0 : low v j ≠ 0) : j ≤ tzN (low v j) ∧ tzN (low v j) < 8 ∧ (v / 2 ^ tzN (low v j) % 2 == 1) = true ∧ (∀ i, j ≤ i → i < tzN (low v j) → (v / 2 ^ i % 2 == 1) = false) ∧ bits BinOp.and IntKind.u8 ((low v j : Nat) : Int) (((low v j : Nat) : Int) - 1) = ((low v (tzN (low v j) + 1) : Nat) : Int) ∧ low v (tzN (low v j) + 1) < low v j := by
  have h := List.all_eq_true.1 (List.all_eq_true.1 low_all v (List.mem_range.2 hv)) j (List.mem_range.2 (by omega))
  rw [Bool.and_eq_true, if_neg h0] at h
  have h := h.2
  simp only [Bool.and_eq_true] at h
  obtain ⟨⟨⟨⟨⟨a1, a2⟩, a3⟩, a4⟩, a5⟩, a6⟩ := h
  refine ⟨of_decide_eq_true a1, of_decide_eq_true a2, a3, fun i h1 h2 => ?_, beq_iff_eq.1 a5, of_decide_eq_true a6⟩
  have := List.all_eq_true.1 a4 i (List.mem_range.2 (Nat.lt_trans h2 (of_decide_eq_true a2)))
  simp at this
  rcases this with (q | q) | q
  · omega
  · omega
  · simpa using q

theorem ones_yes {X : Blk} {k : Nat} (h : bit X k = true) : ones X (k + 1) = ones X k ++ [k] := by rw [ones, h]; rfl
theorem ones_no {X : Blk} {k : Nat} (h : bit X k = false) : ones X (k + 1) = ones X k := by rw [ones, h]; simp
theorem ones_skip {X : Blk} {a : Nat} : ∀ n, (∀ i, a ≤ i → i < a + n → bit X i = false) → ones X (a + n) = ones X a
  | 0, _ => rfl
  | n + 1, h => by rw [← Nat.add_assoc, ones_no (h _ (by omega) (by omega)), ones_skip n fun i h1 h2 => h i h1 (by omega)]
theorem ones_prefix (X : Blk) (j : Nat) : ∀ n, j ≤ n → ones X j <+: ones X n
  | 0, h => by obtain rfl : j = 0 := by omega
               exact List.prefix_refl _
  | n + 1, h => by
    rcases Nat.lt_or_ge n j with u | u
    · obtain rfl : j = n + 1 := by omega
      exact List.prefix_refl _
    · rw [ones]
      exact (ones_prefix X j n u).trans (List.prefix_append _ _)
theorem ones_take {X : Blk} {j : Nat} (h : j ≤ 2048) : ones X j = (allOnes X).take (ones X j).length := by
  unfold allOnes
  exact List.prefix_iff_eq_take.1 (ones_prefix X j 2048 h)
theorem ones_len_le {X : Blk} {j : Nat} (h : j ≤ 2048) : (ones X j).length ≤ (allOnes X).length := by
  unfold allOnes
  exact (ones_prefix X j 2048 h).length_le
theorem grown_of_below {W W' : World} (h : Below W.heap.size W W') : W.grownBy W' none := ⟨h.os, h.tape, h.output, h.size, fun i hi _ => h.block i hi⟩
theorem bit_at {X : Blk} {k i : Nat} (h : i < 8) : bit X (8 * k + i) = (X.f k / 2 ^ i % 2 == 1) := by
  unfold bit
  rw [show (8 * k + i) / 8 = k by omega, show (8 * k + i) % 8 = i by omega]

set_option maxRecDepth 100000 in
set_option maxHeartbeats 1000000 in
theorem pAll1_in (F : Fence) (m : Nat) (hF : ∀ f, F.fn f) (hro : F.round = none) (hm : 2 ≤ m) (lift : Lift F)
    (l Bs : Nat) (Kp : World → World → Prop) (X : Blk) (J Jx : List Nat → World → Prop) (W : World) (_hAb : AbidesFrom W.heap.size J) (hKr : Kp W W) (hKt : ∀ {A B C : World}, Kp A B → Kp B C → Kp A C) (_hKs : ∀ A B, Kp W A → Below A.heap.size A B → Kp A B)
    (hY : ∀ pre (x : Nat) W1, J pre W1 → pre.length < (allOnes X).length → YieldAt F (m - 1) Try.prog l #[.int .i64 ((nib x : Nat) : Int)] W1 fun e W' =>
      (e = .returned (.bool true) ∧ J (pre ++ [x]) W' ∧ Kp W1 W') ∨ (e = .returned (.bool false) ∧ Jx (pre ++ [x]) W'))
    (hBox : ∀ W', Kp W W' → Var W' Bs X) (h0 : J [] W) :
    CallsIn F m Try.prog 26 #[.func (.yield l) #[] #[], .pointer (some ⟨Bs, 0, none⟩)] W fun e W' => (∃ v, e = .returned v) ∧
      ((∃ ys, ys = allOnes X ∧ J ys W') ∨ (∃ pre, (∃ k, k ≤ (allOnes X).length ∧ pre = (allOnes X).take k) ∧ Jx pre W')) := by
  have HY := Lib.hid hY
  have HL := Lib.hid lift
  have VB := Lib.hid (hBox W hKr)
  clear hY lift hBox
  have hm1 : 1 ≤ m := by omega
  have hm3 : 1 ≤ m - 1 := by omega
  refine callsIn_of_wp Try.func26 rfl (hF _) ?_ hro
  simp only [Try.ntmps26, List.size_toArray, List.length_cons, List.length_nil, Nat.reduceAdd, Nat.reduceSub, Array.replicate_succ, Array.replicate_zero, List.push_toArray, List.append_toArray, List.nil_append, List.cons_append]
  gi_wp2_with (refine load_blk_in rfl (.tmp 1) rfl Bs 0 rfl X VB.out.at ?_)
  gi_loopw [6] (fun i wr => ∃ k : Nat, k ≤ 256 ∧ i = .int .i64 (k : Nat) ∧ Hid (J (ones X (8 * k)) wr) ∧ Hid (Kp W wr)) (fun i _ => 256 - (intOf i).toNat)
  case atStart => exact ⟨0, Nat.zero_le _, rfl, Lib.hid h0, Lib.hid hKr⟩
  case round =>
    obtain ⟨k, hk, rfl, hJs, hnx⟩ := hrel
    by_cases hlt : k < 256
    · have t1 : decide ((k : Int) < 256) = true := decide_eq_true (by omega)
      have hix := run_index_blk X hlt
      have hv := X.lt k
      have HBA : Hid (∀ i, i < 8 → bit X (8 * k + i) = (X.f k / 2 ^ i % 2 == 1)) := Lib.hid fun i hi => bit_at hi
      generalize X.f k = v at hv HBA hix
      gi_wp2
      gi_loopw [4] (fun i wr => ∃ j : Nat, j ≤ 8 ∧ i = .int .u8 (low v j : Nat) ∧ Hid (J (ones X (8 * k + j)) wr) ∧ Hid (Kp W wr)) (fun i _ => (intOf i).toNat)
      case atStart => exact ⟨0, Nat.zero_le _, by simp [low], hJs, hnx⟩
      case round =>
        obtain ⟨j, hj, rfl, hJi, hni⟩ := hrel
        have hlo := low_lt hv hj
        by_cases hz : low v j = 0
        · have HE : Hid (ones X (8 * (k + 1)) = ones X (8 * k + j)) := Lib.hid (by
            rw [show 8 * (k + 1) = 8 * k + j + (8 - j) by omega]
            refine ones_skip _ fun i h1 h2 => ?_
            have := HBA.out (i - 8 * k) (by omega)
            rw [show 8 * k + (i - 8 * k) = i by omega] at this
            rw [this]
            exact low_zero hv hj hz _ (by omega) (by omega))
          rw [hz]
          clear hlo hz
          gi_wp2
          refine ⟨⟨k + 1, by omega, by go_num, Lib.hid (by rw [HE.out]; exact hJi.out), hni⟩, ?_⟩
          simp [intOf]; omega
        · obtain ⟨n1, n2, n3, n4, n5, n6⟩ := low_next hv hj hz
          have ht : Lib.trailingZeros8 (low v j) = tzN (low v j) := rfl
          generalize tzN (low v j) = t at n1 n2 n3 n4 n5 n6 ht
          have HE : Hid (ones X (8 * k + (t + 1)) = ones X (8 * k + j) ++ [8 * k + t]) := Lib.hid (by
            rw [← Nat.add_assoc, ones_yes (by rw [HBA.out t n2]; exact n3), show 8 * k + t = 8 * k + j + (t - j) by omega, ones_skip]
            intro i h1 h2
            have := HBA.out (i - 8 * k) (by omega)
            rw [show 8 * k + (i - 8 * k) = i by omega] at this
            rw [this]
            exact n4 _ (by omega) (by omega))
          have HLT : Hid ((ones X (8 * k + j)).length < (allOnes X).length) := Lib.hid (by have := ones_len_le (X := X) (j := 8 * k + (t + 1)) (by omega); rw [HE.out, List.length_append] at this; simp at this; omega)
          have HYk := HY.out (ones X (8 * k + j)) (8 * k + t) wr hJi.out HLT.out
          rw [nib_of (by omega), show (((8 * k + t : Nat) : Nat) : Int) = 8 * (k : Int) + (t : Int) by omega] at HYk
          obtain ⟨fn, tmps, assign, body, hy, hR⟩ := HYk
          have CT : Hid (∀ W, Calls Try.prog 27 #[.int .u8 (low v j : Nat)] W fun e w' => e = .returned (.int .i64 (t : Nat)) ∧ w' = W) := Lib.hid fun W => (tz_any (low v j : Nat) W (by omega) (by omega)).mono fun e w' q => ⟨by rw [q.1, Int.toNat_natCast, ht], q.2⟩
          have N3 := Lib.hid n3
          have N4 := Lib.hid n4
          have N6 := Lib.hid n6
          have z1 : 1 ≤ low v j := by omega
          have tz0 : (((low v j : Nat) : Int) != 0) = true := by simp; omega
          clear n3 n4 n6 hz ht
          have HL1 : Hid (low v (t + 1) < 256) := Lib.hid (low_lt hv (by omega))
          have HLJ : Hid (∃ x, low v (t + 1) = x) := Lib.hid ⟨_, rfl⟩
          generalize low v j = lo at hlo n5 CT N6 z1 tz0 ⊢
          gi_wp2_with (gi_at_call 27; refine (HL.out _ _ _ _ _ (CT.out _)).mono ?_; rintro e w2 ⟨rfl, rfl⟩)
          refine hR.mono ?_
          rintro e W3 (⟨rfl, hJ3, hk3⟩ | ⟨rfl, hJx3⟩)
          · have J3 : Hid (J (ones X (8 * k + (t + 1))) W3) := Lib.hid (by rw [HE.out]; exact hJ3)
            have K3 := Lib.hid (hKt hni.out hk3)
            clear hJ3 hk3 hR
            gi_wp2
            refine ⟨⟨t + 1, by omega, by go_num, J3, K3⟩, ?_⟩
            have := N6.out
            simp [intOf]; omega
          · gi_wp2
            refine bodyPost_ret (results_none rfl _ _ _) rfl ?_
            exact ⟨⟨_, rfl⟩, .inr ⟨_, ⟨(ones X (8 * k + (t + 1))).length, ones_len_le (by omega), by rw [← HE.out]; exact ones_take (by omega)⟩, hJx3⟩⟩
    · obtain rfl : k = 256 := by omega
      gi_wp2
      refine bodyPost_end (results_none rfl _ _ _) rfl ?_
      exact ⟨⟨_, rfl⟩, .inl ⟨_, rfl, by unfold allOnes; exact hJs.out⟩⟩
end Go.Proofs.Ytkblpildfeopiaa
