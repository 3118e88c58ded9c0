import Derived.Test.YtamghbmeedbbgaaGeoP1
import Derived.Test.YtamghbmeedbbgaaPhase
import Derived.Deep.DeepCutAuto
import Derived.Deep.CutRange
namespace Go.Proofs.Ytamghbmeedbbgaa
open Go.RowKit Go.BigFrame

/-! The image's parts, one behind the other. -/
theorem partG_next (g : GeoV) (k : Nat) : (partG g k).first + (partG g k).cnt = (partG g (k + 1)).first := by
  match k with
  | 0 => rfl
  | 1 => rfl
  | 2 => show (2 : Int) + g.jr = 2 + g.jr + ((0 : Nat) : Int) * g.sz; simp
  | k + 3 =>
    show (inG g (k / 4) (k % 4)).first + (inG g (k / 4) (k % 4)).cnt = (inG g ((k + 1) / 4) ((k + 1) % 4)).first
    have h : k % 4 = 0 ∨ k % 4 = 1 ∨ k % 4 = 2 ∨ k % 4 = 3 := by omega
    rcases h with h | h | h | h
    · rw [h, show (k + 1) % 4 = 1 by omega, show (k + 1) / 4 = k / 4 by omega]; simp [inG]
    · rw [h, show (k + 1) % 4 = 2 by omega, show (k + 1) / 4 = k / 4 by omega]; simp [inG]; omega
    · rw [h, show (k + 1) % 4 = 3 by omega, show (k + 1) / 4 = k / 4 by omega]; simp [inG]; omega
    · rw [h, show (k + 1) % 4 = 0 by omega, show (k + 1) / 4 = k / 4 + 1 by omega]
      simp only [inG, baseG]
      rw [Int.natCast_add, Int.add_mul]
      omega
theorem partG_in (g : GeoV) (q : Nat) {i : Nat} (hi : i < 4) : partG g (3 + 4 * q + i) = inG g q i := by
  rw [show 3 + 4 * q + i = 4 * q + i + 3 by omega]
  show inG g ((4 * q + i) / 4) ((4 * q + i) % 4) = _
  rw [show (4 * q + i) / 4 = q by omega, show (4 * q + i) % 4 = i by omega]
theorem inG_first {g : GeoV} (hm : May g) {q : Nat} (hq : (q : Int) ≤ g.gr) : 0 ≤ baseG g q ∧ baseG g q ≤ 2048 ∧ 2 ≤ ownG g ∧ ownG g < g.sz ∧ g.sz ≤ 512 := by
  obtain ⟨m1, m2, m3, m4, m5, m6, m7, m8, m9, m10, m11⟩ := hm
  have h1 : 0 ≤ (q : Int) * g.sz := Int.mul_nonneg (by omega) (by omega)
  have h2 : (q : Int) * g.sz ≤ g.gr * g.sz := Int.mul_le_mul_of_nonneg_right hq (by omega)
  unfold baseG ownG
  omega
theorem partG_fits {g : GeoV} (hm : May g) {k : Nat} (hk : k ≤ numG g) : 0 ≤ (partG g k).kind ∧ (partG g k).kind ≤ 255 ∧ 0 ≤ (partG g k).first ∧ (partG g k).first ≤ 4096 ∧ 0 ≤ (partG g k).cnt ∧ (partG g k).cnt ≤ 4096 := by
  unfold numG at hk
  rw [if_pos hm] at hk
  have hm' := hm
  obtain ⟨m1, m2, m3, m4, m5, m6, m7, m8, m9, m10, m11⟩ := hm
  match k with
  | 0 => simp [partG]
  | 1 => simp [partG]
  | 2 => simp [partG]; omega
  | k + 3 =>
    have hq : ((k / 4 : Nat) : Int) ≤ g.gr := by omega
    have hf := inG_first hm' hq
    show 0 ≤ (inG g (k / 4) (k % 4)).kind ∧ (inG g (k / 4) (k % 4)).kind ≤ 255 ∧ 0 ≤ (inG g (k / 4) (k % 4)).first ∧ (inG g (k / 4) (k % 4)).first ≤ 4096 ∧ 0 ≤ (inG g (k / 4) (k % 4)).cnt ∧ (inG g (k / 4) (k % 4)).cnt ≤ 4096
    have h : k % 4 = 0 ∨ k % 4 = 1 ∨ k % 4 = 2 ∨ k % 4 = 3 := by omega
    rcases h with h | h | h | h <;> rw [h] <;> simp only [inG] <;> omega

/-- What holds ahead of part k. -/
structure ST (g : GeoV) (b0 b1 b2 l : Nat) (J : Nat → World → Prop) (k : Nat) (W : World) : Prop where
  j : J k W
  geo : GVar W b0 g
  box : Boxed W b1 3 (.int .i64 (partG g k).first)
  yld : Boxed W b2 50 (.func (.yield l) #[] #[])
theorem ST.below {g : GeoV} {b0 b1 b2 l s k : Nat} {J : Nat → World → Prop} {W W' : World} (h : ST g b0 b1 b2 l J k W) (hJ : Stays s J) (hs : s ≤ W.heap.size) (hb : Below W.heap.size W W') : ST g b0 b1 b2 l J k W' :=
  ⟨hJ _ _ _ h.j (hb.mono hs), h.geo.below hb, (hb.block _ h.box.lt).trans h.box, (hb.block _ h.yld.lt).trans h.yld⟩

theorem step_any {g : GeoV} {b0 b1 b2 l s m : Nat} {J Jx : Nat → World → Prop} (hm : May g) (hne : b1 ≠ b2) (h0 : b0 < s) (hb1 : s ≤ b1) (hb2 : s ≤ b2) (hJ : Stays s J)
    (hy : ∀ k W1, k < numG g → J k W1 → YieldAt Fence.wide m Try.prog l #[.agg (pcs (partG g k))] W1 fun e W' => (e = .returned (.bool true) ∧ J (k + 1) W' ∧ Kept b0 s W1 W') ∨ (e = .returned (.bool false) ∧ Jx k W'))
    (k : Nat) (hk : k < numG g) (p : PartV) (hp : partG g k = p) (W : World) (h : ST g b0 b1 b2 l J k W) :
    Calls Try.prog 35 #[.int .u8 p.kind, .int .i64 p.grp, .int .i64 p.plc, .int .i64 p.cnt, .pointer (some ⟨b1, 0, none⟩), .pointer (some ⟨b2, 0, none⟩)] W fun e W' =>
      (e = .returned (.bool true) ∧ ST g b0 b1 b2 l J (k + 1) W') ∨ (e = .returned (.bool false) ∧ Jx k W') := by
  subst hp
  obtain ⟨q1, q2, q3, q4, q5, q6⟩ := partG_fits hm (Nat.le_of_lt hk)
  refine callsIn_wide.1 (next_in Fence.wide 2 (fun _ => trivial) rfl (by omega) l b1 b2 (partG g k) W _ hne h.box h.yld ⟨q1, q2⟩ (by unfold I64; omega) (by unfold I64; omega) ?_ ?_)
  · intro W1 hb hg hx
    rw [partG_next] at hx
    have hJ1 : J k W1 := hJ _ _ _ h.j (hb.mono hb1)
    have hg1 : GVar W1 b0 g := (hb.block b0 (by omega)).trans h.geo
    have hy1 : Boxed W1 b2 50 (.func (.yield l) #[] #[]) := h.yld.kept hg (by simp; exact fun e => hne e.symm)
    refine (yieldAt_wide (m' := 2 - 1) (hy k W1 hk hJ1)).mono ?_
    rintro e W' (⟨rfl, hj, hkp⟩ | ⟨rfl, hj⟩)
    · exact .inl ⟨rfl, hj, hkp.same _ _ (.inl rfl) hg1, hkp.same _ _ (.inr hb1) hx, hkp.same _ _ (.inr hb2) hy1⟩
    · exact .inr ⟨rfl, hj⟩
  · rintro e W' (⟨rfl, _⟩ | ⟨rfl, _⟩)
    · exact ⟨true, rfl⟩
    · exact ⟨false, rfl⟩
end Go.Proofs.Ytamghbmeedbbgaa
