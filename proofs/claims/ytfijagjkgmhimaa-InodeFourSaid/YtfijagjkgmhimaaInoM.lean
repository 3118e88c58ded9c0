import Derived.Test.YtfijagjkgmhimaaPutB
namespace Go.Proofs.Ytfijagjkgmhimaa
open Go.RowKit

/-! Inodes told plainly: what they hold, whether they may be, their 64 bytes, put and got. -/
structure Ptrs where
  f : Nat → Nat
  lt : ∀ i, f i < 4294967296
  past : ∀ i, 11 ≤ i → f i = 0
theorem Ptrs.same {x y : Ptrs} (h : ∀ i, i < 11 → x.f i = y.f i) : x = y := by
  obtain ⟨f, hf, h0⟩ := x
  obtain ⟨g, hg, g0⟩ := y
  have e : f = g := by
    funext i
    by_cases hi : i < 11
    · exact h i hi
    · rw [h0 i (by omega), g0 i (by omega)]
  subst e; rfl
def Ptrs.of (f : Nat → Nat) (h : ∀ i, f i < 4294967296) : Ptrs := ⟨fun i => if i < 11 then f i else 0, fun i => by by_cases hi : i < 11 <;> simp [hi, h], fun i hi => if_neg (by omega)⟩
theorem Ptrs.of_f {f : Nat → Nat} {h : ∀ i, f i < 4294967296} {i : Nat} (hi : i < 11) : (Ptrs.of f h).f i = f i := if_pos hi
def Ptrs.zero : Ptrs := ⟨fun _ => 0, fun _ => by omega, fun _ _ => rfl⟩
def Ptrs.set (x : Ptrs) (k v : Nat) (hv : v < 4294967296) : Ptrs := .of (fun i => if i = k then v else x.f i) fun i => by split; exact hv; exact x.lt i
noncomputable instance : DecidableEq Ptrs := fun x y => Classical.propDecidable (x = y)

structure InoV where
  kd : Nat
  ln : Int
  gen : Nat
  sz : Int
  p : Ptrs
  nx : Nat
noncomputable instance : DecidableEq InoV := fun x y => Classical.propDecidable (x = y)
def InoV.zero : InoV := ⟨0, 0, 0, 0, .zero, 0⟩
structure InoV.Fits (x : InoV) : Prop where
  kd : x.kd < 256
  ln : -9223372036854775808 ≤ x.ln ∧ x.ln ≤ 9223372036854775807
  gen : x.gen < 4294967296
  sz : -9223372036854775808 ≤ x.sz ∧ x.sz ≤ 9223372036854775807
  nx : x.nx < 4294967296
theorem InoV.zero_fits : InoV.zero.Fits := ⟨by decide, by decide, by decide, by decide, by decide⟩
theorem InoV.eq_iff (a b : InoV) : a = b ↔ a.kd = b.kd ∧ a.ln = b.ln ∧ a.gen = b.gen ∧ a.sz = b.sz ∧ a.p = b.p ∧ a.nx = b.nx := by
  cases a; cases b; simp

/-- An inode may be. -/
def MayI (x : InoV) : Prop :=
  (x.kd = 0 ∧ x.ln = 0 ∧ x.sz = 0 ∧ x.p = .zero ∧ x.nx = 0) ∨
  (x.kd = 1 ∧ 0 ≤ x.ln ∧ x.ln ≤ 1000 ∧ 0 ≤ x.sz ∧ x.sz ≤ 16777216) ∨
  (x.kd = 2 ∧ x.ln = 1 ∧ 0 ≤ x.sz ∧ x.sz ≤ 16777216 ∧ x.sz % 256 = 0 ∧ x.nx = 0)
noncomputable instance (x : InoV) : Decidable (MayI x) := Classical.propDecidable _
theorem MayI.small {x : InoV} (h : MayI x) : 0 ≤ x.ln ∧ x.ln ≤ 1000 ∧ 0 ≤ x.sz ∧ x.sz ≤ 16777216 := by
  rcases h with ⟨_, h1, h2, _, _⟩ | ⟨_, h1, h2, h3, h4⟩ | ⟨_, h1, h2, h3, _, _⟩ <;> omega
theorem may_zero (gen : Nat) : MayI ⟨0, 0, gen, 0, .zero, 0⟩ := .inl ⟨rfl, rfl, rfl, rfl, rfl⟩
def PlaceI (at_ : Int) : Prop := at_ = 0 ∨ at_ = 64 ∨ at_ = 128 ∨ at_ = 192
instance (at_ : Int) : Decidable (PlaceI at_) := by unfold PlaceI; exact inferInstance
theorem PlaceI.nat {at_ : Int} (h : PlaceI at_) : ∃ a : Nat, at_ = (a : Int) ∧ (a = 0 ∨ a = 64 ∨ a = 128 ∨ a = 192) := by
  rcases h with rfl | rfl | rfl | rfl
  · exact ⟨0, rfl, .inl rfl⟩
  · exact ⟨64, rfl, .inr (.inl rfl)⟩
  · exact ⟨128, rfl, .inr (.inr (.inl rfl))⟩
  · exact ⟨192, rfl, .inr (.inr (.inr rfl))⟩

/-! The bytes: sixteen numbers, the k-th one at atI k. -/
def valI (x : InoV) (k : Nat) : Nat := if k = 0 then x.kd else if k = 1 then x.ln.toNat else if k = 2 then x.gen else if k = 3 then x.sz.toNat else if k = 15 then x.nx else x.p.f (k - 4)
/-- The bytes when k numbers are put (those from 2 on have four bytes, at 4 k - 4). -/
def imgK (x : InoV) : Nat → Nat → Nat
  | 0 => fun _ => 0
  | 1 => upd (fun _ => 0) 0 x.kd
  | 2 => p16 (imgK x 1) 2 x.ln.toNat
  | k + 3 => p32 (imgK x (k + 2)) (4 * k + 4) (valI x (k + 2))
theorem imgK_lt {x : InoV} (h : x.kd < 256) : ∀ k i, imgK x k i < 256
  | 0, _ => by unfold imgK; omega
  | 1, i => by unfold imgK; exact upd_lt (fun _ => by omega) 0 _ h i
  | 2, i => by unfold imgK; exact p16_lt (imgK_lt h 1) 2 _ i
  | k + 3, i => by unfold imgK; exact p32_lt (imgK_lt h (k + 2)) _ _ i
/-- What bytes read as. -/
structure IsI (f : Nat → Nat) (x : InoV) : Prop where
  kd : f 0 = x.kd
  n1 : f 1 = 0
  ln : ((g16 f 2 : Nat) : Int) = x.ln
  gen : g32 f 4 = x.gen
  sz : ((g32 f 8 : Nat) : Int) = x.sz
  p : ∀ i, i < 11 → g32 f (12 + 4 * i) = x.p.f i
  nx : g32 f 56 = x.nx
  n2 : ∀ i, 60 ≤ i → i < 64 → f i = 0
theorem imgK_past (x : InoV) : ∀ k i, 4 * k ≤ i + 4 → 4 ≤ i → imgK x k i = 0
  | 0, i, _, _ => rfl
  | 1, i, h, _ => by unfold imgK upd; rw [if_neg (by omega)]
  | 2, i, h, _ => by unfold imgK; rw [p16_off _ _ _ _ (by omega)]; exact imgK_past x 1 i (by omega) (by omega)
  | k + 3, i, h, h4 => by unfold imgK; rw [p32_off _ _ _ _ (by omega)]; exact imgK_past x (k + 2) i (by omega) h4
theorem imgK_head (x : InoV) : ∀ k i, i < 4 → imgK x (k + 2) i = imgK x 2 i
  | 0, i, _ => rfl
  | k + 1, i, h => by
    show p32 (imgK x (k + 2)) (4 * k + 4) (valI x (k + 2)) i = _
    rw [p32_off _ _ _ _ (by omega)]; exact imgK_head x k i h
theorem imgK_at (x : InoV) (j : Nat) : ∀ k, j < k → ∀ i, 4 * j + 4 ≤ i → i < 4 * j + 8 → imgK x (k + 2) i = imgK x (j + 3) i
  | 0, h, _, _, _ => absurd h (by omega)
  | k + 1, h, i, h1, h2 => by
    rcases Nat.lt_or_ge j k with q | q
    · show p32 (imgK x (k + 2)) (4 * k + 4) (valI x (k + 2)) i = _
      rw [p32_off _ _ _ _ (by omega)]; exact imgK_at x j k q i h1 h2
    · obtain rfl : j = k := by omega
      rfl
theorem g16_of_eq {f h : Nat → Nat} {a : Nat} (e : ∀ i, a ≤ i → i < a + 2 → f i = h i) : g16 f a = g16 h a := g16_congr e
theorem imgK_num (x : InoV) (j : Nat) (hj : j < 14) (hv : valI x (j + 2) < 4294967296) : g32 (imgK x 16) (4 * j + 4) = valI x (j + 2) := by
  rw [g32_congr (h := imgK x (j + 3)) (fun i h1 h2 => imgK_at x j 14 hj i h1 (by omega)), imgK, g32_p32 _ _ _ hv]
theorem g16_p16 (f : Nat → Nat) (a v : Nat) (hv : v < 65536) : g16 (p16 f a v) a = v := by
  unfold g16; rw [p16_at, p16_at, if_neg (by omega), if_pos rfl, if_pos rfl]; omega
/-- An inode's bytes. -/
def imgI (x : InoV) : Nat → Nat := imgK x 16
theorem imgI_lt {x : InoV} (h : x.kd < 256) (i : Nat) : imgI x i < 256 := imgK_lt h 16 i
theorem imgI_is {x : InoV} (hf : x.Fits) (hm : MayI x) : IsI (imgI x) x := by
  obtain ⟨h1, h2, h3, h4⟩ := hm.small
  unfold imgI
  have e0 : imgK x 16 0 = imgK x 2 0 := imgK_head x 14 0 (by omega)
  have e1 : imgK x 16 1 = imgK x 2 1 := imgK_head x 14 1 (by omega)
  refine ⟨?_, ?_, ?_, ?_, ?_, fun i hi => ?_, ?_, fun i i1 i2 => imgK_past x 16 i (by omega) (by omega)⟩
  · rw [e0, imgK, p16_off _ _ _ _ (by omega)]; rfl
  · rw [e1, imgK, p16_off _ _ _ _ (by omega)]; rfl
  · rw [g16_congr (h := imgK x 2) (fun i _ hi => imgK_head x 14 i (by omega)), imgK, g16_p16 _ _ _ (by omega)]; omega
  · exact imgK_num x 0 (by omega) hf.gen
  · have e := imgK_num x 1 (by omega) (show valI x 3 < _ by show x.sz.toNat < _; omega)
    rw [show 4 * 1 + 4 = 8 from rfl] at e
    rw [e]; show ((x.sz.toNat : Nat) : Int) = _; omega
  · have hv : valI x (i + 2 + 2) = x.p.f i := by
      unfold valI
      rw [if_neg (by omega), if_neg (by omega), if_neg (by omega), if_neg (by omega), if_neg (by omega), show i + 2 + 2 - 4 = i by omega]
    have e := imgK_num x (i + 2) (by omega) (by rw [hv]; exact x.p.lt i)
    rw [hv, show 4 * (i + 2) + 4 = 12 + 4 * i by omega] at e
    exact e
  · exact imgK_num x 13 (by omega) hf.nx
theorem same16f {f g : Nat → Nat} (hf : ∀ i, f i < 256) (hg : ∀ i, g i < 256) {a : Nat} (h : g16 f a = g16 g a) : f a = g a ∧ f (a + 1) = g (a + 1) := by
  unfold g16 at h
  have := hf a; have := hg a; have := hf (a + 1); have := hg (a + 1)
  omega
theorem same32f {f g : Nat → Nat} (hf : ∀ i, f i < 256) (hg : ∀ i, g i < 256) {a : Nat} (h : g32 f a = g32 g a) : f a = g a ∧ f (a + 1) = g (a + 1) ∧ f (a + 2) = g (a + 2) ∧ f (a + 3) = g (a + 3) := by
  unfold g32 at h
  have := hf a; have := hg a; have := hf (a + 1); have := hg (a + 1)
  have := hf (a + 2); have := hg (a + 2); have := hf (a + 3); have := hg (a + 3)
  omega
theorem four {P : Nat → Prop} {a i : Nat} (h : P a ∧ P (a + 1) ∧ P (a + 2) ∧ P (a + 3)) (h1 : a ≤ i) (h2 : i < a + 4) : P i := by
  obtain ⟨h0, h1', h2', h3'⟩ := h
  obtain rfl | rfl | rfl | rfl : i = a ∨ i = a + 1 ∨ i = a + 2 ∨ i = a + 3 := by omega
  · exact h0
  · exact h1'
  · exact h2'
  · exact h3'
theorem IsI.bytes {f g : Nat → Nat} (hf : ∀ i, f i < 256) (hg : ∀ i, g i < 256) {x : InoV} (h : IsI f x) (k : IsI g x) (i : Nat) (hi : i < 64) : f i = g i := by
  obtain ⟨a0, a1⟩ := same16f hf hg (a := 2) (by have := h.ln; have := k.ln; omega)
  have b := same32f hf hg (a := 4) (h.gen.trans k.gen.symm)
  have c := same32f hf hg (a := 8) (by have := h.sz; have := k.sz; omega)
  have d := same32f hf hg (a := 56) (h.nx.trans k.nx.symm)
  rcases Nat.lt_or_ge i 4 with q | q
  · obtain rfl | rfl | rfl | rfl : i = 0 ∨ i = 1 ∨ i = 2 ∨ i = 3 := by omega
    · rw [h.kd, k.kd]
    · rw [h.n1, k.n1]
    · exact a0
    · exact a1
  · rcases Nat.lt_or_ge i 8 with q1 | q1
    · exact four (P := fun i => f i = g i) b q q1
    · rcases Nat.lt_or_ge i 12 with q2 | q2
      · exact four (P := fun i => f i = g i) c q1 q2
      · rcases Nat.lt_or_ge i 56 with q3 | q3
        · have e := same32f hf hg (a := 12 + 4 * ((i - 12) / 4)) ((h.p _ (by omega)).trans (k.p _ (by omega)).symm)
          exact four (P := fun i => f i = g i) e (by omega) (by omega)
        · rcases Nat.lt_or_ge i 60 with q4 | q4
          · exact four (P := fun i => f i = g i) d q3 q4
          · rw [h.n2 i q4 hi, k.n2 i q4 hi]
theorem IsI.ino {f : Nat → Nat} {x y : InoV} (h : IsI f x) (k : IsI f y) : x = y := by
  obtain ⟨a, b, c, d, e, g⟩ := x
  obtain ⟨a', b', c', d', e', g'⟩ := y
  obtain rfl : a = a' := h.kd.symm.trans k.kd
  obtain rfl : b = b' := h.ln.symm.trans k.ln
  obtain rfl : c = c' := h.gen.symm.trans k.gen
  obtain rfl : d = d' := h.sz.symm.trans k.sz
  obtain rfl : g = g' := h.nx.symm.trans k.nx
  obtain rfl : e = e' := Ptrs.same fun i hi => (h.p i hi).symm.trans (k.p i hi)
  rfl
theorem IsI.congr {f g : Nat → Nat} {x : InoV} (h : IsI f x) (e : ∀ i, i < 64 → f i = g i) : IsI g x :=
  ⟨by rw [← e 0 (by omega)]; exact h.kd, by rw [← e 1 (by omega)]; exact h.n1, by rw [← g16_congr (fun i _ hi => e i (by omega))]; exact h.ln, by rw [← g32_congr (fun i _ hi => e i (by omega))]; exact h.gen,
    by rw [← g32_congr (fun i _ hi => e i (by omega))]; exact h.sz, fun i hi => by rw [← g32_congr (fun j _ hj => e j (by omega))]; exact h.p i hi, by rw [← g32_congr (fun i _ hi => e i (by omega))]; exact h.nx,
    fun i h1 h2 => by rw [← e i h2]; exact h.n2 i h1 h2⟩
/-- What 64 bytes tell, whether it may be or not. -/
def toldF (f : Nat → Nat) (hf : ∀ i, f i < 256) : InoV := ⟨f 0, (g16 f 2 : Nat), g32 f 4, (g32 f 8 : Nat), .of (fun i => g32 f (12 + 4 * i)) fun _ => g32_lt hf _, g32 f 56⟩
def NoughtsF (f : Nat → Nat) : Prop := f 1 = 0 ∧ ∀ i, 60 ≤ i → i < 64 → f i = 0
theorem toldF_fits {f : Nat → Nat} (hf : ∀ i, f i < 256) : (toldF f hf).Fits := by
  have h2 := g16_lt hf 2; have h4 := g32_lt hf 4; have h8 := g32_lt hf 8; have h56 := g32_lt hf 56
  refine ⟨hf 0, ?_, h4, ?_, h56⟩ <;> (unfold toldF; simp only; omega)
theorem toldF_is {f : Nat → Nat} {hf : ∀ i, f i < 256} (h : NoughtsF f) : IsI f (toldF f hf) :=
  ⟨rfl, h.1, rfl, rfl, rfl, fun i hi => by unfold toldF; simp only; rw [Ptrs.of_f hi], rfl, h.2⟩
theorem IsI.told {f : Nat → Nat} {hf : ∀ i, f i < 256} {x : InoV} (h : IsI f x) : toldF f hf = x := (toldF_is ⟨h.n1, h.n2⟩).ino h
theorem IsI.noughts {f : Nat → Nat} {x : InoV} (h : IsI f x) : NoughtsF f := ⟨h.n1, h.n2⟩
/-- Written again, what bytes tell is just these bytes, if the noughts are noughts. -/
theorem again_iff {f : Nat → Nat} {hf : ∀ i, f i < 256} (hm : MayI (toldF f hf)) : (∀ i, i < 64 → imgI (toldF f hf) i = f i) ↔ NoughtsF f := by
  have hi := imgI_is (toldF_fits hf) hm
  constructor
  · intro e; exact (hi.congr e).noughts
  · intro h i hlt
    exact hi.bytes (imgI_lt (hf 0)) hf (toldF_is h) i hlt

/-! Blocks. -/
def cutB (X : Blk) (a : Nat) : Nat → Nat := fun i => X.f (a + i)
theorem cutB_lt (X : Blk) (a : Nat) (i : Nat) : cutB X a i < 256 := X.lt _
@[irreducible] def putIB (X : Blk) (a : Nat) (x : InoV) (hx : x.kd < 256) : Blk := .of (fun i => if a ≤ i ∧ i < a + 64 then imgI x (i - a) else X.f i) fun i _ => by
  split
  · exact imgI_lt hx _
  · exact X.lt i
theorem putIB_in {X : Blk} {a : Nat} {x : InoV} {hx : x.kd < 256} {i : Nat} (ha : a + 64 ≤ 256) (hi : i < 64) : (putIB X a x hx).f (a + i) = imgI x i := by
  unfold putIB
  rw [Blk.of_f (by omega), if_pos (by omega), show a + i - a = i by omega]
theorem putIB_off {X : Blk} {a : Nat} {x : InoV} {hx : x.kd < 256} {i : Nat} (hi : i < a ∨ a + 64 ≤ i) : (putIB X a x hx).f i = X.f i := by
  unfold putIB
  by_cases h : i < 256
  · rw [Blk.of_f h, if_neg (by omega)]
  · rw [Blk.past _ i (by omega), Blk.past _ i (by omega)]
theorem putIB_is {X : Blk} {a : Nat} {x : InoV} (hf : x.Fits) (hm : MayI x) (ha : a + 64 ≤ 256) : IsI (cutB (putIB X a x hf.kd) a) x := (imgI_is hf hm).congr fun _ hi => (putIB_in ha hi).symm
def toldB (X : Blk) (a : Nat) : InoV := toldF (cutB X a) (cutB_lt X a)
open Classical in
/-- What Put answers: the block behind it, and the error. -/
@[irreducible] noncomputable def putI (X : Blk) (at_ : Int) (x : InoV) : Blk × Int := if ¬ PlaceI at_ then (X, 2) else if h : x.kd < 256 ∧ MayI x then (putIB X at_.toNat x h.1, 0) else (X, 70)
open Classical in
/-- What Get answers. -/
@[irreducible] noncomputable def getI (X : Blk) (at_ : Int) : InoV × Int := if ¬ PlaceI at_ then (.zero, 2) else if NoughtsF (cutB X at_.toNat) ∧ MayI (toldB X at_.toNat) then (toldB X at_.toNat, 0) else (.zero, 70)
theorem putI_place {X : Blk} {at_ : Int} {x : InoV} (h : ¬ PlaceI at_) : putI X at_ x = (X, 2) := by unfold putI; rw [if_pos h]
theorem putI_may {X : Blk} {at_ : Int} {x : InoV} (h : PlaceI at_) (hk : x.kd < 256) (hm : MayI x) : putI X at_ x = (putIB X at_.toNat x hk, 0) := by unfold putI; rw [if_neg (fun q => q h), dif_pos ⟨hk, hm⟩]
theorem putI_not {X : Blk} {at_ : Int} {x : InoV} (h : PlaceI at_) (hm : ¬ MayI x) : putI X at_ x = (X, 70) := by unfold putI; rw [if_neg (fun q => q h), dif_neg (fun q => hm q.2)]
theorem getI_place {X : Blk} {at_ : Int} (h : ¬ PlaceI at_) : getI X at_ = (.zero, 2) := by unfold getI; rw [if_pos h]
theorem getI_yes {X : Blk} {at_ : Int} (h : PlaceI at_) (h1 : NoughtsF (cutB X at_.toNat)) (h2 : MayI (toldB X at_.toNat)) : getI X at_ = (toldB X at_.toNat, 0) := by unfold getI; rw [if_neg (fun q => q h), if_pos ⟨h1, h2⟩]
theorem getI_no {X : Blk} {at_ : Int} (h : PlaceI at_) (h1 : ¬ (NoughtsF (cutB X at_.toNat) ∧ MayI (toldB X at_.toNat))) : getI X at_ = (.zero, 70) := by unfold getI; rw [if_neg (fun q => q h), if_neg h1]
theorem getI_fits (X : Blk) (at_ : Int) : (getI X at_).1.Fits := by
  unfold getI
  split
  · exact InoV.zero_fits
  · split
    · exact toldF_fits (cutB_lt X _)
    · exact InoV.zero_fits
theorem PlaceI.room {at_ : Int} (h : PlaceI at_) : at_.toNat + 64 ≤ 256 := by rcases h with rfl | rfl | rfl | rfl <;> decide
theorem putI_ok {X : Blk} {at_ : Int} {x : InoV} (h : (putI X at_ x).2 = 0) : PlaceI at_ ∧ MayI x := by
  unfold putI at h
  split at h
  · exact absurd (show (2 : Int) = 0 from h) (by decide)
  · rename_i h1
    split at h
    · rename_i h2; exact ⟨Classical.not_not.1 h1, h2.2⟩
    · exact absurd (show (70 : Int) = 0 from h) (by decide)
theorem putI_kept {X : Blk} {at_ : Int} {x : InoV} (h : (putI X at_ x).2 ≠ 0) : (putI X at_ x).1 = X := by
  unfold putI at h ⊢
  split
  · rfl
  · rename_i h1
    rw [if_neg h1] at h
    split
    · rename_i h2
      rw [dif_pos h2] at h
      exact absurd rfl h
    · rfl
theorem getI_ok {X : Blk} {at_ : Int} (h : (getI X at_).2 = 0) : PlaceI at_ ∧ MayI (getI X at_).1 ∧ IsI (cutB X at_.toNat) (getI X at_).1 := by
  unfold getI at h ⊢
  split at h
  · exact absurd h (by decide)
  · rename_i h1
    rw [if_neg h1]
    split at h
    · rename_i h2
      rw [if_pos h2]
      exact ⟨Classical.not_not.1 h1, h2.2, toldF_is (hf := cutB_lt X _) h2.1⟩
    · exact absurd h (by decide)
theorem getI_is {X : Blk} {at_ : Int} {x : InoV} (hp : PlaceI at_) (hm : MayI x) (h : IsI (cutB X at_.toNat) x) : getI X at_ = (x, 0) := by
  have e : toldB X at_.toNat = x := h.told
  rw [getI_yes hp h.noughts (by rw [e]; exact hm), e]
/-- What was put is got. -/
theorem get_put {X : Blk} {at_ : Int} {x : InoV} (hp : PlaceI at_) (hf : x.Fits) (hm : MayI x) : getI (putI X at_ x).1 at_ = (x, 0) := by
  rw [putI_may hp hf.kd hm]
  exact getI_is hp hm (putIB_is hf hm hp.room)
/-- What was got is put as just those bytes. -/
theorem put_get {X : Blk} {at_ : Int} (h : (getI X at_).2 = 0) : putI X at_ (getI X at_).1 = (X, 0) := by
  obtain ⟨hp, hm, hi⟩ := getI_ok h
  have hf := getI_fits X at_
  rw [putI_may hp hf.kd hm]
  congr 1
  refine Blk.same fun i _ => ?_
  by_cases q : at_.toNat ≤ i ∧ i < at_.toNat + 64
  · have e := (imgI_is hf hm).bytes (imgI_lt hf.kd) (cutB_lt _ _) hi (i - at_.toNat) (by omega)
    have e2 := putIB_in (X := X) (hx := hf.kd) hp.room (show i - at_.toNat < 64 by omega)
    rw [show at_.toNat + (i - at_.toNat) = i by omega] at e2
    rw [e2, e]
    show X.f (at_.toNat + (i - at_.toNat)) = X.f i
    rw [show at_.toNat + (i - at_.toNat) = i by omega]
  · exact putIB_off (by omega)
/-- No other byte is changed. -/
theorem put_off {X : Blk} {at_ : Int} {x : InoV} {i : Nat} (h : (i : Int) < at_ ∨ at_ + 64 ≤ i) : (putI X at_ x).1.f i = X.f i := by
  unfold putI
  split
  · rfl
  · rename_i h1
    have hp := Classical.not_not.1 h1
    split
    · refine putIB_off ?_
      obtain ⟨a, rfl, _⟩ := hp.nat
      omega
    · rfl
theorem PlaceI.apart {a b : Int} (ha : PlaceI a) (hb : PlaceI b) (h : a ≠ b) : a.toNat + 64 ≤ b.toNat ∨ b.toNat + 64 ≤ a.toNat := by
  rcases ha with rfl | rfl | rfl | rfl <;> rcases hb with rfl | rfl | rfl | rfl <;> first | exact absurd rfl h | decide
/-- An inode at one place says nothing of another place. -/
theorem get_other {X : Blk} {a b : Int} {x : InoV} (h : a ≠ b) : getI (putI X a x).1 b = getI X b := by
  by_cases ha : PlaceI a
  · by_cases hb : PlaceI b
    · by_cases hk : x.kd < 256 ∧ MayI x
      · rw [putI_may ha hk.1 hk.2]
        have hab := ha.apart hb h
        have e : ∀ i, i < 64 → cutB (putIB X a.toNat x hk.1) b.toNat i = cutB X b.toNat i := fun i hi => putIB_off (by omega)
        have e1 : NoughtsF (cutB (putIB X a.toNat x hk.1) b.toNat) ↔ NoughtsF (cutB X b.toNat) := by
          unfold NoughtsF
          rw [e 1 (by omega)]
          exact and_congr Iff.rfl ⟨fun h i h1 h2 => by rw [← e i h2]; exact h i h1 h2, fun h i h1 h2 => by rw [e i h2]; exact h i h1 h2⟩
        have e2 : toldB (putIB X a.toNat x hk.1) b.toNat = toldB X b.toNat := by
          unfold toldB toldF
          rw [InoV.eq_iff]
          refine ⟨e 0 (by omega), ?_, g32_congr fun i _ hi => e i (by omega), ?_, Ptrs.same fun i hi => ?_, g32_congr fun i _ hi => e i (by omega)⟩
          · simp only; rw [g16_congr fun i _ hi => e i (by omega)]
          · simp only; rw [g32_congr fun i _ hi => e i (by omega)]
          · rw [Ptrs.of_f hi, Ptrs.of_f hi]; exact g32_congr fun j _ hj => e j (by omega)
        unfold getI
        rw [e1, e2]
      · have e : putI X a x = (X, 70) := by unfold putI; rw [if_neg (fun q => q ha), dif_neg hk]
        rw [e]
    · rw [getI_place hb, getI_place hb]
  · rw [putI_place ha]
theorem put_err {X Y : Blk} {a : Int} {x : InoV} : (putI X a x).2 = (putI Y a x).2 := by
  unfold putI; split; rfl; split <;> rfl
/-- In whatever order. -/
theorem put_swap {X : Blk} {a b : Int} {x y : InoV} (h : a ≠ b) : (putI (putI X a x).1 b y).1 = (putI (putI X b y).1 a x).1 := by
  by_cases ha : PlaceI a
  · by_cases hb : PlaceI b
    · by_cases hx : x.kd < 256 ∧ MayI x
      · by_cases hy : y.kd < 256 ∧ MayI y
        · rw [putI_may ha hx.1 hx.2, putI_may hb hy.1 hy.2, putI_may hb hy.1 hy.2, putI_may ha hx.1 hx.2]
          have hab := ha.apart hb h
          have ra := ha.room
          have rb := hb.room
          simp only
          refine Blk.same fun i _ => ?_
          by_cases qa : a.toNat ≤ i ∧ i < a.toNat + 64
          · rw [putIB_off (by omega)]
            obtain ⟨j, rfl⟩ := Nat.exists_eq_add_of_le qa.1
            rw [putIB_in ra (by omega), putIB_in ra (by omega)]
          · rw [putIB_off (a := a.toNat) (x := x) (by omega)]
            by_cases qb : b.toNat ≤ i ∧ i < b.toNat + 64
            · obtain ⟨j, rfl⟩ := Nat.exists_eq_add_of_le qb.1
              rw [putIB_in rb (by omega), putIB_in rb (by omega)]
            · rw [putIB_off (by omega), putIB_off (by omega), putIB_off (by omega)]
        · have e : ∀ Z, putI Z b y = (Z, 70) := fun Z => by unfold putI; rw [if_neg (fun q => q hb), dif_neg hy]
          rw [e, e]
      · have e : ∀ Z, putI Z a x = (Z, 70) := fun Z => by unfold putI; rw [if_neg (fun q => q ha), dif_neg hx]
        rw [e, e]
    · rw [putI_place hb, putI_place hb]
  · rw [putI_place ha, putI_place ha]
/-- Two inodes that may be have one form just if they are the same. -/
theorem put_inj {X : Blk} {a : Int} {x y : InoV} (ha : PlaceI a) (hx : x.Fits) (hy : y.Fits) (mx : MayI x) (my : MayI y) : (putI X a x).1 = (putI X a y).1 ↔ x = y := by
  constructor
  · intro h
    have e := get_put (X := X) ha hx mx
    rw [h, get_put (X := X) ha hy my] at e
    exact (congrArg Prod.fst e).symm
  · rintro rfl; rfl
theorem get_zero {a : Int} (h : PlaceI a) : getI .zero a = (.zero, 0) :=
  getI_is h (may_zero 0) ⟨rfl, rfl, rfl, rfl, rfl, fun _ _ => rfl, rfl, fun _ _ _ => rfl⟩
end Go.Proofs.Ytfijagjkgmhimaa
