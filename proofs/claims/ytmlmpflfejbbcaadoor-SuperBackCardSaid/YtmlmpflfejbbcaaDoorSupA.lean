import Derived.Test.YtmlmpflfejbbcaaDoorBaseG
import Derived.Test.YtmlmpflfejbbcaaDoorBaseN
import Derived.Test.YtmlmpflfejbbcaaDoorBaseC
import Derived.Laws.Tables
import Derived.Test.YtmlmpflfejbbcaaDoorGeoRa
namespace Go.Proofs.YtmlmpflfejbbcaaDoor
open Go.RowKit CrcM

/-! Blocks into which numbers are put; superblocks and descriptors, told plainly. -/
def putB16 (x : Blk) (a v : Nat) : Blk := .of (p16 x.f a v) fun i _ => p16_lt x.lt a v i
def putB32 (x : Blk) (a v : Nat) : Blk := .of (p32 x.f a v) fun i _ => p32_lt x.lt a v i
theorem putB16_f {x : Blk} {a v i : Nat} (h : i < 256) : (putB16 x a v).f i = p16 x.f a v i := Blk.of_f h
theorem putB32_f {x : Blk} {a v i : Nat} (h : i < 256) : (putB32 x a v).f i = p32 x.f a v i := Blk.of_f h
theorem putB16_off {x : Blk} {a v i : Nat} (h : i < a ∨ a + 2 ≤ i) : (putB16 x a v).f i = x.f i := by
  by_cases hi : i < 256
  · rw [putB16_f hi, p16_off _ _ _ _ h]
  · rw [Blk.past _ i (by omega), Blk.past _ i (by omega)]
theorem putB32_off {x : Blk} {a v i : Nat} (h : i < a ∨ a + 4 ≤ i) : (putB32 x a v).f i = x.f i := by
  by_cases hi : i < 256
  · rw [putB32_f hi, p32_off _ _ _ _ h]
  · rw [Blk.past _ i (by omega), Blk.past _ i (by omega)]
theorem g16_putB16 {x : Blk} {a v : Nat} (h : a + 2 ≤ 256) (hv : v < 65536) : g16 (putB16 x a v).f a = v := by
  unfold g16
  rw [putB16_f (by omega), putB16_f (by omega), p16_at, p16_at, if_neg (by omega), if_pos rfl, if_pos rfl]; omega
theorem g32_putB32 {x : Blk} {a v : Nat} (h : a + 4 ≤ 256) (hv : v < 4294967296) : g32 (putB32 x a v).f a = v := by
  unfold g32
  rw [putB32_f (by omega), putB32_f (by omega), putB32_f (by omega), putB32_f (by omega), p32_0, p32_1, p32_2, p32_3]; omega
theorem g16_putB16_off {x : Blk} {a b v : Nat} (h : b + 2 ≤ a ∨ a + 2 ≤ b) : g16 (putB16 x a v).f b = g16 x.f b := by
  unfold g16; rw [putB16_off (by omega), putB16_off (by omega)]
theorem g32_putB16_off {x : Blk} {a b v : Nat} (h : b + 4 ≤ a ∨ a + 2 ≤ b) : g32 (putB16 x a v).f b = g32 x.f b := by
  unfold g32; rw [putB16_off (by omega), putB16_off (by omega), putB16_off (by omega), putB16_off (by omega)]
theorem g16_putB32_off {x : Blk} {a b v : Nat} (h : b + 2 ≤ a ∨ a + 4 ≤ b) : g16 (putB32 x a v).f b = g16 x.f b := by
  unfold g16; rw [putB32_off (by omega), putB32_off (by omega)]
theorem g32_putB32_off {x : Blk} {a b v : Nat} (h : b + 4 ≤ a ∨ a + 4 ≤ b) : g32 (putB32 x a v).f b = g32 x.f b := by
  unfold g32; rw [putB32_off (by omega), putB32_off (by omega), putB32_off (by omega), putB32_off (by omega)]
theorem same16 {x y : Blk} {a : Nat} (h : g16 x.f a = g16 y.f a) : x.f a = y.f a ∧ x.f (a + 1) = y.f (a + 1) := by
  unfold g16 at h
  have := x.lt a; have := y.lt a; have := x.lt (a + 1); have := y.lt (a + 1)
  omega
theorem same32 {x y : Blk} {a : Nat} (h : g32 x.f a = g32 y.f a) : x.f a = y.f a ∧ x.f (a + 1) = y.f (a + 1) ∧ x.f (a + 2) = y.f (a + 2) ∧ x.f (a + 3) = y.f (a + 3) := by
  unfold g32 at h
  have := x.lt a; have := y.lt a; have := x.lt (a + 1); have := y.lt (a + 1)
  have := x.lt (a + 2); have := y.lt (a + 2); have := x.lt (a + 3); have := y.lt (a + 3)
  omega

/-- The sum of a block's first 252 bytes. -/
def sumB (x : Blk) : Nat := sum x.f 252
theorem sumB_lt (x : Blk) : sumB x < 4294967296 := sum_lt x.lt 252
theorem sumB_congr {x y : Blk} (h : ∀ i, i < 252 → x.f i = y.f i) : sumB x = sumB y := by
  unfold sumB sum; rw [run_congr 252 h]
def Sealed (x : Blk) : Prop := g32 x.f 252 = sumB x
def sealB (x : Blk) : Blk := putB32 x 252 (sumB x)
theorem sealB_off {x : Blk} {i : Nat} (h : i < 252) : (sealB x).f i = x.f i := putB32_off (.inl h)
theorem sealB_sealed (x : Blk) : Sealed (sealB x) := by
  unfold Sealed sealB
  rw [g32_putB32 (by omega) (sumB_lt x), sumB_congr (fun i hi => putB32_off (.inl hi))]
theorem Sealed.same {x y : Blk} (hx : Sealed x) (hy : Sealed y) (h : ∀ i, i < 252 → x.f i = y.f i) : x = y := by
  have e : g32 x.f 252 = g32 y.f 252 := by rw [hx, hy, sumB_congr h]
  obtain ⟨e0, e1, e2, e3⟩ := same32 e
  refine Blk.same fun i hi => ?_
  rcases Nat.lt_or_ge i 252 with q | q
  · exact h i q
  · obtain rfl | rfl | rfl | rfl : i = 252 ∨ i = 252 + 1 ∨ i = 252 + 2 ∨ i = 252 + 3 := by omega
    · exact e0
    · exact e1
    · exact e2
    · exact e3
/-- A byte with something over it. -/
def overB (x : Blk) (a v : Nat) (hv : v < 256) : Blk := x.set a (x.f a ^^^ v) (Nat.xor_lt_two_pow (n := 8) (x.lt a) hv)
theorem overB_f {x : Blk} {a v i : Nat} {hv : v < 256} (h : i < 256) : (overB x a v hv).f i = if i = a then x.f a ^^^ v else x.f i := by unfold overB Blk.set; exact Blk.of_f h
theorem overB_zero (x : Blk) (a : Nat) : overB x a 0 (by omega) = x := Blk.same fun i hi => by
  rw [overB_f hi]; split <;> simp_all
theorem sumB_over {x : Blk} {a v : Nat} {hv : v < 256} (ha : a < 252) (h : sumB (overB x a v hv) = sumB x) : v = 0 := by
  have e : run ff (overB x a v hv).f 252 = run ff x.f 252 ^^^ shN (8 * (252 - a)) v := by
    have h1 : run ff (overB x a v hv).f 252 = run (ff ^^^ 0) (fun i => x.f i ^^^ (if i = a then v else 0)) 252 := by
      rw [Nat.xor_zero]
      refine run_congr 252 fun i hi => ?_
      rw [overB_f (by omega)]
      by_cases q : i = a
      · subst q; rw [if_pos rfl, if_pos rfl]
      · rw [if_neg q, if_neg q, Nat.xor_zero]
    rw [h1, run_xor, run_one a v 252 ha]
  unfold sumB sum at h
  rw [e] at h
  have h2 : run ff x.f 252 ^^^ shN (8 * (252 - a)) v = run ff x.f 252 := by
    have := congrArg (· ^^^ ff) h
    simpa [xor_cancel] using this
  have h3 : shN (8 * (252 - a)) v = 0 := by
    have := congrArg (run ff x.f 252 ^^^ ·) h2
    simpa [← Nat.xor_assoc] using this
  exact shN_eq_zero _ (by omega) h3
theorem Sealed.over {x : Blk} {a v : Nat} {hv : v < 256} (hx : Sealed x) (ha : a < 256) (h : Sealed (overB x a v hv)) : v = 0 := by
  rcases Nat.lt_or_ge a 252 with q | q
  · refine sumB_over q ?_ (x := x) (hv := hv)
    have e : g32 (overB x a v hv).f 252 = g32 x.f 252 := by
      unfold g32
      rw [overB_f (by omega), overB_f (by omega), overB_f (by omega), overB_f (by omega), if_neg (by omega), if_neg (by omega), if_neg (by omega), if_neg (by omega)]
    rw [← h, e, hx]
  · have e : sumB (overB x a v hv) = sumB x := sumB_congr fun i hi => by rw [overB_f (by omega), if_neg (by omega)]
    have e2 : g32 (overB x a v hv).f 252 = g32 x.f 252 := by rw [h, e, hx]
    have e3 : (overB x a v hv).f a = x.f a := by
      obtain ⟨e0, e1, e2, e3⟩ := same32 e2
      obtain rfl | rfl | rfl | rfl : a = 252 ∨ a = 252 + 1 ∨ a = 252 + 2 ∨ a = 252 + 3 := by omega
      · exact e0
      · exact e1
      · exact e2
      · exact e3
    rw [overB_f ha, if_pos rfl] at e3
    have := congrArg (x.f a ^^^ ·) e3
    simpa [← Nat.xor_assoc] using this

/-! The superblock. -/
structure SuperV where
  g : GeoV
  o : Nat
structure SuperV.Fits (s : SuperV) : Prop where
  g : s.g.Fits
  o : s.o < 4294967296
@[irreducible] def scs (s : SuperV) : Array Value := #[.int .i64 s.g.gr, .int .i64 s.g.sz, .int .i64 s.g.ino, .int .i64 s.g.jr, .int .u32 ((s.o : Nat) : Int)]
theorem scs_eq (s : SuperV) : scs s = #[.int .i64 s.g.gr, .int .i64 s.g.sz, .int .i64 s.g.ino, .int .i64 s.g.jr, .int .u32 ((s.o : Nat) : Int)] := by unfold scs; rfl
def GeoV.zero : GeoV := ⟨0, 0, 0, 0⟩
def SuperV.zero : SuperV := ⟨.zero, 0⟩
theorem not_may_zero : ¬ May GeoV.zero := fun h => absurd h.1 (by decide)
def MaySuper (s : SuperV) : Prop := May s.g ∧ ((s.o : Nat) : Int) ≤ s.g.gr * s.g.ino
/-- What a superblock's block reads as. -/
structure IsSuper (x : Blk) (s : SuperV) : Prop where
  magic : g32 x.f 0 = 827216465
  one : g16 x.f 4 = 1
  size : g16 x.f 6 = 256
  gr : ((g16 x.f 8 : Nat) : Int) = s.g.gr
  sz : ((g16 x.f 10 : Nat) : Int) = s.g.sz
  ino : ((g16 x.f 12 : Nat) : Int) = s.g.ino
  jr : ((g16 x.f 14 : Nat) : Int) = s.g.jr
  o : g32 x.f 16 = s.o
  noughts : ∀ i, 20 ≤ i → i < 252 → x.f i = 0
  sum : Sealed x
def superB0 (s : SuperV) : Blk := putB32 (putB16 (putB16 (putB16 (putB16 (putB16 (putB16 (putB32 .zero 0 827216465) 4 1) 6 256) 8 s.g.gr.toNat) 10 s.g.sz.toNat) 12 s.g.ino.toNat) 14 s.g.jr.toNat) 16 s.o
@[irreducible] def superB (s : SuperV) : Blk := sealB (superB0 s)
theorem g16_congr {f h : Nat → Nat} {a : Nat} (e : ∀ i, a ≤ i → i < a + 2 → f i = h i) : g16 f a = g16 h a := by
  unfold g16; rw [e a (by omega) (by omega), e (a + 1) (by omega) (by omega)]
theorem g32_congr {f h : Nat → Nat} {a : Nat} (e : ∀ i, a ≤ i → i < a + 4 → f i = h i) : g32 f a = g32 h a := by
  unfold g32; rw [e a (by omega) (by omega), e (a + 1) (by omega) (by omega), e (a + 2) (by omega) (by omega), e (a + 3) (by omega) (by omega)]
theorem g16_seal {x : Blk} {a : Nat} (h : a + 2 ≤ 252) : g16 (sealB x).f a = g16 x.f a := g16_congr fun i _ hi => sealB_off (by omega)
theorem g32_seal {x : Blk} {a : Nat} (h : a + 4 ≤ 252) : g32 (sealB x).f a = g32 x.f a := g32_congr fun i _ hi => sealB_off (by omega)
theorem superB_is {s : SuperV} (hm : May s.g) (ho : s.o < 4294967296) : IsSuper (superB s) s := by
  obtain ⟨h1, h2, h3, h4, h5, h6, h7, h8, h9, h10, h11⟩ := hm
  unfold superB
  refine ⟨?_, ?_, ?_, ?_, ?_, ?_, ?_, ?_, ?_, sealB_sealed _⟩
  · rw [g32_seal (by omega)]; unfold superB0
    rw [g32_putB32_off (by omega), g32_putB16_off (by omega), g32_putB16_off (by omega), g32_putB16_off (by omega), g32_putB16_off (by omega), g32_putB16_off (by omega), g32_putB16_off (by omega), g32_putB32 (by omega) (by omega)]
  · rw [g16_seal (by omega)]; unfold superB0
    rw [g16_putB32_off (by omega), g16_putB16_off (by omega), g16_putB16_off (by omega), g16_putB16_off (by omega), g16_putB16_off (by omega), g16_putB16_off (by omega), g16_putB16 (by omega) (by omega)]
  · rw [g16_seal (by omega)]; unfold superB0
    rw [g16_putB32_off (by omega), g16_putB16_off (by omega), g16_putB16_off (by omega), g16_putB16_off (by omega), g16_putB16_off (by omega), g16_putB16 (by omega) (by omega)]
  · rw [g16_seal (by omega)]; unfold superB0
    rw [g16_putB32_off (by omega), g16_putB16_off (by omega), g16_putB16_off (by omega), g16_putB16_off (by omega), g16_putB16 (by omega) (by omega)]; omega
  · rw [g16_seal (by omega)]; unfold superB0
    rw [g16_putB32_off (by omega), g16_putB16_off (by omega), g16_putB16_off (by omega), g16_putB16 (by omega) (by omega)]; omega
  · rw [g16_seal (by omega)]; unfold superB0
    rw [g16_putB32_off (by omega), g16_putB16_off (by omega), g16_putB16 (by omega) (by omega)]; omega
  · rw [g16_seal (by omega)]; unfold superB0
    rw [g16_putB32_off (by omega), g16_putB16 (by omega) (by omega)]; omega
  · rw [g32_seal (by omega)]; unfold superB0
    rw [g32_putB32 (by omega) ho]
  · intro i h20 h252
    rw [sealB_off h252]; unfold superB0
    rw [putB32_off (by omega), putB16_off (by omega), putB16_off (by omega), putB16_off (by omega), putB16_off (by omega), putB16_off (by omega), putB16_off (by omega), putB32_off (by omega)]
    rfl
theorem IsSuper.same {x y : Blk} {s : SuperV} (hx : IsSuper x s) (hy : IsSuper y s) : x = y := by
  refine hx.sum.same hy.sum fun i hi => ?_
  rcases Nat.lt_or_ge i 20 with q | q
  · obtain ⟨a0, a1, a2, a3⟩ := same32 (hx.magic.trans hy.magic.symm)
    obtain ⟨b0, b1⟩ := same16 (hx.one.trans hy.one.symm)
    obtain ⟨c0, c1⟩ := same16 (hx.size.trans hy.size.symm)
    obtain ⟨d0, d1⟩ := same16 (x := x) (y := y) (a := 8) (by have := hx.gr; have := hy.gr; omega)
    obtain ⟨e0, e1⟩ := same16 (x := x) (y := y) (a := 10) (by have := hx.sz; have := hy.sz; omega)
    obtain ⟨f0, f1⟩ := same16 (x := x) (y := y) (a := 12) (by have := hx.ino; have := hy.ino; omega)
    obtain ⟨k0, k1⟩ := same16 (x := x) (y := y) (a := 14) (by have := hx.jr; have := hy.jr; omega)
    obtain ⟨l0, l1, l2, l3⟩ := same32 (hx.o.trans hy.o.symm)
    match i, q with
    | 0, _ => exact a0
    | 1, _ => exact a1
    | 2, _ => exact a2
    | 3, _ => exact a3
    | 4, _ => exact b0
    | 5, _ => exact b1
    | 6, _ => exact c0
    | 7, _ => exact c1
    | 8, _ => exact d0
    | 9, _ => exact d1
    | 10, _ => exact e0
    | 11, _ => exact e1
    | 12, _ => exact f0
    | 13, _ => exact f1
    | 14, _ => exact k0
    | 15, _ => exact k1
    | 16, _ => exact l0
    | 17, _ => exact l1
    | 18, _ => exact l2
    | 19, _ => exact l3
    | k + 20, h => omega
  · rw [hx.noughts i q hi, hy.noughts i q hi]
theorem IsSuper.super {x : Blk} {s t : SuperV} (hx : IsSuper x s) (hy : IsSuper x t) : s = t := by
  obtain ⟨⟨a, b, c, d⟩, o⟩ := s
  obtain ⟨⟨a', b', c', d'⟩, o'⟩ := t
  obtain rfl : a = a' := hx.gr.symm.trans hy.gr
  obtain rfl : b = b' := hx.sz.symm.trans hy.sz
  obtain rfl : c = c' := hx.ino.symm.trans hy.ino
  obtain rfl : d = d' := hx.jr.symm.trans hy.jr
  obtain rfl : o = o' := hx.o.symm.trans hy.o
  rfl
open Classical in
/-- What Write answers. -/
@[irreducible] noncomputable def writeS (s : SuperV) : Blk × Int := if ¬ May s.g then (.zero, 50) else if ¬ ((s.o : Nat) : Int) ≤ s.g.gr * s.g.ino then (.zero, 2) else (superB s, 0)
def geoOf (x : Blk) : GeoV := ⟨(g16 x.f 8 : Nat), (g16 x.f 10 : Nat), (g16 x.f 12 : Nat), (g16 x.f 14 : Nat)⟩
def superOf (x : Blk) : SuperV := ⟨geoOf x, g32 x.f 16⟩
def HeadOK (x : Blk) : Prop := g32 x.f 0 = 827216465 ∧ g16 x.f 4 = 1 ∧ g16 x.f 6 = 256 ∧ Sealed x ∧ ∀ i, 20 ≤ i → i < 252 → x.f i = 0
open Classical in
/-- What Read answers. -/
@[irreducible] noncomputable def readS (x : Blk) : SuperV × Int := if ¬ HeadOK x then (.zero, 60) else if ¬ May (geoOf x) then (.zero, 50) else if ¬ ((g32 x.f 16 : Nat) : Int) ≤ (geoOf x).gr * (geoOf x).ino then (.zero, 60) else (superOf x, 0)
theorem geoOf_fits (x : Blk) : (geoOf x).Fits := by
  have h8 := g16_lt x.lt 8; have h10 := g16_lt x.lt 10; have h12 := g16_lt x.lt 12; have h14 := g16_lt x.lt 14
  unfold geoOf
  constructor <;> (unfold I64; simp only; omega)
theorem superOf_fits (x : Blk) : (superOf x).Fits := ⟨geoOf_fits x, g32_lt x.lt 16⟩
theorem zero_fits : SuperV.zero.Fits := ⟨⟨by unfold I64; decide, by unfold I64; decide, by unfold I64; decide, by unfold I64; decide⟩, by decide⟩
theorem readS_fits (x : Blk) : (readS x).1.Fits := by
  unfold readS
  split
  · exact zero_fits
  · split
    · exact zero_fits
    · split
      · exact zero_fits
      · exact superOf_fits x
theorem readS_ok {x : Blk} (h : (readS x).2 = 0) : IsSuper x (readS x).1 ∧ MaySuper (readS x).1 := by
  unfold readS at h ⊢
  split at h
  · exact absurd h (by decide)
  · rename_i h1
    rw [if_neg h1]
    split at h
    · exact absurd h (by decide)
    · rename_i h2
      rw [if_neg h2]
      split at h
      · exact absurd h (by decide)
      · rename_i h3
        rw [if_neg h3]
        have ⟨a, b, c, d, e⟩ := Classical.not_not.1 h1
        exact ⟨⟨a, b, c, rfl, rfl, rfl, rfl, rfl, e, d⟩, Classical.not_not.1 h2, Classical.not_not.1 h3⟩
theorem readS_is {x : Blk} {s : SuperV} (h : IsSuper x s) (hm : MaySuper s) : readS x = (s, 0) := by
  have e : superOf x = s := by
    obtain ⟨⟨a, b, c, d⟩, o⟩ := s
    obtain ⟨_, _, _, h1, h2, h3, h4, h5, _, _⟩ := h
    unfold superOf geoOf
    rw [h1, h2, h3, h4, h5]
  have eg : geoOf x = s.g := congrArg SuperV.g e
  have eo : g32 x.f 16 = s.o := congrArg SuperV.o e
  unfold readS
  rw [if_neg (fun q => q ⟨h.magic, h.one, h.size, h.sum, h.noughts⟩), eg, eo, if_neg (fun q => q hm.1), if_neg (fun q => q hm.2), e]
theorem writeS_may {s : SuperV} (hm : MaySuper s) : writeS s = (superB s, 0) := by
  unfold writeS; rw [if_neg (fun q => q hm.1), if_neg (fun q => q hm.2)]
theorem writeS_ok {s : SuperV} (h : (writeS s).2 = 0) : MaySuper s := by
  unfold writeS at h
  split at h
  · exact absurd h (by decide)
  · rename_i h1
    split at h
    · exact absurd h (by decide)
    · rename_i h2
      exact ⟨Classical.not_not.1 h1, Classical.not_not.1 h2⟩
theorem writeS_no {s : SuperV} (h : (writeS s).2 ≠ 0) : (writeS s).1 = .zero := by
  unfold writeS at h ⊢
  split
  · rfl
  · split
    · rfl
    · rename_i h1 h2
      rw [if_neg h1, if_neg h2] at h
      exact absurd rfl h
theorem writeS_err (s : SuperV) : (writeS s).2 = 0 ∨ (writeS s).2 = 2 ∨ (writeS s).2 = 50 := by
  unfold writeS; split; exact .inr (.inr rfl); split; exact .inr (.inl rfl); exact .inl rfl
theorem read_write {s : SuperV} (hm : MaySuper s) (ho : s.o < 4294967296) : readS (superB s) = (s, 0) := readS_is (superB_is hm.1 ho) hm
theorem write_read {x : Blk} (h : (readS x).2 = 0) : writeS (readS x).1 = (x, 0) := by
  have ⟨h1, h2⟩ := readS_ok h
  rw [writeS_may h2, (superB_is h2.1 (readS_fits x).o).same h1]
theorem superB_inj {s t : SuperV} (hs : MaySuper s) (ht : MaySuper t) (hs1 : s.o < 4294967296) (ht1 : t.o < 4294967296) (h : superB s = superB t) : s = t :=
  (superB_is hs.1 hs1).super (by rw [h]; exact superB_is ht.1 ht1)
theorem readS_over {s : SuperV} {a v : Nat} {hv : v < 256} (hm : MaySuper s) (ho : s.o < 4294967296) (ha : a < 256) : (readS (overB (superB s) a v hv)).2 = 0 ↔ v = 0 := by
  constructor
  · intro h
    exact (superB_is hm.1 ho).sum.over ha (readS_ok h).1.sum
  · rintro rfl
    rw [overB_zero, read_write hm ho]
end Go.Proofs.YtmlmpflfejbbcaaDoor
namespace Go.Proofs.YtmlmpflfejbbcaaDoor
open Go.RowKit CrcM

/-! Descriptors, told plainly. -/
structure DescV where
  b : Int
  i : Int
  d : Int
def DescV.zero : DescV := ⟨0, 0, 0⟩
structure DescV.Fits (x : DescV) : Prop where
  b : I64 x.b
  i : I64 x.i
  d : I64 x.d
structure DescV.Small (x : DescV) : Prop where
  b0 : 0 ≤ x.b
  b : x.b < 65536
  i0 : 0 ≤ x.i
  i : x.i < 65536
  d0 : 0 ≤ x.d
  d : x.d < 65536
@[irreducible] def dcs (x : DescV) : Array Value := #[.int .i64 x.b, .int .i64 x.i, .int .i64 x.d]
theorem dcs_eq (x : DescV) : dcs x = #[.int .i64 x.b, .int .i64 x.i, .int .i64 x.d] := by unfold dcs; rfl
def putD (x : Blk) (k : Nat) (d : DescV) : Blk := putB16 (putB16 (putB16 x (8 * k) d.b.toNat) (8 * k + 2) d.i.toNat) (8 * k + 4) d.d.toNat
def rowsB : Nat → List DescV → Blk → Blk
  | _, [], x => x
  | k, d :: l, x => rowsB (k + 1) l (putD x k d)
@[irreducible] def descsB (l : List DescV) : Blk := sealB (rowsB 0 l .zero)
def descOf (x : Blk) (k : Nat) : DescV := ⟨(g16 x.f (8 * k) : Nat), (g16 x.f (8 * k + 2) : Nat), (g16 x.f (8 * k + 4) : Nat)⟩
theorem rowsB_snoc (d : DescV) : ∀ (l : List DescV) (k : Nat) (x : Blk), rowsB k (l ++ [d]) x = putD (rowsB k l x) (k + l.length) d
  | [], k, x => rfl
  | e :: l, k, x => by
    have := rowsB_snoc d l (k + 1) (putD x k e)
    rw [List.cons_append, rowsB, this, rowsB, List.length_cons, show k + 1 + l.length = k + (l.length + 1) by omega]
theorem rowsB_take {l : List DescV} {k : Nat} {d : DescV} (h : l[k]? = some d) (x : Blk) : rowsB 0 (l.take (k + 1)) x = putD (rowsB 0 (l.take k) x) k d := by
  have hk : k < l.length := by
    rcases Nat.lt_or_ge k l.length with q | q
    · exact q
    · rw [List.getElem?_eq_none q] at h; cases h
  rw [List.take_add_one, h]
  show rowsB 0 (l.take k ++ [d]) x = _
  rw [rowsB_snoc, List.length_take, Nat.min_eq_left (by omega), Nat.zero_add]
theorem putD_off {x : Blk} {k : Nat} {d : DescV} {i : Nat} (h : i < 8 * k ∨ 8 * k + 6 ≤ i) : (putD x k d).f i = x.f i := by
  unfold putD
  rw [putB16_off (by omega), putB16_off (by omega), putB16_off (by omega)]
theorem rowsB_off : ∀ (l : List DescV) (k : Nat) (x : Blk) (i : Nat), (i < 8 * k ∨ 8 * (k + l.length) ≤ i) → (rowsB k l x).f i = x.f i
  | [], _, _, _, _ => rfl
  | d :: l, k, x, i, h => by
    rw [rowsB, rowsB_off l (k + 1) _ i (by rw [List.length_cons] at h; omega), putD_off (by rw [List.length_cons] at h; omega)]
theorem putD_desc {x : Blk} {k : Nat} {d : DescV} (hd : d.Small) (hk : 8 * k + 8 ≤ 256) : descOf (putD x k d) k = d := by
  obtain ⟨b, i, n⟩ := d
  obtain ⟨h1, h2, h3, h4, h5, h6⟩ := hd
  simp only at h1 h2 h3 h4 h5 h6
  unfold descOf putD
  rw [g16_putB16_off (by omega), g16_putB16_off (by omega), g16_putB16 (by omega) (by simp only; omega), g16_putB16_off (by omega), g16_putB16 (by omega) (by simp only; omega), g16_putB16 (by omega) (by simp only; omega)]
  simp only
  rw [Int.toNat_of_nonneg h1, Int.toNat_of_nonneg h3, Int.toNat_of_nonneg h5]
theorem descOf_congr {x y : Blk} {k : Nat} (h : ∀ i, 8 * k ≤ i → i < 8 * k + 6 → x.f i = y.f i) : descOf x k = descOf y k := by
  unfold descOf
  rw [g16_congr (f := x.f) (h := y.f) fun i h1 h2 => h i (by omega) (by omega), g16_congr (f := x.f) (h := y.f) fun i h1 h2 => h i (by omega) (by omega), g16_congr (f := x.f) (h := y.f) fun i h1 h2 => h i (by omega) (by omega)]
theorem rowsB_at : ∀ (l : List DescV) (k : Nat) (x : Blk), (∀ d ∈ l, d.Small) → 8 * (k + l.length) ≤ 256 → ∀ j d, l[j]? = some d → descOf (rowsB k l x) (k + j) = d ∧ ∀ i, 8 * (k + j) + 6 ≤ i → i < 8 * (k + j) + 8 → (rowsB k l x).f i = x.f i
  | [], _, _, _, _, j, d, h => by simp at h
  | e :: l, k, x, hs, hl, 0, d, h => by
    rw [List.getElem?_cons_zero] at h
    cases h
    rw [List.length_cons] at hl
    rw [rowsB]
    simp only [Nat.add_zero]
    refine ⟨?_, fun i h1 h2 => ?_⟩
    · rw [descOf_congr fun i h1 h2 => rowsB_off l (k + 1) _ i (by omega), putD_desc (hs _ (by simp)) (by omega)]
    · rw [rowsB_off l (k + 1) _ i (by omega), putD_off (by omega)]
  | e :: l, k, x, hs, hl, j + 1, d, h => by
    rw [List.getElem?_cons_succ] at h
    rw [List.length_cons] at hl
    have := rowsB_at l (k + 1) (putD x k e) (fun q hq => hs q (by simp [hq])) (by omega) j d h
    rw [show k + 1 + j = k + (j + 1) by omega] at this
    rw [rowsB]
    refine ⟨this.1, fun i h1 h2 => ?_⟩
    rw [this.2 i h1 h2, putD_off (by omega)]

def MayD (g : GeoV) (l : List DescV) : Prop := ((l.length : Nat) : Int) = g.gr ∧ ∀ d ∈ l, 0 ≤ d.b ∧ d.b ≤ dataG g ∧ 0 ≤ d.i ∧ 0 ≤ d.d ∧ d.i + d.d ≤ g.ino
theorem MayD.small {g : GeoV} {l : List DescV} (hg : May g) (h : MayD g l) : ∀ d ∈ l, d.Small := fun d hd => by
  obtain ⟨h1, h2, h3, h4, h5⟩ := h.2 d hd
  unfold dataG at h2
  rw [if_pos hg] at h2
  obtain ⟨_, _, _, q4, q5, q6, _, _, _, _, _⟩ := hg
  exact ⟨h1, by omega, h3, by omega, h4, by omega⟩
theorem MayD.four {g : GeoV} {l : List DescV} (hg : May g) (h : MayD g l) : 1 ≤ l.length ∧ l.length ≤ 4 := by
  have := h.1; have := hg.1; have := hg.2.1; omega
structure IsDescs (x : Blk) (l : List DescV) : Prop where
  rows : ∀ k d, l[k]? = some d → descOf x k = d
  six : ∀ k, k < l.length → g16 x.f (8 * k + 6) = 0
  noughts : ∀ i, 8 * l.length ≤ i → i < 252 → x.f i = 0
  sum : Sealed x
theorem descsB_is {l : List DescV} (hs : ∀ d ∈ l, d.Small) (hl : l.length ≤ 31) : IsDescs (descsB l) l := by
  unfold descsB
  refine ⟨fun k d hd => ?_, fun k hk => ?_, fun i h1 h2 => ?_, sealB_sealed _⟩
  · have hk : k < l.length := by
      rcases Nat.lt_or_ge k l.length with q | q
      · exact q
      · rw [List.getElem?_eq_none q] at hd; cases hd
    rw [descOf_congr fun i h1 h2 => sealB_off (by omega)]
    have := (rowsB_at l 0 .zero hs (by omega) k d hd).1
    rwa [Nat.zero_add] at this
  · have := (rowsB_at l 0 .zero hs (by omega) k l[k] (List.getElem?_eq_getElem hk)).2
    rw [g16_seal (by omega)]
    unfold g16
    rw [this _ (by omega) (by omega), this _ (by omega) (by omega)]
    rfl
  · rw [sealB_off h2, rowsB_off l 0 _ i (by omega)]; rfl
theorem descOf_same {x y : Blk} {k : Nat} (h : descOf x k = descOf y k) (h6 : g16 x.f (8 * k + 6) = g16 y.f (8 * k + 6)) : ∀ i, 8 * k ≤ i → i < 8 * k + 8 → x.f i = y.f i := by
  unfold descOf at h
  injection h with e0 e2 e4
  obtain ⟨a0, a1⟩ := same16 (x := x) (y := y) (a := 8 * k) (by omega)
  obtain ⟨b0, b1⟩ := same16 (x := x) (y := y) (a := 8 * k + 2) (by omega)
  obtain ⟨c0, c1⟩ := same16 (x := x) (y := y) (a := 8 * k + 4) (by omega)
  obtain ⟨d0, d1⟩ := same16 h6
  intro i h1 h2
  obtain rfl | rfl | rfl | rfl | rfl | rfl | rfl | rfl : i = 8 * k ∨ i = 8 * k + 1 ∨ i = 8 * k + 2 ∨ i = 8 * k + 2 + 1 ∨ i = 8 * k + 4 ∨ i = 8 * k + 4 + 1 ∨ i = 8 * k + 6 ∨ i = 8 * k + 6 + 1 := by omega
  · exact a0
  · exact a1
  · exact b0
  · exact b1
  · exact c0
  · exact c1
  · exact d0
  · exact d1
theorem IsDescs.same {x y : Blk} {l : List DescV} (hx : IsDescs x l) (hy : IsDescs y l) : x = y := by
  refine hx.sum.same hy.sum fun i hi => ?_
  rcases Nat.lt_or_ge i (8 * l.length) with q | q
  · have hk : i / 8 < l.length := by omega
    have e := List.getElem?_eq_getElem hk
    exact descOf_same (k := i / 8) ((hx.rows _ _ e).trans (hy.rows _ _ e).symm) ((hx.six _ hk).trans (hy.six _ hk).symm) i (by omega) (by omega)
  · rw [hx.noughts i q hi, hy.noughts i q hi]
def descsOf (x : Blk) (n : Nat) : List DescV := (List.range n).map (descOf x)
theorem descsOf_length (x : Blk) (n : Nat) : (descsOf x n).length = n := by simp [descsOf]
theorem descsOf_get {x : Blk} {n k : Nat} (h : k < n) : (descsOf x n)[k]? = some (descOf x k) := by simp [descsOf, h]
theorem IsDescs.descsOf {x : Blk} {l : List DescV} (h : IsDescs x l) : descsOf x l.length = l := by
  apply List.ext_getElem?
  intro k
  rcases Nat.lt_or_ge k l.length with q | q
  · rw [descsOf_get q, List.getElem?_eq_getElem q, h.rows k _ (List.getElem?_eq_getElem q)]
  · rw [List.getElem?_eq_none (by rw [descsOf_length]; exact q), List.getElem?_eq_none q]
def DescsOK (g : GeoV) (x : Blk) : Prop := (∀ k, k < g.gr.toNat → g16 x.f (8 * k + 6) = 0) ∧ Sealed x ∧ (∀ i, 8 * g.gr.toNat ≤ i → i < 252 → x.f i = 0) ∧ MayD g (descsOf x g.gr.toNat)
open Classical in
/-- What WriteDescs answers. -/
@[irreducible] noncomputable def writeD (g : GeoV) (l : List DescV) : Blk × Int := if ¬ May g then (.zero, 50) else if ¬ MayD g l then (.zero, 2) else (descsB l, 0)
open Classical in
/-- What ReadDescs answers. -/
@[irreducible] noncomputable def readD (g : GeoV) (x : Blk) : List DescV × Int := if ¬ May g then ([], 50) else if ¬ DescsOK g x then ([], 60) else (descsOf x g.gr.toNat, 0)
theorem writeD_may {g : GeoV} {l : List DescV} (hg : May g) (h : MayD g l) : writeD g l = (descsB l, 0) := by
  unfold writeD; rw [if_neg (fun q => q hg), if_neg (fun q => q h)]
theorem writeD_ok {g : GeoV} {l : List DescV} (h : (writeD g l).2 = 0) : May g ∧ MayD g l := by
  unfold writeD at h
  split at h
  · exact absurd h (by decide)
  · rename_i h1
    split at h
    · exact absurd h (by decide)
    · rename_i h2
      exact ⟨Classical.not_not.1 h1, Classical.not_not.1 h2⟩
theorem writeD_no {g : GeoV} {l : List DescV} (h : (writeD g l).2 ≠ 0) : (writeD g l).1 = .zero := by
  unfold writeD at h ⊢
  split
  · rfl
  · split
    · rfl
    · rename_i h1 h2
      rw [if_neg h1, if_neg h2] at h
      exact absurd rfl h
theorem writeD_err (g : GeoV) (l : List DescV) : (writeD g l).2 = 0 ∨ (writeD g l).2 = 2 ∨ (writeD g l).2 = 50 := by
  unfold writeD; split; exact .inr (.inr rfl); split; exact .inr (.inl rfl); exact .inl rfl
theorem readD_err (g : GeoV) (x : Blk) : (readD g x).2 = 0 ∨ (readD g x).2 = 60 ∨ (readD g x).2 = 50 := by
  unfold readD; split; exact .inr (.inr rfl); split; exact .inr (.inl rfl); exact .inl rfl
theorem readD_no {g : GeoV} {x : Blk} (h : (readD g x).2 ≠ 0) : (readD g x).1 = [] := by
  unfold readD at h ⊢
  split
  · rfl
  · split
    · rfl
    · rename_i h1 h2
      rw [if_neg h1, if_neg h2] at h
      exact absurd rfl h
theorem readD_may {g : GeoV} {x : Blk} (hg : May g) (h : DescsOK g x) : readD g x = (descsOf x g.gr.toNat, 0) := by
  unfold readD; rw [if_neg (fun q => q hg), if_neg (fun q => q h)]
theorem readD_ok {g : GeoV} {x : Blk} (h : (readD g x).2 = 0) : May g ∧ IsDescs x (readD g x).1 ∧ MayD g (readD g x).1 ∧ (readD g x).1 = descsOf x g.gr.toNat := by
  have h' := h
  unfold readD at h
  split at h
  · exact absurd h (by decide)
  · rename_i h1
    split at h
    · exact absurd h (by decide)
    · rename_i h2
      have hg := Classical.not_not.1 h1
      have hd := Classical.not_not.1 h2
      rw [readD_may hg hd]
      obtain ⟨a, b, c, d⟩ := hd
      refine ⟨hg, ⟨fun k e he => ?_, fun k hk => a k (by rw [descsOf_length] at hk; exact hk), fun i h1 h2 => c i (by rw [descsOf_length] at h1; exact h1) h2, b⟩, d, rfl⟩
      have hk : k < g.gr.toNat := by
        rcases Nat.lt_or_ge k (descsOf x g.gr.toNat).length with q | q
        · rwa [descsOf_length] at q
        · rw [List.getElem?_eq_none q] at he; cases he
      rw [descsOf_get hk] at he
      exact Option.some.inj he
theorem readD_is {g : GeoV} {x : Blk} {l : List DescV} (hg : May g) (hl : MayD g l) (h : IsDescs x l) : readD g x = (l, 0) := by
  have e : g.gr.toNat = l.length := by have := hl.1; omega
  have e2 := h.descsOf
  rw [readD_may hg ⟨fun k hk => h.six k (by omega), h.sum, fun i h1 h2 => h.noughts i (by omega) h2, by rw [e, e2]; exact hl⟩, e, e2]
theorem read_writeD {g : GeoV} {l : List DescV} (hg : May g) (hl : MayD g l) : readD g (descsB l) = (l, 0) :=
  readD_is hg hl (descsB_is (hl.small hg) (by have := hl.four hg; omega))
theorem write_readD {g : GeoV} {x : Blk} (h : (readD g x).2 = 0) : writeD g (readD g x).1 = (x, 0) := by
  obtain ⟨hg, h1, h2, _⟩ := readD_ok h
  rw [writeD_may hg h2, (descsB_is (h2.small hg) (by have := h2.four hg; omega)).same h1]
theorem readD_over {g : GeoV} {l : List DescV} {a v : Nat} {hv : v < 256} (hg : May g) (hl : MayD g l) (ha : a < 256) : (readD g (overB (descsB l) a v hv)).2 = 0 ↔ v = 0 := by
  constructor
  · intro h
    exact (descsB_is (hl.small hg) (by have := hl.four hg; omega)).sum.over ha (readD_ok h).2.1.sum
  · rintro rfl
    rw [overB_zero, read_writeD hg hl]
/-! One is not the other. -/
theorem super_no_descs {x : Blk} {s : SuperV} (h : IsSuper x s) (g : GeoV) : (readD g x).2 ≠ 0 := fun q => by
  obtain ⟨hg, h1, h2, _⟩ := readD_ok q
  have := h1.six 0 (by have := h2.four hg; omega)
  have h6 := h.size
  rw [show 8 * 0 + 6 = 6 from rfl, h6] at this
  exact absurd this (by decide)
theorem descs_no_super {x : Blk} {l : List DescV} (h : IsDescs x l) (hl : 1 ≤ l.length) : (readS x).2 ≠ 0 := fun q => by
  have h1 := (readS_ok q).1.size
  have h2 := h.six 0 (by omega)
  rw [show 8 * 0 + 6 = 6 from rfl, h1] at h2
  exact absurd h2 (by decide)
/-! A block of which all bytes are the same. -/
theorem fill_no_super {x : Blk} {c : Nat} (hx : ∀ i, i < 256 → x.f i = c) : (readS x).2 = 60 := by
  unfold readS
  rw [if_pos]
  intro ⟨h, _⟩
  unfold g32 at h
  simp only [Nat.zero_add] at h
  have e0 := hx 0 (by omega); have e1 := hx 1 (by omega); have e2 := hx 2 (by omega); have e3 := hx 3 (by omega)
  generalize x.f 0 = a0 at h e0
  generalize x.f 1 = a1 at h e1
  generalize x.f 2 = a2 at h e2
  generalize x.f 3 = a3 at h e3
  rw [e0, e1, e2, e3] at h
  have h' : 16843009 * c = 827216465 := by
    rw [← h]; omega
  rcases Nat.lt_or_ge c 50 with q | q
  · have := Nat.mul_le_mul_left 16843009 (Nat.le_of_lt_succ q)
    rw [h'] at this
    exact absurd this (by decide)
  · have := Nat.mul_le_mul_left 16843009 q
    rw [h'] at this
    exact absurd this (by decide)
set_option maxRecDepth 100000 in
theorem zeros_not_sealed : ¬ run ff (fun _ => 0) 252 ^^^ ff = 0 := by
  have h0 : shN 0 4294967295 = 4294967295 := rfl
  have h1 : shN 28 4294967295 = 2262315194 := by rw [show 28 = 0 + 28 from rfl, shN_add, h0]; decide +kernel
  have h2 : shN 56 4294967295 = 1653809281 := by rw [show 56 = 28 + 28 from rfl, shN_add, h1]; decide +kernel
  have h3 : shN 84 4294967295 = 4056468028 := by rw [show 84 = 56 + 28 from rfl, shN_add, h2]; decide +kernel
  have h4 : shN 112 4294967295 = 776242744 := by rw [show 112 = 84 + 28 from rfl, shN_add, h3]; decide +kernel
  have h5 : shN 140 4294967295 = 940515372 := by rw [show 140 = 112 + 28 from rfl, shN_add, h4]; decide +kernel
  have h6 : shN 168 4294967295 = 3204135540 := by rw [show 168 = 140 + 28 from rfl, shN_add, h5]; decide +kernel
  have h7 : shN 196 4294967295 = 3095269697 := by rw [show 196 = 168 + 28 from rfl, shN_add, h6]; decide +kernel
  have h8 : shN 224 4294967295 = 2140112918 := by rw [show 224 = 196 + 28 from rfl, shN_add, h7]; decide +kernel
  have h9 : shN 252 4294967295 = 3033700136 := by rw [show 252 = 224 + 28 from rfl, shN_add, h8]; decide +kernel
  have h10 : shN 280 4294967295 = 4127697096 := by rw [show 280 = 252 + 28 from rfl, shN_add, h9]; decide +kernel
  have h11 : shN 308 4294967295 = 2635375860 := by rw [show 308 = 280 + 28 from rfl, shN_add, h10]; decide +kernel
  have h12 : shN 336 4294967295 = 462477060 := by rw [show 336 = 308 + 28 from rfl, shN_add, h11]; decide +kernel
  have h13 : shN 364 4294967295 = 3371582729 := by rw [show 364 = 336 + 28 from rfl, shN_add, h12]; decide +kernel
  have h14 : shN 392 4294967295 = 2909470474 := by rw [show 392 = 364 + 28 from rfl, shN_add, h13]; decide +kernel
  have h15 : shN 420 4294967295 = 3196108056 := by rw [show 420 = 392 + 28 from rfl, shN_add, h14]; decide +kernel
  have h16 : shN 448 4294967295 = 741825206 := by rw [show 448 = 420 + 28 from rfl, shN_add, h15]; decide +kernel
  have h17 : shN 476 4294967295 = 3190709049 := by rw [show 476 = 448 + 28 from rfl, shN_add, h16]; decide +kernel
  have h18 : shN 504 4294967295 = 391456027 := by rw [show 504 = 476 + 28 from rfl, shN_add, h17]; decide +kernel
  have h19 : shN 532 4294967295 = 3639521401 := by rw [show 532 = 504 + 28 from rfl, shN_add, h18]; decide +kernel
  have h20 : shN 560 4294967295 = 260404012 := by rw [show 560 = 532 + 28 from rfl, shN_add, h19]; decide +kernel
  have h21 : shN 588 4294967295 = 389967429 := by rw [show 588 = 560 + 28 from rfl, shN_add, h20]; decide +kernel
  have h22 : shN 616 4294967295 = 2764964659 := by rw [show 616 = 588 + 28 from rfl, shN_add, h21]; decide +kernel
  have h23 : shN 644 4294967295 = 4145175861 := by rw [show 644 = 616 + 28 from rfl, shN_add, h22]; decide +kernel
  have h24 : shN 672 4294967295 = 2335380873 := by rw [show 672 = 644 + 28 from rfl, shN_add, h23]; decide +kernel
  have h25 : shN 700 4294967295 = 1272609568 := by rw [show 700 = 672 + 28 from rfl, shN_add, h24]; decide +kernel
  have h26 : shN 728 4294967295 = 2454507365 := by rw [show 728 = 700 + 28 from rfl, shN_add, h25]; decide +kernel
  have h27 : shN 756 4294967295 = 554204250 := by rw [show 756 = 728 + 28 from rfl, shN_add, h26]; decide +kernel
  have h28 : shN 784 4294967295 = 3011138372 := by rw [show 784 = 756 + 28 from rfl, shN_add, h27]; decide +kernel
  have h29 : shN 812 4294967295 = 3552311513 := by rw [show 812 = 784 + 28 from rfl, shN_add, h28]; decide +kernel
  have h30 : shN 840 4294967295 = 2264609321 := by rw [show 840 = 812 + 28 from rfl, shN_add, h29]; decide +kernel
  have h31 : shN 868 4294967295 = 2490167952 := by rw [show 868 = 840 + 28 from rfl, shN_add, h30]; decide +kernel
  have h32 : shN 896 4294967295 = 3829486146 := by rw [show 896 = 868 + 28 from rfl, shN_add, h31]; decide +kernel
  have h33 : shN 924 4294967295 = 3648135825 := by rw [show 924 = 896 + 28 from rfl, shN_add, h32]; decide +kernel
  have h34 : shN 952 4294967295 = 2925292090 := by rw [show 952 = 924 + 28 from rfl, shN_add, h33]; decide +kernel
  have h35 : shN 980 4294967295 = 3684015113 := by rw [show 980 = 952 + 28 from rfl, shN_add, h34]; decide +kernel
  have h36 : shN 1008 4294967295 = 4113275612 := by rw [show 1008 = 980 + 28 from rfl, shN_add, h35]; decide +kernel
  have h37 : shN 1036 4294967295 = 395248915 := by rw [show 1036 = 1008 + 28 from rfl, shN_add, h36]; decide +kernel
  have h38 : shN 1064 4294967295 = 3610748052 := by rw [show 1064 = 1036 + 28 from rfl, shN_add, h37]; decide +kernel
  have h39 : shN 1092 4294967295 = 4169359237 := by rw [show 1092 = 1064 + 28 from rfl, shN_add, h38]; decide +kernel
  have h40 : shN 1120 4294967295 = 831054945 := by rw [show 1120 = 1092 + 28 from rfl, shN_add, h39]; decide +kernel
  have h41 : shN 1148 4294967295 = 2455931773 := by rw [show 1148 = 1120 + 28 from rfl, shN_add, h40]; decide +kernel
  have h42 : shN 1176 4294967295 = 1763015250 := by rw [show 1176 = 1148 + 28 from rfl, shN_add, h41]; decide +kernel
  have h43 : shN 1204 4294967295 = 225663218 := by rw [show 1204 = 1176 + 28 from rfl, shN_add, h42]; decide +kernel
  have h44 : shN 1232 4294967295 = 4041045570 := by rw [show 1232 = 1204 + 28 from rfl, shN_add, h43]; decide +kernel
  have h45 : shN 1260 4294967295 = 1596253096 := by rw [show 1260 = 1232 + 28 from rfl, shN_add, h44]; decide +kernel
  have h46 : shN 1288 4294967295 = 4193003459 := by rw [show 1288 = 1260 + 28 from rfl, shN_add, h45]; decide +kernel
  have h47 : shN 1316 4294967295 = 1136353813 := by rw [show 1316 = 1288 + 28 from rfl, shN_add, h46]; decide +kernel
  have h48 : shN 1344 4294967295 = 4044800875 := by rw [show 1344 = 1316 + 28 from rfl, shN_add, h47]; decide +kernel
  have h49 : shN 1372 4294967295 = 2657932270 := by rw [show 1372 = 1344 + 28 from rfl, shN_add, h48]; decide +kernel
  have h50 : shN 1400 4294967295 = 3484903397 := by rw [show 1400 = 1372 + 28 from rfl, shN_add, h49]; decide +kernel
  have h51 : shN 1428 4294967295 = 3328753424 := by rw [show 1428 = 1400 + 28 from rfl, shN_add, h50]; decide +kernel
  have h52 : shN 1456 4294967295 = 3365968902 := by rw [show 1456 = 1428 + 28 from rfl, shN_add, h51]; decide +kernel
  have h53 : shN 1484 4294967295 = 1982246968 := by rw [show 1484 = 1456 + 28 from rfl, shN_add, h52]; decide +kernel
  have h54 : shN 1512 4294967295 = 3400186493 := by rw [show 1512 = 1484 + 28 from rfl, shN_add, h53]; decide +kernel
  have h55 : shN 1540 4294967295 = 2173951396 := by rw [show 1540 = 1512 + 28 from rfl, shN_add, h54]; decide +kernel
  have h56 : shN 1568 4294967295 = 361302189 := by rw [show 1568 = 1540 + 28 from rfl, shN_add, h55]; decide +kernel
  have h57 : shN 1596 4294967295 = 3725030418 := by rw [show 1596 = 1568 + 28 from rfl, shN_add, h56]; decide +kernel
  have h58 : shN 1624 4294967295 = 287196557 := by rw [show 1624 = 1596 + 28 from rfl, shN_add, h57]; decide +kernel
  have h59 : shN 1652 4294967295 = 341430410 := by rw [show 1652 = 1624 + 28 from rfl, shN_add, h58]; decide +kernel
  have h60 : shN 1680 4294967295 = 2166426100 := by rw [show 1680 = 1652 + 28 from rfl, shN_add, h59]; decide +kernel
  have h61 : shN 1708 4294967295 = 3558917345 := by rw [show 1708 = 1680 + 28 from rfl, shN_add, h60]; decide +kernel
  have h62 : shN 1736 4294967295 = 511351016 := by rw [show 1736 = 1708 + 28 from rfl, shN_add, h61]; decide +kernel
  have h63 : shN 1764 4294967295 = 1197076683 := by rw [show 1764 = 1736 + 28 from rfl, shN_add, h62]; decide +kernel
  have h64 : shN 1792 4294967295 = 3269371036 := by rw [show 1792 = 1764 + 28 from rfl, shN_add, h63]; decide +kernel
  have h65 : shN 1820 4294967295 = 3897040726 := by rw [show 1820 = 1792 + 28 from rfl, shN_add, h64]; decide +kernel
  have h66 : shN 1848 4294967295 = 1080338437 := by rw [show 1848 = 1820 + 28 from rfl, shN_add, h65]; decide +kernel
  have h67 : shN 1876 4294967295 = 3385661084 := by rw [show 1876 = 1848 + 28 from rfl, shN_add, h66]; decide +kernel
  have h68 : shN 1904 4294967295 = 1355888020 := by rw [show 1904 = 1876 + 28 from rfl, shN_add, h67]; decide +kernel
  have h69 : shN 1932 4294967295 = 3878121512 := by rw [show 1932 = 1904 + 28 from rfl, shN_add, h68]; decide +kernel
  have h70 : shN 1960 4294967295 = 816356730 := by rw [show 1960 = 1932 + 28 from rfl, shN_add, h69]; decide +kernel
  have h71 : shN 1988 4294967295 = 3476680879 := by rw [show 1988 = 1960 + 28 from rfl, shN_add, h70]; decide +kernel
  have h72 : shN 2016 4294967295 = 1503438350 := by rw [show 2016 = 1988 + 28 from rfl, shN_add, h71]; decide +kernel
  rw [run_shift, show 8 * 252 = 2016 from rfl, show ff = 4294967295 from rfl, h72]
  decide +kernel
theorem fill_no_descs {x : Blk} {c : Nat} (hx : ∀ i, i < 256 → x.f i = c) (g : GeoV) : (readD g x).2 ≠ 0 := fun q => by
  obtain ⟨hg, h1, h2, _⟩ := readD_ok q
  have h6 := h1.six 0 (by have := h2.four hg; omega)
  unfold g16 at h6
  rw [hx _ (by omega), hx _ (by omega)] at h6
  obtain rfl : c = 0 := by omega
  have h3 := h1.sum
  unfold Sealed sumB sum at h3
  rw [run_congr (g := fun _ => 0) 252 fun i hi => hx i (by omega)] at h3
  refine zeros_not_sealed ?_
  rw [← h3]
  unfold g32
  rw [hx _ (by omega), hx _ (by omega), hx _ (by omega), hx _ (by omega)]
/-! One group less. -/
def GeoV.less (g : GeoV) : GeoV := ⟨g.gr - 1, g.sz, g.ino, g.jr⟩
theorem less_one {g : GeoV} (h : g.gr = 1) (x : Blk) : (readD g.less x).2 = 50 := by
  unfold readD
  rw [if_pos]
  intro q
  have := q.1
  unfold GeoV.less at this
  simp only at this
  omega
theorem less_may {g : GeoV} (hg : May g) (h : g.gr ≠ 1) : May g.less := by
  obtain ⟨h1, h2, h3, h4, h5, h6, h7, h8, h9, h10, h11⟩ := hg
  unfold May GeoV.less
  simp only
  refine ⟨by omega, by omega, h3, h4, h5, h6, h7, h8, h9, h10, ?_⟩
  rw [Int.sub_mul, Int.one_mul]; omega
theorem less_rows {g : GeoV} {l : List DescV} (hg : May g) (hl : MayD g l) (h1 : g.gr ≠ 1) {d : DescV} (hd : l[(g.gr - 1).toNat]? = some d) :
    ((readD g.less (descsB l)).2 = 0 ↔ d = .zero) ∧ ((readD g.less (descsB l)).2 = 0 → (readD g.less (descsB l)).1 = l.take (g.gr - 1).toNat) := by
  have hI := descsB_is (hl.small hg) (by have := hl.four hg; omega)
  generalize descsB l = x at hI
  have h4 := hl.four hg
  have hlen := hl.1
  have hm := less_may hg h1
  have hrow := hI.rows _ _ hd
  have key : (readD g.less x).2 = 0 → (readD g.less x).1 = l.take (g.gr - 1).toNat := fun q => by
    obtain ⟨_, _, _, e⟩ := readD_ok q
    rw [e]
    show descsOf x (g.gr - 1).toNat = _
    have e2 := hI.descsOf
    apply List.ext_getElem?
    intro k
    rcases Nat.lt_or_ge k (g.gr - 1).toNat with u | u
    · rw [descsOf_get u, List.getElem?_take, if_pos u, List.getElem?_eq_getElem (by omega), hI.rows k _ (List.getElem?_eq_getElem (by omega))]
    · rw [List.getElem?_eq_none (by rw [descsOf_length]; exact u), List.getElem?_eq_none (by rw [List.length_take]; omega)]
  refine ⟨⟨fun q => ?_, fun e => ?_⟩, key⟩
  · obtain ⟨_, a, b, _⟩ := readD_ok q
    have hn := a.noughts
    have hb : (((readD g.less x).1.length : Nat) : Int) = g.gr - 1 := b.1
    rw [← hrow]
    unfold descOf g16 DescV.zero
    rw [hn _ (by omega) (by omega), hn _ (by omega) (by omega), hn _ (by omega) (by omega), hn _ (by omega) (by omega), hn _ (by omega) (by omega), hn _ (by omega) (by omega)]
    rfl
  · subst e
    have hk : (g.gr - 1).toNat < l.length := by omega
    have hb : ∀ i, 8 * (g.gr - 1).toNat ≤ i → i < 8 * (g.gr - 1).toNat + 8 → x.f i = Blk.zero.f i := descOf_same (y := .zero) (by rw [hrow]; rfl) (by rw [hI.six _ hk]; rfl)
    have hlt : (l.take (g.gr - 1).toNat).length = (g.gr - 1).toNat := by rw [List.length_take]; omega
    rw [readD_is (l := l.take (g.gr - 1).toNat) hm ?_ ?_]
    · refine ⟨by rw [hlt]; show _ = g.gr - 1; omega, fun d hd => ?_⟩
      have := hl.2 d (List.mem_of_mem_take hd)
      have e : dataG g.less = dataG g := by unfold dataG; rw [if_pos hm, if_pos hg]; rfl
      rw [e]
      exact this
    · refine ⟨fun k d hd => ?_, fun k hk => hI.six k (by rw [hlt] at hk; omega), fun i h1 h2 => ?_, hI.sum⟩
      · rw [List.getElem?_take] at hd
        split at hd
        · exact hI.rows k d hd
        · cases hd
      · rw [hlt] at h1
        rcases Nat.lt_or_ge i (8 * (g.gr - 1).toNat + 8) with u | u
        · exact hb i h1 u
        · exact hI.noughts i (by omega) h2
end Go.Proofs.YtmlmpflfejbbcaaDoor
namespace Go.Proofs.YtmlmpflfejbbcaaDoor
open Go.RowKit

/-! Superblocks and descriptors in memory; what the program's package (and the document's own) say. -/
def BVar (w : World) (b : Nat) (X : Blk) : Prop := w.heap[b]? = some (.cells (arr X) 29 (0, 0))
theorem BVar.lt {w : World} {b : Nat} {X : Blk} (h : BVar w b X) : b < w.heap.size := (Array.getElem?_eq_some_iff.1 h).1
theorem BVar.below {w w' : World} {b : Nat} {X : Blk} (h : BVar w b X) (hb : Below w.heap.size w w') : BVar w' b X := (hb.block b h.lt).trans h
theorem BVar.at {w : World} {b : Nat} {X : Blk} (h : BVar w b X) : At w b 0 X := .row h
theorem BVar.row {w : World} {b : Nat} {X : Blk} (h : BVar w b X) {o n : Nat} (hn : o + n ≤ 256) : Row w (some ⟨b, o, none⟩) n (fun i => X.f (o + i)) :=
  ⟨fun i => X.lt (o + i), fun _ => ⟨b, o, rfl, h.lt, fun i hi => by
    have := h.at.cell (i := o + i) (by omega)
    rwa [Nat.zero_add] at this⟩⟩
theorem BVar.row0 {w : World} {b : Nat} {X : Blk} (h : BVar w b X) {n : Nat} (hn : n ≤ 256) : Row w (some ⟨b, 0, none⟩) n X.f :=
  ⟨X.lt, fun _ => ⟨b, 0, rfl, h.lt, fun i hi => h.at.cell (by omega)⟩⟩
def SVar (w : World) (b : Nat) (s : SuperV) : Prop := w.heap[b]? = some (.cells (scs s) 26 (0, 0))
theorem SVar.lt {w : World} {b : Nat} {s : SuperV} (h : SVar w b s) : b < w.heap.size := (Array.getElem?_eq_some_iff.1 h).1
theorem SVar.below {w w' : World} {b : Nat} {s : SuperV} (h : SVar w b s) (hb : Below w.heap.size w w') : SVar w' b s := (hb.block b h.lt).trans h
def SAt (w : World) (b o : Nat) (s : SuperV) : Prop := w.rangeAt b o (scs s).toList
theorem SVar.cell {w : World} {b : Nat} {s : SuperV} (h : SVar w b s) {i : Nat} {v : Value} (hv : (scs s)[i]? = some v) : w.cell? ⟨b, i, none⟩ = some v := (cell_of_row w b i _ _ _ h).trans hv
theorem SVar.at {w : World} {b : Nat} {s : SuperV} (h : SVar w b s) : SAt w b 0 s := fun i v hv => by
  rw [Nat.zero_add]; exact h.cell (by simpa using hv)
theorem SVar.geo {w : World} {b : Nat} {s : SuperV} (h : SVar w b s) : GAt w b 0 s.g := fun i v hv => by
  rw [gcs_eq] at hv
  rw [Nat.zero_add]
  refine h.cell ?_
  rw [scs_eq]
  match i, hv with
  | 0, hv => exact hv
  | 1, hv => exact hv
  | 2, hv => exact hv
  | 3, hv => exact hv
theorem SVar.c0 {w : World} {b : Nat} {s : SuperV} (h : SVar w b s) : w.cell? ⟨b, 0, none⟩ = some (.int .i64 s.g.gr) := h.cell (by rw [scs_eq]; rfl)
theorem SVar.c1 {w : World} {b : Nat} {s : SuperV} (h : SVar w b s) : w.cell? ⟨b, 1, none⟩ = some (.int .i64 s.g.sz) := h.cell (by rw [scs_eq]; rfl)
theorem SVar.c2 {w : World} {b : Nat} {s : SuperV} (h : SVar w b s) : w.cell? ⟨b, 2, none⟩ = some (.int .i64 s.g.ino) := h.cell (by rw [scs_eq]; rfl)
theorem SVar.c3 {w : World} {b : Nat} {s : SuperV} (h : SVar w b s) : w.cell? ⟨b, 3, none⟩ = some (.int .i64 s.g.jr) := h.cell (by rw [scs_eq]; rfl)
theorem SVar.c4 {w : World} {b : Nat} {s : SuperV} (h : SVar w b s) : w.cell? ⟨b, 4, none⟩ = some (.int .u32 ((s.o : Nat) : Int)) := h.cell (by rw [scs_eq]; rfl)
theorem super_size5 : (Tryd.prog.info? 26).map (·.size) = some 5 := by kernel_rfl
theorem super_size (s : SuperV) : (Tryd.prog.info? 26).map (·.size) = some (scs s).toList.length := by rw [super_size5, scs_eq]; rfl
theorem desc_size3 : (Tryd.prog.info? 48).map (·.size) = some 3 := by kernel_rfl
theorem desc_size (d : DescV) : (Tryd.prog.info? 48).map (·.size) = some (dcs d).toList.length := by rw [desc_size3, dcs_eq]; rfl
theorem zero_super (w : World) : (zeroValue 26).run Tryd.prog w = .ok (.agg (scs .zero)) w := by
  have h : (Tryd.prog.info? 26).map (fun i => (i.zero, i.size)) = some (some (.agg #[.int .i64 0, .int .i64 0, .int .i64 0, .int .i64 0, .int .u32 0]), 5) := by kernel_rfl
  rw [(zero_of_info h).1 w, scs_eq]; rfl
theorem scs_one (s : SuperV) : (scs s).all (·.oneCell') = true := by rw [scs_eq]; simp [Value.oneCell']
theorem scs_count (s : SuperV) : (scs s).size = 5 := by rw [scs_eq]; rfl

section
variable {ops : Array Oper} {rest : List Oper} {op : Oper} {a : Act} {w : World} {Q : Exit → Act → World → Prop}
theorem load_super (hgd : op.guard = none) (x : Operand) (ho : op.op = .load 26 x) (b o : Nat) (hx : a.eval x = .pointer (some ⟨b, o, none⟩)) (s : SuperV) (hc : SAt w b o s)
    (h : wpList Tryd.prog ops Q rest (a.put op.dst (.agg (scs s))) w) : wpList Tryd.prog ops Q (op :: rest) a w :=
  wpList_load_mid hgd 26 x ho b o hx (scs s).toList _ hc Tryd.underlying26 rfl (super_size s) (by simpa using h)
theorem load_super_w (hw : Region.wanted op (yielded ops a.tmps) = true) (x : Operand) (ho : op.op = .load 26 x) (b o : Nat) (hx : a.eval x = .pointer (some ⟨b, o, none⟩)) (s : SuperV) (hc : SAt w b o s)
    (h : wpList Tryd.prog ops Q rest (a.put op.dst (.agg (scs s))) w) : wpList Tryd.prog ops Q (op :: rest) a w :=
  BigFrame.wpList_want hw fun _ hK => wp_load_mid 26 x ho b o hx (scs s).toList _ hc Tryd.underlying26 rfl (super_size s) (hK _ _ (by simpa using h))
/-- A variable that was just made gets its value. -/
theorem store_newB (hgd : op.guard = none) (x y : Operand) (ho : op.op = .store 29 x y) (X : Blk) (hx : a.eval x = .pointer (some ⟨w.heap.size, 0, none⟩)) (hy : a.eval y = .agg (arr X))
    (h : wpList Tryd.prog ops Q rest (a.put op.dst undef) (w.alloc (.cells (arr X) 29))) : wpList Tryd.prog ops Q (op :: rest) a (w.alloc (.cells (arr .zero) 29)) := by
  refine store_row hgd x y ho w.heap.size X .zero 29 hx hy (heap_alloc_new w _) ?_
  rw [World.setRow_alloc_new]; exact h
theorem store_newS (hgd : op.guard = none) (x y : Operand) (ho : op.op = .store 26 x y) (s : SuperV) (hx : a.eval x = .pointer (some ⟨w.heap.size, 0, none⟩)) (hy : a.eval y = .agg (scs s))
    (h : wpList Tryd.prog ops Q rest (a.put op.dst undef) (w.alloc (.cells (scs s) 26))) : wpList Tryd.prog ops Q (op :: rest) a (w.alloc (.cells (scs .zero) 26)) := by
  refine wpList_plain hgd fun _ hK => ?_
  unfold Oper.wp execOp
  have e := run_storeVar_row (P := Tryd.prog) (w.alloc (.cells (scs .zero) 26)) w.heap.size 26 26 (scs .zero) (scs s) (heap_alloc_new w _) (by rw [scs_count]; exact super_size5) (by rw [scs_count, scs_count]) (scs_one s)
  simp only [ho, hx, hy, Instr.storeAt, Instr.sureAddr, Sem.run_bind, Sem.run_pure, Result.andThen_ok, e]
  rw [World.setRow_alloc_new]
  exact hK _ _ h
theorem built_super (g : GeoV) (o : Nat) : Tryd.prog.built 26 [(0, .agg (gcs g)), (1, .int .u32 (o : Int))] = some (scs ⟨g, o⟩) := by
  rw [gcs_eq, scs_eq]; kernel_rfl
theorem build_super (hgd : op.guard = none) (y z : Operand) (ho : op.op = .build 26 #[(0, y), (1, z)]) (g : GeoV) (o : Nat) (hy : a.eval y = .agg (gcs g)) (hz : a.eval z = .int .u32 (o : Int))
    (h : wpList Tryd.prog ops Q rest (a.put op.dst (.agg (scs ⟨g, o⟩))) w) : wpList Tryd.prog ops Q (op :: rest) a w :=
  wpList_plain hgd fun _ hK => wp_build 26 #[(0, y), (1, z)] ho (by simp [hy, hz, built_super]) (hK _ _ (by simpa [hy, hz, built_super] using h))
theorem build_zeroB (hgd : op.guard = none) (ho : op.op = .build 29 #[])
    (h : wpList Tryd.prog ops Q rest (a.put op.dst (.agg (arr .zero))) w) : wpList Tryd.prog ops Q (op :: rest) a w :=
  wpList_plain hgd fun _ hK => wp_build 29 #[] ho (by simp [built_zero]) (hK _ _ (by simpa [built_zero] using h))
end

/-! Lists of descriptors. -/
def DAt (w : World) (b o : Nat) (d : DescV) : Prop := w.rangeAt b o (dcs d).toList
theorem DAt.below {w w' : World} {b o : Nat} {d : DescV} (h : DAt w b o d) (hb : Below w.heap.size w w') : DAt w' b o d := fun i v hv => by
  have := h i v hv
  exact (hb.cell (p := ⟨b, o + i, none⟩) (World.block_lt_of_cell? _ _ this)).trans this
/-- The slice value '.slice A l.length _' reads as the descriptors l. -/
structure DRow (w : World) (A : Option Addr) (l : List DescV) : Prop where
  most : l.length ≤ 140737488355328
  fits : ∀ d ∈ l, d.Fits
  mem : 0 < l.length → ∃ b o, A = some ⟨b, o, none⟩ ∧ b < w.heap.size ∧ ∀ k d, l[k]? = some d → DAt w b (o + k * 3) d
theorem DRow.below {w w' : World} {A : Option Addr} {l : List DescV} (h : DRow w A l) (hb : Below w.heap.size w w') : DRow w' A l :=
  ⟨h.most, h.fits, fun h0 => by
    obtain ⟨b, o, e, hlt, hc⟩ := h.mem h0
    exact ⟨b, o, e, Nat.lt_of_lt_of_le hlt hb.size, fun k d hd => (hc k d hd).below hb⟩⟩
theorem DRow.drewN {w : World} {A : Option Addr} {l : List DescV} (h : DRow w A l) (k : Nat) : DRow (w.drewN k) A l := ⟨h.most, h.fits, h.mem⟩
theorem DRow.nil (w : World) (A : Option Addr) : DRow w A [] := ⟨by simp, fun _ h => by simp at h, fun h => absurd h (by simp)⟩
theorem DRow.take {w : World} {A : Option Addr} {l : List DescV} (h : DRow w A l) (k : Nat) : DRow w A (l.take k) :=
  ⟨by rw [List.length_take]; have := h.most; omega, fun d hd => h.fits d (List.mem_of_mem_take hd), fun h0 => by
    obtain ⟨b, o, e, hlt, hc⟩ := h.mem (by rw [List.length_take] at h0; omega)
    refine ⟨b, o, e, hlt, fun j d hd => hc j d ?_⟩
    rw [List.getElem?_take] at hd
    split at hd
    · exact hd
    · cases hd⟩
/-- .. in a block of the call's own, which may be written: its cells are of ints. -/
structure DOwn (w : World) (base : Nat) (A : Option Addr) (l : List DescV) : Prop where
  row : DRow w A l
  own : 0 < l.length → ∃ b o t cs, A = some ⟨b, o, none⟩ ∧ base ≤ b ∧ w.heap[b]? = some (.cells cs t (0, 0))

/-- What a package says of superblocks and descriptors (the functions Write, Read, WriteDescs, ReadDescs, by their numbers). -/
structure SuperSays (fW fR fWD fRD : Nat) : Prop where
  write : ∀ (s : SuperV) (w : World), s.Fits → Env w → Calls Tryd.prog fW #[.agg (scs s)] w fun e w' => e = .returned (.tuple #[.agg (arr (writeS s).1), .int .i64 (writeS s).2]) ∧ Below w.heap.size w w'
  read : ∀ (X : Blk) (w : World), Env w → Calls Tryd.prog fR #[.agg (arr X)] w fun e w' => e = .returned (.tuple #[.agg (scs (readS X).1), .int .i64 (readS X).2]) ∧ Below w.heap.size w w'
  writeD : ∀ (g : GeoV) (A : Option Addr) (n c : Nat) (l : List DescV) (w : World), g.Fits → Env w → n = l.length → DRow w A l → Calls Tryd.prog fWD #[.agg (gcs g), .slice A n c] w fun e w' => e = .returned (.tuple #[.agg (arr (writeD g l).1), .int .i64 (writeD g l).2]) ∧ Below w.heap.size w w'
  readD : ∀ (g : GeoV) (X : Blk) (w : World), g.Fits → Env w → Calls Tryd.prog fRD #[.agg (gcs g), .agg (arr X)] w fun e w' => ∃ A n c, e = .returned (.tuple #[.slice A n c, .int .i64 (readD g X).2]) ∧ n = (readD g X).1.length ∧ n ≤ c ∧ c ≤ 1000 ∧ DOwn w' w.heap.size A (readD g X).1 ∧ Below w.heap.size w w'
end Go.Proofs.YtmlmpflfejbbcaaDoor
namespace Go.Proofs.YtmlmpflfejbbcaaDoor
open Go.RowKit

/-! Two structs held against one another. -/
theorem DescV.eq_iff (a b : DescV) : a = b ↔ a.b = b.b ∧ a.i = b.i ∧ a.d = b.d := by
  cases a; cases b; simp
theorem SuperV.eq_iff (a b : SuperV) : a = b ↔ a.g.gr = b.g.gr ∧ a.g.sz = b.g.sz ∧ a.g.ino = b.g.ino ∧ a.g.jr = b.g.jr ∧ a.o = b.o := by
  obtain ⟨⟨a1, a2, a3, a4⟩, a5⟩ := a
  obtain ⟨⟨b1, b2, b3, b4⟩, b5⟩ := b
  simp [and_assoc]
noncomputable instance : DecidableEq DescV := fun _ _ => Classical.propDecidable _
noncomputable instance : DecidableEq SuperV := fun _ _ => Classical.propDecidable _
set_option maxRecDepth 100000 in
theorem equalIn_desc (a b : DescV) (w : World) : (Op.equalIn 10000 48 (.agg (dcs a)) (.agg (dcs b))).run Tryd.prog w = .ok (decide (a = b)) w := by
  have e : decide (a = b) = (a.b == b.b && (a.i == b.i && a.d == b.d)) := by
    rw [Bool.eq_iff_iff]
    simp [DescV.eq_iff]
  rw [e, dcs_eq, dcs_eq]
  generalize a.b = x1
  generalize a.i = x2
  generalize a.d = x3
  generalize b.b = y1
  generalize b.i = y2
  generalize b.d = y3
  go_simp
  by_cases h1 : x1 = y1 <;> by_cases h2 : x2 = y2 <;> by_cases h3 : x3 = y3 <;> simp [h1, h2, h3]
set_option maxRecDepth 100000 in
theorem equalIn_super (a b : SuperV) (w : World) : (Op.equalIn 10000 26 (.agg (scs a)) (.agg (scs b))).run Tryd.prog w = .ok (decide (a = b)) w := by
  have e : decide (a = b) = (a.g.gr == b.g.gr && (a.g.sz == b.g.sz && (a.g.ino == b.g.ino && (a.g.jr == b.g.jr && ((a.o : Int) == (b.o : Int)))))) := by
    rw [Bool.eq_iff_iff]
    simp [SuperV.eq_iff]
    intros; omega
  rw [e, scs_eq, scs_eq]
  generalize a.g.gr = x1
  generalize a.g.sz = x2
  generalize a.g.ino = x3
  generalize a.g.jr = x4
  generalize (a.o : Int) = x5
  generalize b.g.gr = y1
  generalize b.g.sz = y2
  generalize b.g.ino = y3
  generalize b.g.jr = y4
  generalize (b.o : Int) = y5
  go_simp
  by_cases h1 : x1 = y1 <;> by_cases h2 : x2 = y2 <;> by_cases h3 : x3 = y3 <;> by_cases h4 : x4 = y4 <;> by_cases h5 : x5 = y5 <;> simp [h1, h2, h3, h4, h5]
theorem super_guard : Tryd.prog.eqGuardType Tryd.prog.depth 26 = false := by kernel_rfl
theorem desc_guard : Tryd.prog.eqGuardType Tryd.prog.depth 48 = false := by kernel_rfl
end Go.Proofs.YtmlmpflfejbbcaaDoor
namespace Go.Proofs.YtmlmpflfejbbcaaDoor
open Go.RowKit CrcM

/-! The document's own answers: numbers out of a block, and its sum. -/
theorem below_drewN {w w' : World} (h : ∃ d, w' = w.drewN d) : Below w.heap.size w w' := by
  obtain ⟨d, rfl⟩ := h
  exact ⟨rfl, rfl, rfl, Nat.le_refl _, fun _ _ => rfl⟩
set_option maxHeartbeats 400000 in
theorem rshort_any (X : Blk) (a : Nat) (w : World) (ha : a + 2 ≤ 256) : Calls Tryd.prog 35 #[.agg (arr X), .int .i64 (a : Int)] w fun e w' => e = .returned (.int .i64 ((g16 X.f a : Nat) : Int)) ∧ Below w.heap.size w w' := by
  have V := Lib.hid (show BVar (w.alloc (.cells (arr X) 29)) w.heap.size X from heap_alloc_new w _)
  have B := Lib.hid ((Below.refl w.heap.size w).alloc (Nat.le_refl _) (.cells (arr X) 29))
  have hl := g16_lt X.lt a
  go_enter Tryd.func35, Tryd.ntmps35
  go_wp2_with fail
  generalize w.alloc (.cells (arr X) 29) = w1 at V B ⊢
  refine (rGet16_yes (some ⟨w.heap.size, 0, none⟩) 256 256 (a : Int) X.f w1 (by omega) (V.out.row0 (by omega)) (by omega) (by omega)).mono ?_
  rintro e w2 ⟨rfl, hb⟩
  have B2 := Lib.hid (B.out.trans ((below_drewN hb).mono B.out.size))
  clear hb
  rw [Int.toNat_natCast]
  go_wp2
  go_ret
  exact ⟨rfl, B2.out⟩
set_option maxHeartbeats 400000 in
theorem rlong_any (X : Blk) (a : Nat) (w : World) (ha : a + 4 ≤ 256) : Calls Tryd.prog 34 #[.agg (arr X), .int .i64 (a : Int)] w fun e w' => e = .returned (.int .u32 ((g32 X.f a : Nat) : Int)) ∧ Below w.heap.size w w' := by
  have V := Lib.hid (show BVar (w.alloc (.cells (arr X) 29)) w.heap.size X from heap_alloc_new w _)
  have B := Lib.hid ((Below.refl w.heap.size w).alloc (Nat.le_refl _) (.cells (arr X) 29))
  go_enter Tryd.func34, Tryd.ntmps34
  go_wp2_with fail
  generalize w.alloc (.cells (arr X) 29) = w1 at V B ⊢
  refine (rGet32_yes (some ⟨w.heap.size, 0, none⟩) 256 256 (a : Int) X.f w1 (by omega) (V.out.row0 (by omega)) (by omega) (by omega)).mono ?_
  rintro e w2 ⟨rfl, hb⟩
  have B2 := Lib.hid (B.out.trans ((below_drewN hb).mono B.out.size))
  clear hb
  rw [Int.toNat_natCast]
  go_wp2
  go_ret
  exact ⟨rfl, B2.out⟩
/-! Are two lists the same? -/
theorem load_desc {ops : Array Oper} {rest : List Oper} {op : Oper} {a : Act} {w : World} {Q : Exit → Act → World → Prop} (hgd : op.guard = none) (x : Operand) (ho : op.op = .load 48 x) (b o : Nat) (hx : a.eval x = .pointer (some ⟨b, o, none⟩)) (d : DescV) (hc : DAt w b o d)
    (h : wpList Tryd.prog ops Q rest (a.put op.dst (.agg (dcs d))) w) : wpList Tryd.prog ops Q (op :: rest) a w :=
  wpList_load_mid hgd 48 x ho b o hx (dcs d).toList _ hc Tryd.underlying48 rfl (desc_size d) (by simpa using h)
theorem quiet_desc {o : Oper} {a : Act} {C : World → Prop} {K : Act → Prop} (x : Operand) (ho : o.op = .load 48 x) (b off : Nat) (hx : a.eval x = .pointer (some ⟨b, off, none⟩)) (d : DescV) (hc : ∀ w, C w → DAt w b off d)
    (hk : K (a.put o.dst (.agg (dcs d)))) : o.quiet Tryd.prog a C K := by
  refine ⟨_, fun w hw => ?_, hk⟩
  unfold Oper.quietAt execOp
  have h := run_loadAt_mid (P := Tryd.prog) w b off 48 (dcs d).toList _ (hc w hw) Tryd.underlying48 rfl (desc_size d)
  simp only [ho, hx, h, Sem.run_bind, Sem.run_pure, Result.andThen_ok]
  exact ⟨rfl, by simp⟩
end Go.Proofs.YtmlmpflfejbbcaaDoor
namespace Go.Proofs.YtmlmpflfejbbcaaDoor
open Go.RowKit CrcM

theorem desc_cells : Tryd.prog.cellsOf 48 = 3 := by kernel_rfl
set_option maxHeartbeats 1000000 in
theorem rSame_yes (A B : Option Addr) (n c d : Nat) (l : List DescV) (w : World) (hn : n = l.length) (hA : DRow w A l) (hB : DRow w B l) :
    Calls Tryd.prog 15 #[.slice A n c, .slice B n d] w fun e w' => e = .returned (.bool true) ∧ Below w.heap.size w w' := by
  have H := Lib.hid hA
  have K := Lib.hid hB
  have hm := hA.most
  have N := Lib.hid hn
  rw [← hn] at hm
  clear hA hB hn
  have hes := desc_guard
  go_enter Tryd.func15, Tryd.ntmps15
  go_wp2
  go_loopw [5] (fun i wr => (∃ k : Nat, k ≤ n ∧ i = .int .i64 k) ∧ Below w.heap.size w wr) (fun i _ => n - (intOf i).toNat)
  case atStart => exact ⟨⟨0, Nat.zero_le _, rfl⟩, Below.refl _ _⟩
  case round =>
    obtain ⟨⟨k, hk, rfl⟩, hbel⟩ := hrel
    by_cases hlt : k < n
    · have hlt' : k < l.length := by have := N.out; omega
      obtain ⟨b, o, rfl, _, hc⟩ := (H.out.below hbel).mem (by omega)
      obtain ⟨b', o', rfl, _, hc'⟩ := (K.out.below hbel).mem (by omega)
      have ck := Lib.hid (hc k _ (List.getElem?_eq_getElem hlt'))
      have ck' := Lib.hid (hc' k _ (List.getElem?_eq_getElem hlt'))
      have heq := fun W => equalIn_desc l[k] l[k] W
      simp only [decide_true] at heq
      have l1 : (0 : Int) ≤ k := by omega
      have l2 : (k : Int) < n := by omega
      clear hc hc'
      go_wp2_with fail
      refine wp_region_class (More wr) (by kernel_rfl) (by kernel_rfl) (More.drew _) ?_
      repeat (first | go_big_quiet_skip | (go_big_quiet_want; first | (refine quiet_desc (.tmp 19) rfl b (o + k * 3) rfl l[k] (by intro w' hw'; exact ck.out.below hw') ?_; simp only [Act.put, List.setIfInBounds_toArray, List.set_cons_zero, List.set_cons_succ]; go_big_quiet_on) | (refine quiet_desc (.tmp 23) rfl b' (o' + k * 3) rfl l[k] (by intro w' hw'; exact ck'.out.below hw') ?_; simp only [Act.put, List.setIfInBounds_toArray, List.set_cons_zero, List.set_cons_succ]; go_big_quiet_on) | (go_big_quiet_op; first | go_big_quiet_on | (apply Exists.intro; refine ⟨fun _ _ => ?_, ?_⟩; (with_reducible exact rfl); go_big_quiet_on))))
      refine wpQuiet_nil ?_
      intro w4 hw4
      have hbel2 := hbel.trans (Below.mono hw4 hbel.size)
      clear hw4
      go_wp2
      go_roundw
      case rel => exact ⟨⟨k + 1, by omega, by go_num⟩, hbel2⟩
      case measure => simp [intOf]; omega
    · go_wp2
      go_ret
      exact ⟨rfl, hbel⟩
set_option maxHeartbeats 1000000 in
theorem rSame_len (A B : Option Addr) (n m c d : Nat) (w : World) (h : n ≠ m) :
    Calls Tryd.prog 15 #[.slice A n c, .slice B m d] w fun e w' => e = .returned (.bool false) ∧ Below w.heap.size w w' := by
  have t : ((n : Int) != (m : Int)) = true := by simp; omega
  have t' : ¬ (n : Int) = (m : Int) := by omega
  go_enter Tryd.func15, Tryd.ntmps15
  go_wp2
  go_ret
  exact ⟨rfl, Below.refl _ _⟩
set_option maxHeartbeats 1000000 in
theorem rSame_no (A B : Option Addr) (n c d j : Nat) (l1 l2 : List DescV) (w : World) (h1 : n = l1.length) (h2 : n = l2.length) (hA : DRow w A l1) (hB : DRow w B l2) (hj : j < n) (he : ∀ k, k < j → l1[k]? = l2[k]?) (hne : l1[j]? ≠ l2[j]?) :
    Calls Tryd.prog 15 #[.slice A n c, .slice B n d] w fun e w' => e = .returned (.bool false) ∧ Below w.heap.size w w' := by
  have H := Lib.hid hA
  have K := Lib.hid hB
  have hm := hA.most
  have N1 := Lib.hid h1
  have N2 := Lib.hid h2
  have E := Lib.hid he
  have NE := Lib.hid hne
  rw [← h1] at hm
  clear hA hB h1 h2 he hne
  have hes := desc_guard
  go_enter Tryd.func15, Tryd.ntmps15
  go_wp2
  go_loopw [5] (fun i wr => (∃ k : Nat, k ≤ j ∧ i = .int .i64 k) ∧ Below w.heap.size w wr) (fun i _ => n - (intOf i).toNat)
  case atStart => exact ⟨⟨0, Nat.zero_le _, rfl⟩, Below.refl _ _⟩
  case round =>
    obtain ⟨⟨k, hk, rfl⟩, hbel⟩ := hrel
    have hk1 : k < l1.length := by have := N1.out; omega
    have hk2 : k < l2.length := by have := N2.out; omega
    obtain ⟨b, o, rfl, _, hc⟩ := (H.out.below hbel).mem (by omega)
    obtain ⟨b', o', rfl, _, hc'⟩ := (K.out.below hbel).mem (by omega)
    have ck := Lib.hid (hc k _ (List.getElem?_eq_getElem hk1))
    have ck' := Lib.hid (hc' k _ (List.getElem?_eq_getElem hk2))
    have heq := fun W => equalIn_desc l1[k] l2[k] W
    have z1 : (0 : Int) ≤ k := by omega
    have z2 : (k : Int) < n := by omega
    clear hc hc'
    by_cases hlt : k < j
    · have e : l1[k] = l2[k] := by
        have := E.out k hlt
        rwa [List.getElem?_eq_getElem hk1, List.getElem?_eq_getElem hk2, Option.some.injEq] at this
      rw [decide_eq_true e] at heq
      clear e
      go_wp2_with fail
      refine wp_region_class (More wr) (by kernel_rfl) (by kernel_rfl) (More.drew _) ?_
      repeat (first | go_big_quiet_skip | (go_big_quiet_want; first | (refine quiet_desc (.tmp 19) rfl b (o + k * 3) rfl l1[k] (by intro w' hw'; exact ck.out.below hw') ?_; simp only [Act.put, List.setIfInBounds_toArray, List.set_cons_zero, List.set_cons_succ]; go_big_quiet_on) | (refine quiet_desc (.tmp 23) rfl b' (o' + k * 3) rfl l2[k] (by intro w' hw'; exact ck'.out.below hw') ?_; simp only [Act.put, List.setIfInBounds_toArray, List.set_cons_zero, List.set_cons_succ]; go_big_quiet_on) | (go_big_quiet_op; first | go_big_quiet_on | (apply Exists.intro; refine ⟨fun _ _ => ?_, ?_⟩; (with_reducible exact rfl); go_big_quiet_on))))
      refine wpQuiet_nil ?_
      intro w4 hw4
      have hbel2 := hbel.trans (Below.mono hw4 hbel.size)
      clear hw4
      go_wp2
      go_roundw
      case rel => exact ⟨⟨k + 1, by omega, by go_num⟩, hbel2⟩
      case measure => simp [intOf]; omega
    · obtain rfl : k = j := by omega
      have e : ¬ l1[k] = l2[k] := fun q => NE.out (by rw [List.getElem?_eq_getElem hk1, List.getElem?_eq_getElem hk2, q])
      rw [decide_eq_false e] at heq
      clear e
      go_wp2_with fail
      refine wp_region_class (More wr) (by kernel_rfl) (by kernel_rfl) (More.drew _) ?_
      repeat (first | go_big_quiet_skip | (go_big_quiet_want; first | (refine quiet_desc (.tmp 19) rfl b (o + k * 3) rfl l1[k] (by intro w' hw'; exact ck.out.below hw') ?_; simp only [Act.put, List.setIfInBounds_toArray, List.set_cons_zero, List.set_cons_succ]; go_big_quiet_on) | (refine quiet_desc (.tmp 23) rfl b' (o' + k * 3) rfl l2[k] (by intro w' hw'; exact ck'.out.below hw') ?_; simp only [Act.put, List.setIfInBounds_toArray, List.set_cons_zero, List.set_cons_succ]; go_big_quiet_on) | (go_big_quiet_op; first | go_big_quiet_on | (apply Exists.intro; refine ⟨fun _ _ => ?_, ?_⟩; (with_reducible exact rfl); go_big_quiet_on))))
      refine wpQuiet_nil ?_
      intro w4 hw4
      have hbel2 := hbel.trans (Below.mono hw4 hbel.size)
      clear hw4
      go_wp2
      go_ret
      exact ⟨rfl, hbel2⟩
theorem first_off {α : Type} : ∀ (l1 l2 : List α), l1.length = l2.length → l1 ≠ l2 → ∃ j, j < l1.length ∧ (∀ k, k < j → l1[k]? = l2[k]?) ∧ l1[j]? ≠ l2[j]?
  | [], [], _, h => absurd rfl h
  | a :: l1, b :: l2, hl, h => by
    by_cases e : a = b
    · subst e
      obtain ⟨j, h1, h2, h3⟩ := first_off l1 l2 (by simpa using hl) (fun q => h (by rw [q]))
      refine ⟨j + 1, by simp; omega, fun k hk => ?_, by simpa using h3⟩
      match k with
      | 0 => rfl
      | k + 1 => simpa using h2 k (by omega)
    · exact ⟨0, by simp, fun k hk => absurd hk (by omega), by simpa using e⟩
theorem rSame_any (A B : Option Addr) (n m c d : Nat) (l1 l2 : List DescV) (w : World) (h1 : n = l1.length) (h2 : m = l2.length) (hA : DRow w A l1) (hB : DRow w B l2) :
    Calls Tryd.prog 15 #[.slice A n c, .slice B m d] w fun e w' => e = .returned (.bool (decide (l1 = l2))) ∧ Below w.heap.size w w' := by
  by_cases hl : n = m
  · subst hl
    by_cases e : l1 = l2
    · subst e
      exact (rSame_yes A B n c d l1 w h1 hA hB).mono fun _ _ ⟨q1, q2⟩ => ⟨by rw [q1, decide_eq_true rfl], q2⟩
    · obtain ⟨j, g1, g2, g3⟩ := first_off l1 l2 (by omega) e
      exact (rSame_no A B n c d j l1 l2 w h1 h2 hA hB (by omega) g2 g3).mono fun _ _ ⟨q1, q2⟩ => ⟨by rw [q1, decide_eq_false e], q2⟩
  · have e : ¬ l1 = l2 := fun q => hl (by rw [h1, h2, q])
    exact (rSame_len A B n m c d w hl).mono fun _ _ ⟨q1, q2⟩ => ⟨by rw [q1, decide_eq_false e], q2⟩
end Go.Proofs.YtmlmpflfejbbcaaDoor
