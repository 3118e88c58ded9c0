import Derived.Test.YtnneppkkmhjpbaaGeoB
namespace Go.Proofs.Ytnneppkkmhjpbaa
open Go.RowKit

/-! Ways told plainly. -/
def levelN (p : Int) : Int := if 0 ≤ p ∧ p ≤ 7 then 0 else if 8 ≤ p ∧ p ≤ 10 then p - 7 else -1
def spanN (l : Int) : Int := if l = 0 then 1 else if l = 1 then 64 else if l = 2 then 4096 else if l = 3 then 262144 else 0
def firstN (p : Int) : Int := if 0 ≤ p ∧ p ≤ 8 then p else if p = 9 then 72 else if p = 10 then 4168 else -1
structure MayI (i : Int) : Prop where
  lo : 0 ≤ i
  hi : i < 65536
instance (i : Int) : Decidable (MayI i) := decidable_of_iff (0 ≤ i ∧ i < 65536) ⟨fun h => ⟨h.1, h.2⟩, fun h => ⟨h.lo, h.hi⟩⟩
def wayN (i : Int) : Int × List Int := if i < 8 then (i, []) else if i < 72 then (8, [i - 8]) else if i < 4168 then (9, [(i - 72) / 64, (i - 72) % 64]) else (10, [(i - 4168) / 4096, (i - 4168) / 64 % 64, (i - 4168) % 64])
/-- The way to a block: the pointer, the numbers below it, the error. -/
def ofN (i : Int) : Int × List Int × Int := if MayI i then ((wayN i).1, (wayN i).2, 0) else (0, [], 100)
theorem ofN_yes {i : Int} (h : MayI i) : ofN i = ((wayN i).1, (wayN i).2, 0) := if_pos h
theorem ofN_no {i : Int} (h : ¬ MayI i) : ofN i = (0, [], 100) := if_neg h
def placeN : List Int → Int → Int
  | [], k => k
  | x :: l, k => placeN l (64 * k + x)
structure MayW (p : Int) (l : List Int) : Prop where
  lo : 0 ≤ p
  hi : p ≤ 10
  len : (l.length : Int) = levelN p
  num : ∀ x ∈ l, 0 ≤ x ∧ x ≤ 63
  all : firstN p + placeN l 0 < 65536
noncomputable instance (p : Int) (l : List Int) : Decidable (MayW p l) := Classical.propDecidable _
/-- Where a way leads. -/
noncomputable def indexN (p : Int) (l : List Int) : Int × Int := if MayW p l then (firstN p + placeN l 0, 0) else (0, 100)
theorem indexN_yes {p : Int} {l : List Int} (h : MayW p l) : indexN p l = (firstN p + placeN l 0, 0) := if_pos h
theorem indexN_no {p : Int} {l : List Int} (h : ¬ MayW p l) : indexN p l = (0, 100) := if_neg h
def nextN (i : Int) : Int := if i < 0 then 0 else if 65536 ≤ i then 65536 else if i < 8 then i + 1 else if i < 72 then 72 else if i < 4168 then 72 + 64 * ((i - 72) / 64 + 1) else min (4168 + 64 * ((i - 4168) / 64 + 1)) 65536
def indirN (n : Int) : Int := if n ≤ 8 then 0 else if n ≤ 72 then 1 else if n ≤ 4168 then 2 + (n - 9) / 64 else if n ≤ 65536 then 67 + (n - 73) / 4096 + (n - 4105) / 64 else indirN0
where indirN0 : Int := 67 + (65536 - 73) / 4096 + (65536 - 4105) / 64

theorem levelN_le (p : Int) : -1 ≤ levelN p ∧ levelN p ≤ 3 := by unfold levelN; split; omega; split <;> omega
theorem firstN_le {p : Int} : -1 ≤ firstN p ∧ firstN p ≤ 4168 := by unfold firstN; split; omega; split; omega; split <;> omega
theorem way_0 {i : Int} (h1 : i < 8) : wayN i = (i, []) := if_pos h1
theorem way_1 {i : Int} (h1 : 8 ≤ i) (h2 : i < 72) : wayN i = (8, [i - 8]) := by unfold wayN; rw [if_neg (by omega), if_pos h2]
theorem way_2 {i : Int} (h1 : 72 ≤ i) (h2 : i < 4168) : wayN i = (9, [(i - 72) / 64, (i - 72) % 64]) := by unfold wayN; rw [if_neg (by omega), if_neg (by omega), if_pos h2]
theorem way_3 {i : Int} (h1 : 4168 ≤ i) : wayN i = (10, [(i - 4168) / 4096, (i - 4168) / 64 % 64, (i - 4168) % 64]) := by unfold wayN; rw [if_neg (by omega), if_neg (by omega), if_neg (by omega)]
/-- The four kinds of ways, as cases. -/
inductive WayC (i : Int) : Prop where
  | c0 (h1 : 0 ≤ i) (h2 : i < 8) (e : wayN i = (i, []))
  | c1 (h1 : 8 ≤ i) (h2 : i < 72) (e : wayN i = (8, [i - 8]))
  | c2 (h1 : 72 ≤ i) (h2 : i < 4168) (e : wayN i = (9, [(i - 72) / 64, (i - 72) % 64]))
  | c3 (h1 : 4168 ≤ i) (h2 : i < 65536) (e : wayN i = (10, [(i - 4168) / 4096, (i - 4168) / 64 % 64, (i - 4168) % 64]))
theorem way_cases {i : Int} (h : MayI i) : WayC i := by
  have := h.lo
  have := h.hi
  rcases (by omega : i < 8 ∨ (8 ≤ i ∧ i < 72) ∨ (72 ≤ i ∧ i < 4168) ∨ 4168 ≤ i) with q | ⟨q, r⟩ | ⟨q, r⟩ | q
  · exact .c0 h.lo q (way_0 q)
  · exact .c1 q r (way_1 q r)
  · exact .c2 q r (way_2 q r)
  · exact .c3 q h.hi (way_3 q)
/-- The way to a block is one, and leads to it. -/
theorem way_may {i : Int} (h : MayI i) : MayW (wayN i).1 (wayN i).2 ∧ firstN (wayN i).1 + placeN (wayN i).2 0 = i := by
  rcases way_cases h with ⟨h1, h2, e⟩ | ⟨h1, h2, e⟩ | ⟨h1, h2, e⟩ | ⟨h1, h2, e⟩ <;> rw [e]
  · have hf : firstN i = i := by unfold firstN; rw [if_pos (by omega)]
    have hv : levelN i = 0 := by unfold levelN; rw [if_pos (by omega)]
    exact ⟨⟨h1, by show i ≤ 10; omega, by show ((0 : Nat) : Int) = levelN i; rw [hv]; rfl, fun x hx => (by simp at hx), by show firstN i + 0 < 65536; omega⟩, by show firstN i + 0 = i; omega⟩
  · refine ⟨⟨by show (0 : Int) ≤ 8; decide, by show (8 : Int) ≤ 10; decide, rfl, fun x hx => ?_, ?_⟩, ?_⟩
    · simp at hx; omega
    · show (8 : Int) + (64 * 0 + (i - 8)) < 65536; omega
    · show (8 : Int) + (64 * 0 + (i - 8)) = i; omega
  · refine ⟨⟨by show (0 : Int) ≤ 9; decide, by show (9 : Int) ≤ 10; decide, rfl, fun x hx => ?_, ?_⟩, ?_⟩
    · simp at hx; omega
    · show (72 : Int) + (64 * (64 * 0 + (i - 72) / 64) + (i - 72) % 64) < 65536; omega
    · show (72 : Int) + (64 * (64 * 0 + (i - 72) / 64) + (i - 72) % 64) = i; omega
  · refine ⟨⟨by show (0 : Int) ≤ 10; decide, by show (10 : Int) ≤ 10; decide, rfl, fun x hx => ?_, ?_⟩, ?_⟩
    · simp at hx; omega
    · show (4168 : Int) + (64 * (64 * (64 * 0 + (i - 4168) / 4096) + (i - 4168) / 64 % 64) + (i - 4168) % 64) < 65536; omega
    · show (4168 : Int) + (64 * (64 * (64 * 0 + (i - 4168) / 4096) + (i - 4168) / 64 % 64) + (i - 4168) % 64) = i; omega
/-- Where a way leads, it is the way. -/
theorem may_way {p : Int} {l : List Int} (h : MayW p l) : MayI (firstN p + placeN l 0) ∧ wayN (firstN p + placeN l 0) = (p, l) := by
  obtain ⟨h0, h1, h2, h3, h4⟩ := h
  rcases (by omega : p ≤ 7 ∨ p = 8 ∨ p = 9 ∨ p = 10) with q | rfl | rfl | rfl
  · have hv : levelN p = 0 := by unfold levelN; rw [if_pos ⟨h0, q⟩]
    have hf : firstN p = p := by unfold firstN; rw [if_pos (by omega)]
    rw [hv] at h2
    obtain rfl : l = [] := List.eq_nil_of_length_eq_zero (by omega)
    show MayI (firstN p + 0) ∧ wayN (firstN p + 0) = (p, [])
    rw [hf, Int.add_zero]
    exact ⟨⟨h0, by omega⟩, way_0 (by omega)⟩
  · rw [show levelN 8 = 1 from rfl] at h2
    match l, h2 with
    | [a], _ =>
      have ha := h3 a (by simp)
      rw [show firstN 8 + placeN [a] 0 = 8 + a by show (8 : Int) + (64 * 0 + a) = _; omega] at h4 ⊢
      exact ⟨⟨by omega, h4⟩, by rw [way_1 (by omega) (by omega), show 8 + a - 8 = a by omega]⟩
  · rw [show levelN 9 = 2 from rfl] at h2
    match l, h2 with
    | [a, b], _ =>
      have ha := h3 a (by simp)
      have hb := h3 b (by simp)
      rw [show firstN 9 + placeN [a, b] 0 = 72 + (64 * a + b) by show (72 : Int) + (64 * (64 * 0 + a) + b) = _; omega] at h4 ⊢
      exact ⟨⟨by omega, h4⟩, by rw [way_2 (by omega) (by omega), show (72 + (64 * a + b) - 72) / 64 = a by omega, show (72 + (64 * a + b) - 72) % 64 = b by omega]⟩
  · rw [show levelN 10 = 3 from rfl] at h2
    match l, h2 with
    | [a, b, c], _ =>
      have ha := h3 a (by simp)
      have hb := h3 b (by simp)
      have hc := h3 c (by simp)
      rw [show firstN 10 + placeN [a, b, c] 0 = 4168 + (4096 * a + 64 * b + c) by show (4168 : Int) + (64 * (64 * (64 * 0 + a) + b) + c) = _; omega] at h4 ⊢
      exact ⟨⟨by omega, h4⟩, by rw [way_3 (by omega), show (4168 + (4096 * a + 64 * b + c) - 4168) / 4096 = a by omega, show (4168 + (4096 * a + 64 * b + c) - 4168) / 64 % 64 = b by omega, show (4168 + (4096 * a + 64 * b + c) - 4168) % 64 = c by omega]⟩
/-- Do two indices hang on one block of level 1 (direct ones: are they the same)? -/
def SameW (x y : Int × List Int) : Prop := x.1 = y.1 ∧ x.2.length = y.2.length ∧ ∀ i, i + 1 < x.2.length → x.2[i]? = y.2[i]?
theorem pre2 {a b c d : Int} : (∀ i, i + 1 < [a, b].length → [a, b][i]? = [c, d][i]?) ↔ a = c :=
  ⟨fun h => by simpa using h 0 (by simp), fun h i hi => by
    have : i = 0 := by simp at hi; omega
    subst this; simp [h]⟩
theorem pre3 {a b c d e f : Int} : (∀ i, i + 1 < [a, b, c].length → [a, b, c][i]? = [d, e, f][i]?) ↔ a = d ∧ b = e :=
  ⟨fun h => ⟨by simpa using h 0 (by simp), by simpa using h 1 (by simp)⟩, fun h i hi => by
    have : i = 0 ∨ i = 1 := by simp at hi; omega
    rcases this with rfl | rfl <;> simp [h]⟩
/-- Behind an index the ones of its block are those up to the next stop. -/
theorem same_next {i k : Int} (hi : MayI i) (hk : MayI k) (hik : i ≤ k) : SameW (wayN i) (wayN k) ↔ k < nextN i := by
  have l1 := hi.lo
  have l2 := hi.hi
  have l3 := hk.hi
  unfold SameW
  unfold nextN
  rw [if_neg (by omega), if_neg (by omega)]
  rcases way_cases hi with ⟨h1, h2, e⟩ | ⟨h1, h2, e⟩ | ⟨h1, h2, e⟩ | ⟨h1, h2, e⟩ <;> rw [e] <;> rcases way_cases hk with ⟨k1, k2, f⟩ | ⟨k1, k2, f⟩ | ⟨k1, k2, f⟩ | ⟨k1, k2, f⟩ <;> rw [f]
  · rw [if_pos h2]
    simp
    omega
  · rw [if_pos h2]; simp; omega
  · rw [if_pos h2]; simp; omega
  · rw [if_pos h2]; simp; omega
  · omega
  · rw [if_neg (by omega), if_pos h2]; simp; omega
  · rw [if_neg (by omega), if_pos h2]; simp; omega
  · rw [if_neg (by omega), if_pos h2]; simp; omega
  · omega
  · omega
  · rw [if_neg (by omega), if_neg (by omega), if_pos h2]
    show (9 : Int) = 9 ∧ _ ∧ (∀ j, j + 1 < [(i - 72) / 64, (i - 72) % 64].length → [(i - 72) / 64, (i - 72) % 64][j]? = [(k - 72) / 64, (k - 72) % 64][j]?) ↔ _
    rw [pre2]
    simp
    omega
  · rw [if_neg (by omega), if_neg (by omega), if_pos h2]; simp; omega
  · omega
  · omega
  · omega
  · rw [if_neg (by omega), if_neg (by omega), if_neg (by omega)]
    show (10 : Int) = 10 ∧ _ ∧ (∀ j, j + 1 < [(i - 4168) / 4096, (i - 4168) / 64 % 64, (i - 4168) % 64].length → [(i - 4168) / 4096, (i - 4168) / 64 % 64, (i - 4168) % 64][j]? = [(k - 4168) / 4096, (k - 4168) / 64 % 64, (k - 4168) % 64][j]?) ↔ _
    rw [pre3]
    simp
    omega
theorem next_gt {i : Int} (h : MayI i) : i < nextN i ∧ nextN i ≤ 65536 ∧ nextN i ≤ i + 64 := by
  have := h.lo
  have := h.hi
  unfold nextN
  rw [if_neg (by omega), if_neg (by omega)]
  split
  · omega
  split
  · omega
  split
  · omega
  · omega
/-- How many noughts a way ends in. -/
def trail : List Int → Nat
  | [] => 0
  | x :: l => if trail l = l.length ∧ x = 0 then trail l + 1 else trail l
theorem trail_1 (a : Int) : trail [a] = if a = 0 then 1 else 0 := by unfold trail; simp [trail]
theorem trail_2 (a b : Int) : trail [a, b] = if b = 0 then (if a = 0 then 2 else 1) else 0 := by
  rw [trail, trail_1]
  by_cases h : b = 0 <;> by_cases k : a = 0 <;> simp [h, k]
theorem trail_3 (a b c : Int) : trail [a, b, c] = if c = 0 then (if b = 0 then (if a = 0 then 3 else 2) else 1) else 0 := by
  rw [trail, trail_2]
  by_cases h : c = 0 <;> by_cases k : b = 0 <;> by_cases m : a = 0 <;> simp [h, k, m]
theorem indir_0 {n : Int} (h : n ≤ 8) : indirN n = 0 := if_pos h
theorem indir_1 {n : Int} (h1 : 8 < n) (h2 : n ≤ 72) : indirN n = 1 := by unfold indirN; rw [if_neg (by omega), if_pos h2]
theorem indir_2 {n : Int} (h1 : 72 < n) (h2 : n ≤ 4168) : indirN n = 2 + (n - 9) / 64 := by unfold indirN; rw [if_neg (by omega), if_neg (by omega), if_pos h2]
theorem indir_3 {n : Int} (h1 : 4168 < n) (h2 : n ≤ 65536) : indirN n = 67 + (n - 73) / 4096 + (n - 4105) / 64 := by unfold indirN; rw [if_neg (by omega), if_neg (by omega), if_neg (by omega), if_pos h2]
theorem indir_far {n : Int} (h : 65536 ≤ n) : indirN n = indirN 65536 := by
  rcases (by omega : n = 65536 ∨ 65536 < n) with rfl | q
  · rfl
  · have e : indirN n = indirN.indirN0 := by unfold indirN; rw [if_neg (by omega), if_neg (by omega), if_neg (by omega), if_neg (by omega)]
    rw [e, indir_3 (n := 65536) (by decide) (by decide)]
    rfl
theorem indir_step {i : Int} (h : MayI i) : indirN (i + 1) = indirN i + (trail (wayN i).2 : Int) := by
  rcases way_cases h with ⟨h1, h2, e⟩ | ⟨h1, h2, e⟩ | ⟨h1, h2, e⟩ | ⟨h1, h2, e⟩ <;> rw [e]
  · rw [indir_0 (by omega), indir_0 (by omega)]; rfl
  · show _ = _ + ((trail [i - 8] : Nat) : Int)
    rw [trail_1, indir_1 (by omega) (by omega)]
    by_cases q : i = 8
    · rw [indir_0 (by omega), if_pos (by omega)]; rfl
    · rw [indir_1 (by omega) (by omega), if_neg (by omega)]; rfl
  · show _ = _ + ((trail [(i - 72) / 64, (i - 72) % 64] : Nat) : Int)
    rw [trail_2, indir_2 (by omega) (by omega)]
    by_cases q : i = 72
    · subst q; rw [indir_1 (by omega) (by omega)]; decide
    · rw [indir_2 (by omega) (by omega)]
      by_cases r : (i - 72) % 64 = 0
      · rw [if_pos r, if_neg (by omega)]; omega
      · rw [if_neg r]; omega
  · show _ = _ + ((trail [(i - 4168) / 4096, (i - 4168) / 64 % 64, (i - 4168) % 64] : Nat) : Int)
    rw [trail_3, indir_3 (by omega) (by omega)]
    by_cases q : i = 4168
    · subst q; rw [indir_2 (by omega) (by omega)]; decide
    · rw [indir_3 (by omega) (by omega)]
      by_cases r : (i - 4168) % 64 = 0
      · rw [if_pos r]
        by_cases t : (i - 4168) / 64 % 64 = 0
        · rw [if_pos t, if_neg (by omega)]; omega
        · rw [if_neg t]; omega
      · rw [if_neg r]; omega
end Go.Proofs.Ytnneppkkmhjpbaa
