import Derived.Test.YtinpdomcfijnmaaPutB
namespace Go.Proofs.Ytinpdomcfijnmaa
open Go.RowKit

/-! Names, slots and directory blocks told plainly. -/
def nb (s : ByteArray) (i : Nat) : Nat := (s.data.getD i 0).toNat
theorem nb_lt (s : ByteArray) (i : Nat) : nb s i < 256 := UInt8.toNat_lt _
theorem nb_past {s : ByteArray} {i : Nat} (h : s.size ≤ i) : nb s i = 0 := by
  have h : s.data.size ≤ i := h
  unfold nb
  rw [show s.data.getD i 0 = 0 from dif_neg (by omega)]
  rfl
theorem nb_ext {s t : ByteArray} (h : s.size = t.size) (e : ∀ i, i < s.size → nb s i = nb t i) : s = t := by
  obtain ⟨s⟩ := s
  obtain ⟨t⟩ := t
  have h : s.size = t.size := h
  congr 1
  apply Array.ext h
  intro i h1 h2
  have := e i h1
  unfold nb at this
  simp only [Array.getD, h1, h2, dif_pos] at this
  exact UInt8.toNat_inj.1 this
theorem nb_get {s : ByteArray} {i : Nat} (h : i < s.size) : nb s i = s[i].toNat := by
  unfold nb
  have h : i < s.data.size := h
  simp only [Array.getD, h, dif_pos]
  rfl
def nameOf (f : Nat → Nat) (n : Nat) : ByteArray := ⟨((List.range n).map fun i => UInt8.ofNat (f i)).toArray⟩
theorem nameOf_size (f : Nat → Nat) (n : Nat) : (nameOf f n).size = n := by
  show ((List.range n).map fun i => UInt8.ofNat (f i)).toArray.size = n
  simp
theorem nb_nameOf {f : Nat → Nat} (hf : ∀ i, f i < 256) {n i : Nat} (h : i < n) : nb (nameOf f n) i = f i := by
  rw [nb_get (by rw [nameOf_size]; exact h)]
  show (((List.range n).map fun i => UInt8.ofNat (f i)).toArray[i]'(by simpa using h)).toNat = f i
  simp
  exact hf i
theorem nameOf_nb {f : Nat → Nat} (hf : ∀ i, f i < 256) {s : ByteArray} (h : ∀ i, i < s.size → f i = nb s i) : nameOf f s.size = s :=
  nb_ext (nameOf_size _ _) fun i hi => by rw [nameOf_size] at hi; rw [nb_nameOf hf hi, h i hi]
theorem empty_iff {s : ByteArray} : s = ⟨#[]⟩ ↔ s.size = 0 :=
  ⟨fun h => by rw [h]; rfl, fun h => nb_ext h fun i hi => by omega⟩
theorem dot_iff {s : ByteArray} : s = ⟨#[46]⟩ ↔ s.size = 1 ∧ nb s 0 = 46 :=
  ⟨fun h => by rw [h]; exact ⟨rfl, rfl⟩, fun h => nb_ext h.1 fun i hi => by obtain rfl : i = 0 := by omega
                                                                            exact h.2⟩
theorem dots_iff {s : ByteArray} : s = ⟨#[46, 46]⟩ ↔ s.size = 2 ∧ nb s 0 = 46 ∧ nb s 1 = 46 :=
  ⟨fun h => by rw [h]; exact ⟨rfl, rfl, rfl⟩, fun h => nb_ext h.1 fun i hi => by
    obtain rfl | rfl : i = 0 ∨ i = 1 := by omega
    · exact h.2.1
    · exact h.2.2⟩

/-- A name may be. -/
structure MayN (s : ByteArray) : Prop where
  pos : 1 ≤ s.size
  le : s.size ≤ 27
  dot : s ≠ ⟨#[46]⟩
  dots : s ≠ ⟨#[46, 46]⟩
  all : ∀ i, i < s.size → nb s i ≠ 47 ∧ nb s i ≠ 0
noncomputable instance (s : ByteArray) : Decidable (MayN s) := Classical.propDecidable _
theorem MayN.ne {s : ByteArray} (h : MayN s) : s ≠ ⟨#[]⟩ := fun e => by have := h.pos; rw [empty_iff.1 e] at this; omega

structure SlotV where
  ino : Nat
  name : ByteArray
noncomputable instance : DecidableEq SlotV := fun x y => Classical.propDecidable (x = y)
def SlotV.free : SlotV := ⟨0, ⟨#[]⟩⟩
theorem SlotV.same {x y : SlotV} (h : x.ino = y.ino) (e : x.name = y.name) : x = y := by cases x; cases y; simp_all
/-- A slot is free, or may be. -/
def SOk (x : SlotV) : Prop := x = .free ∨ 0 < x.ino ∧ x.ino < 4294967296 ∧ MayN x.name
noncomputable instance (x : SlotV) : Decidable (SOk x) := Classical.propDecidable _
theorem SOk.free : SOk .free := .inl rfl
theorem SOk.lt {x : SlotV} (h : SOk x) : x.ino < 4294967296 := by
  rcases h with rfl | h
  · exact Nat.zero_lt_succ _
  · exact h.2.1
theorem SOk.may {x : SlotV} (h : SOk x) (h0 : x.ino ≠ 0) : MayN x.name := by
  rcases h with rfl | h
  · exact absurd rfl h0
  · exact h.2.2
theorem SOk.none {x : SlotV} (h : SOk x) (h0 : x.ino = 0) : x = .free := by
  rcases h with h | h
  · exact h
  · omega
theorem SOk.size {x : SlotV} (h : SOk x) : x.name.size ≤ 27 := by
  by_cases h0 : x.ino = 0
  · rw [h.none h0]; exact Nat.zero_le _
  · exact (h.may h0).le

/-- A slot's 32 bytes. -/
def slotB (x : SlotV) (k : Nat) : Nat := if x.ino = 0 then 0 else if k < 4 then p32 (fun _ => 0) 0 x.ino k else if k = 4 then x.name.size % 256 else nb x.name (k - 5)
theorem slotB_lt (x : SlotV) (k : Nat) : slotB x k < 256 := by
  unfold slotB
  split
  · omega
  split
  · exact p32_lt (fun _ => by omega) _ _ _
  split
  · omega
  · exact nb_lt _ _
theorem slotB_free (k : Nat) : slotB .free k = 0 := if_pos rfl
/-- The slot that bytes tell. -/
def slotAt (f : Nat → Nat) : SlotV := if g32 f 0 = 0 then .free else ⟨g32 f 0, nameOf (fun k => f (5 + k)) (f 4)⟩
theorem g32_slotB {x : SlotV} (h : x.ino < 4294967296) (h0 : x.ino ≠ 0) : g32 (slotB x) 0 = x.ino := by
  rw [g32_congr (h := p32 (fun _ => 0) 0 x.ino) (fun i _ hi => by unfold slotB; rw [if_neg h0, if_pos (by omega)]), g32_p32 _ _ _ h]
theorem slotAt_slotB {x : SlotV} (h : SOk x) : slotAt (slotB x) = x := by
  unfold slotAt
  by_cases h0 : x.ino = 0
  · rw [h.none h0]
    rw [if_pos (by unfold g32; simp [slotB_free])]
  · rw [g32_slotB h.lt h0, if_neg h0]
    refine SlotV.same rfl ?_
    have hm := h.may h0
    have h4 : slotB x 4 = x.name.size := by unfold slotB; rw [if_neg h0, if_neg (by omega), if_pos rfl]; have := hm.le; omega
    show nameOf (fun k => slotB x (5 + k)) (slotB x 4) = x.name
    rw [h4]
    refine nameOf_nb (fun i => slotB_lt _ _) fun i hi => ?_
    unfold slotB
    rw [if_neg h0, if_neg (by omega), if_neg (by omega), show 5 + i - 5 = i by omega]

/-- The bytes of the i-th slot. -/
def cutS (X : Blk) (i k : Nat) : Nat := if k < 32 then X.f (32 * i + k) else 0
theorem cutS_lt (X : Blk) (i k : Nat) : cutS X i k < 256 := by
  unfold cutS; split
  · exact X.lt _
  · omega
theorem cutS_in {X : Blk} {i k : Nat} (h : k < 32) : cutS X i k = X.f (32 * i + k) := if_pos h
def slotS (X : Blk) (i : Nat) : SlotV := slotAt (cutS X i)
/-- A slot's bytes are just so. -/
structure RightB (f : Nat → Nat) : Prop where
  ok : SOk (slotAt f)
  so : ∀ k, k < 32 → f k = slotB (slotAt f) k
/-- A block is right. -/
structure Right (X : Blk) : Prop where
  each : ∀ i, i < 8 → RightB (cutS X i)
  two : ∀ i k, i < k → k < 8 → (slotS X k).ino ≠ 0 → (slotS X i).name ≠ (slotS X k).name
noncomputable instance (X : Blk) : Decidable (Right X) := Classical.propDecidable _
theorem Right.ok {X : Blk} (h : Right X) {i : Nat} (hi : i < 8) : SOk (slotS X i) := (h.each i hi).ok
theorem Right.apart {X : Blk} (h : Right X) {i k : Nat} (hi : i < 8) (hk : k < 8) (hne : i ≠ k) (h0 : (slotS X i).ino ≠ 0) : (slotS X i).name ≠ (slotS X k).name := by
  by_cases k0 : (slotS X k).ino = 0
  · intro e
    rw [(h.ok hk).none k0] at e
    exact ((h.ok hi).may h0).ne e
  · rcases Nat.lt_or_ge i k with q | q
    · exact h.two i k q hk k0
    · exact (h.two k i (by omega) hi h0).symm

/-- A block with a slot otherwise. -/
@[irreducible] def setS (X : Blk) (i : Nat) (x : SlotV) : Blk := .of (fun k => if 32 * i ≤ k ∧ k < 32 * i + 32 then slotB x (k - 32 * i) else X.f k) fun k _ => by
  split
  · exact slotB_lt _ _
  · exact X.lt _
theorem setS_in {X : Blk} {i : Nat} {x : SlotV} (hi : i < 8) {k : Nat} (hk : k < 32) : (setS X i x).f (32 * i + k) = slotB x k := by
  unfold setS
  rw [Blk.of_f (by omega), if_pos (by omega), show 32 * i + k - 32 * i = k by omega]
theorem setS_off {X : Blk} {i : Nat} {x : SlotV} {k : Nat} (h : k < 32 * i ∨ 32 * i + 32 ≤ k) : (setS X i x).f k = X.f k := by
  by_cases hk : k < 256
  · unfold setS
    rw [Blk.of_f hk, if_neg (by omega)]
  · rw [Blk.past _ k (by omega), Blk.past _ k (by omega)]
theorem slotAt_congr {f g : Nat → Nat} (h : ∀ k, f k = g k) : slotAt f = slotAt g := by rw [funext h]
theorem cut_other {X : Blk} {i j : Nat} {x : SlotV} (hne : j ≠ i) : cutS (setS X i x) j = cutS X j := by
  funext k
  unfold cutS
  split
  · exact setS_off (by omega)
  · rfl
theorem slot_other {X : Blk} {i j : Nat} {x : SlotV} (hne : j ≠ i) : slotS (setS X i x) j = slotS X j := by unfold slotS; rw [cut_other hne]
theorem slotB_past {x : SlotV} (h : SOk x) {k : Nat} (hk : 32 ≤ k) : slotB x k = 0 := by
  unfold slotB
  split
  · rfl
  · rw [if_neg (by omega), if_neg (by omega)]
    exact nb_past (by have := h.size; omega)
theorem cut_set {X : Blk} {i : Nat} {x : SlotV} (hi : i < 8) (hx : SOk x) : cutS (setS X i x) i = slotB x := by
  funext k
  unfold cutS
  split
  · rename_i h; exact setS_in hi h
  · rw [slotB_past hx (by omega)]
theorem slot_set {X : Blk} {i : Nat} {x : SlotV} (hi : i < 8) (hx : SOk x) : slotS (setS X i x) i = x := by unfold slotS; rw [cut_set hi hx, slotAt_slotB hx]
theorem right_set {X : Blk} {i : Nat} {x : SlotV} (h : Right X) (hi : i < 8) (hx : SOk x) (hn : x.ino ≠ 0 → ∀ j, j < 8 → j ≠ i → (slotS X j).name ≠ x.name) : Right (setS X i x) := by
  refine ⟨fun j hj => ?_, fun j k hjk hk h0 => ?_⟩
  · by_cases e : j = i
    · subst e
      rw [cut_set hi hx]
      exact ⟨by rw [slotAt_slotB hx]; exact hx, fun k _ => by rw [slotAt_slotB hx]⟩
    · rw [cut_other e]; exact h.each j hj
  · by_cases e : k = i
    · subst e
      rw [slot_set hi hx] at h0 ⊢
      rw [slot_other (by omega)]
      exact hn h0 j (by omega) (by omega)
    · rw [slot_other e] at h0 ⊢
      by_cases e2 : j = i
      · subst e2
        rw [slot_set hi hx]
        by_cases x0 : x.ino = 0
        · rw [hx.none x0]
          exact fun q => ((h.ok hk).may h0).ne q.symm
        · exact fun q => hn x0 k hk e q.symm
      · rw [slot_other e2]; exact h.two j k hjk hk h0
theorem setS_set {X : Blk} {i : Nat} {x y : SlotV} (hi : i < 8) : setS (setS X i x) i y = setS X i y := Blk.same fun k _ => by
  by_cases h : 32 * i ≤ k ∧ k < 32 * i + 32
  · rw [show k = 32 * i + (k - 32 * i) by omega, setS_in hi (by omega), setS_in hi (by omega)]
  · rw [setS_off (by omega), setS_off (by omega), setS_off (by omega)]
theorem setS_self {X : Blk} {i : Nat} (h : Right X) (hi : i < 8) : setS X i (slotS X i) = X := Blk.same fun k _ => by
  by_cases q : 32 * i ≤ k ∧ k < 32 * i + 32
  · have e := (h.each i hi).so (k - 32 * i) (by omega)
    rw [cutS_in (by omega)] at e
    rw [show k = 32 * i + (k - 32 * i) by omega, setS_in hi (by omega), e]; rfl
  · rw [setS_off (by omega)]
/-- Of a right block the slots say all its bytes. -/
theorem right_ext {X Y : Blk} (h : Right X) (h' : Right Y) (e : ∀ i, i < 8 → slotS X i = slotS Y i) : X = Y := Blk.same fun k hk => by
  have e1 := (h.each (k / 32) (by omega)).so (k % 32) (by omega)
  have e2 := (h'.each (k / 32) (by omega)).so (k % 32) (by omega)
  rw [cutS_in (by omega), show 32 * (k / 32) + k % 32 = k by omega] at e1 e2
  have e3 := e (k / 32) (by omega)
  rw [e1, e2]
  show slotB (slotS X (k / 32)) _ = slotB (slotS Y (k / 32)) _
  rw [e3]

/-! The first of some. -/
def firstN (p : Nat → Bool) : Nat → Option Nat
  | 0 => none
  | n + 1 => match firstN p n with
    | some i => some i
    | none => if p n = true then some n else none
theorem firstN_none {p : Nat → Bool} : ∀ {n : Nat}, firstN p n = none ↔ ∀ j, j < n → p j = false
  | 0 => by
    refine ⟨fun _ j h => ?_, fun _ => rfl⟩
    omega
  | n + 1 => by
    unfold firstN
    have ih := firstN_none (p := p) (n := n)
    cases e : firstN p n with
    | some i =>
      simp only [reduceCtorEq, false_iff]
      intro h
      rw [ih.2 (fun j hj => h j (by omega))] at e; cases e
    | none =>
      by_cases q : p n = true
      · simp only [q, if_true, reduceCtorEq, false_iff]
        intro h
        rw [h n (by omega)] at q; cases q
      · simp only [q, Bool.false_eq_true, if_false, true_iff]
        intro j hj
        rcases Nat.lt_or_ge j n with u | u
        · exact ih.1 e j u
        · obtain rfl : j = n := by omega
          simpa using q
theorem firstN_some {p : Nat → Bool} : ∀ {n i : Nat}, firstN p n = some i ↔ i < n ∧ p i = true ∧ ∀ j, j < i → p j = false
  | 0, i => by
    refine ⟨fun h => ?_, fun h => ?_⟩
    · cases h
    · exact absurd h.1 (by omega)
  | n + 1, i => by
    unfold firstN
    have ih := firstN_some (p := p) (n := n) (i := i)
    cases e : firstN p n with
    | some k =>
      have ek := (firstN_some (p := p) (n := n) (i := k)).1 e
      constructor
      · intro h
        injection h with h
        subst h
        exact ⟨by omega, ek.2⟩
      · rintro ⟨h1, h2, h3⟩
        rcases Nat.lt_or_ge i k with u | u
        · rw [ek.2.2 i u] at h2; cases h2
        rcases Nat.lt_or_ge k i with v | v
        · rw [h3 k v] at ek; exact absurd ek.2.1 (by decide)
        · rw [show k = i by omega]
    | none =>
      have en := firstN_none.1 e
      by_cases q : p n = true
      · simp only [q, if_true, Option.some.injEq]
        constructor
        · rintro rfl; exact ⟨by omega, q, fun j hj => en j hj⟩
        · rintro ⟨h1, h2, h3⟩
          rcases Nat.lt_or_ge i n with u | u
          · rw [en i u] at h2; cases h2
          · omega
      · simp only [q, Bool.false_eq_true, if_false, reduceCtorEq, false_iff]
        rintro ⟨h1, h2, _⟩
        rcases Nat.lt_or_ge i n with u | u
        · rw [en i u] at h2; cases h2
        · rw [show i = n by omega] at h2; exact q h2
theorem firstN_congr {p q : Nat → Bool} {n : Nat} (h : ∀ j, j < n → p j = q j) : firstN p n = firstN q n := by
  cases e : firstN p n with
  | none => exact (firstN_none.2 fun j hj => by rw [← h j hj]; exact firstN_none.1 e j hj).symm
  | some i =>
    obtain ⟨h1, h2, h3⟩ := firstN_some.1 e
    exact (firstN_some.2 ⟨h1, by rw [← h i h1]; exact h2, fun j hj => by rw [← h j (by omega)]; exact h3 j hj⟩).symm

/-! What the functions answer. -/
open Classical in
noncomputable def hasN (X : Blk) (s : ByteArray) (i : Nat) : Bool := decide ((slotS X i).ino ≠ 0 ∧ (slotS X i).name = s)
noncomputable def whereN (X : Blk) (s : ByteArray) : Option Nat := firstN (hasN X s) 8
def freeN (X : Blk) : Option Nat := firstN (fun i => (slotS X i).ino == 0) 8
theorem hasN_iff {X : Blk} {s : ByteArray} {i : Nat} : hasN X s i = true ↔ (slotS X i).ino ≠ 0 ∧ (slotS X i).name = s := by unfold hasN; rw [decide_eq_true_iff]
theorem where_none {X : Blk} {s : ByteArray} : whereN X s = none ↔ ∀ j, j < 8 → (slotS X j).ino ≠ 0 → (slotS X j).name ≠ s := by
  unfold whereN
  rw [firstN_none]
  constructor
  · intro h j hj h0 e
    have := h j hj
    rw [hasN_iff.2 ⟨h0, e⟩] at this; cases this
  · intro h j hj
    rw [Bool.eq_false_iff]
    intro q
    exact h j hj (hasN_iff.1 q).1 (hasN_iff.1 q).2
theorem where_some {X : Blk} {s : ByteArray} {i : Nat} (h : Right X) : whereN X s = some i ↔ i < 8 ∧ (slotS X i).ino ≠ 0 ∧ (slotS X i).name = s := by
  unfold whereN
  rw [firstN_some, hasN_iff]
  constructor
  · rintro ⟨h1, h2, _⟩; exact ⟨h1, h2⟩
  · rintro ⟨h1, h2, h3⟩
    refine ⟨h1, ⟨h2, h3⟩, fun j hj => ?_⟩
    rw [Bool.eq_false_iff]
    intro q
    obtain ⟨q1, q2⟩ := hasN_iff.1 q
    exact h.apart (by omega) h1 (by omega) q1 (q2.trans h3.symm)
theorem free_some {X : Blk} {i : Nat} : freeN X = some i ↔ i < 8 ∧ (slotS X i).ino = 0 ∧ ∀ j, j < i → (slotS X j).ino ≠ 0 := by
  unfold freeN
  rw [firstN_some]
  simp
theorem free_none {X : Blk} : freeN X = none ↔ ∀ j, j < 8 → (slotS X j).ino ≠ 0 := by
  unfold freeN
  rw [firstN_none]
  simp
noncomputable def findD (X : Blk) (s : ByteArray) : Int × Nat := if Right X then match whereN X s with
    | some i => ((i : Int), (slotS X i).ino)
    | none => (-1, 0)
  else (-1, 0)
noncomputable def addD (X : Blk) (s : ByteArray) (ino : Nat) : Blk × Int := if ¬ Right X then (X, 80) else if ¬ MayN s ∨ ino = 0 ∨ (whereN X s).isSome = true then (X, 2) else match freeN X with
    | none => (X, 4)
    | some i => (setS X i ⟨ino, s⟩, 0)
noncomputable def remD (X : Blk) (s : ByteArray) : Blk × Bool := if Right X then match whereN X s with
    | some i => (setS X i .free, true)
    | none => (X, false)
  else (X, false)

/-! There and back. -/
theorem may_ok {s : ByteArray} {ino : Nat} (hm : MayN s) (h0 : ino ≠ 0) (h1 : ino < 4294967296) : SOk ⟨ino, s⟩ := .inr ⟨Nat.pos_of_ne_zero h0, h1, hm⟩
theorem right_add {X : Blk} {s : ByteArray} {ino i : Nat} (h : Right X) (hm : MayN s) (h0 : ino ≠ 0) (h1 : ino < 4294967296) (hw : whereN X s = none) (hi : i < 8) : Right (setS X i ⟨ino, s⟩) := by
  refine right_set h hi (may_ok hm h0 h1) fun _ j hj _ => ?_
  by_cases j0 : (slotS X j).ino = 0
  · rw [(h.ok hj).none j0]; exact fun e => hm.ne e.symm
  · exact where_none.1 hw j hj j0
theorem right_rem {X : Blk} {i : Nat} (h : Right X) (hi : i < 8) : Right (setS X i .free) := right_set h hi .free fun q => absurd rfl q
theorem where_add {X : Blk} {s : ByteArray} {ino i : Nat} (h : Right X) (hm : MayN s) (h0 : ino ≠ 0) (h1 : ino < 4294967296) (hw : whereN X s = none) (hi : i < 8) : whereN (setS X i ⟨ino, s⟩) s = some i :=
  (where_some (right_add h hm h0 h1 hw hi)).2 ⟨hi, by rw [slot_set hi (may_ok hm h0 h1)]; exact h0, by rw [slot_set hi (may_ok hm h0 h1)]⟩
theorem where_set_other {X : Blk} {t : ByteArray} {x : SlotV} {i : Nat} (hx : SOk x) (hi : i < 8) (hl : (slotS X i).ino ≠ 0 → (slotS X i).name ≠ t) (hn : x.ino ≠ 0 → x.name ≠ t) : whereN (setS X i x) t = whereN X t := by
  unfold whereN
  refine firstN_congr fun j _ => ?_
  rw [Bool.eq_iff_iff, hasN_iff, hasN_iff]
  by_cases e : j = i
  · subst e
    rw [slot_set hi hx]
    exact ⟨fun q => absurd q.2 (hn q.1), fun q => absurd q.2 (hl q.1)⟩
  · rw [slot_other e]
theorem where_gone {X : Blk} {s : ByteArray} {i : Nat} (h : Right X) (hw : whereN X s = some i) : whereN (setS X i .free) s = none := by
  obtain ⟨hi, h0, hs⟩ := (where_some h).1 hw
  rw [where_none]
  intro j hj
  by_cases e : j = i
  · subst e
    rw [slot_set hi .free]
    exact fun q => absurd rfl q
  · rw [slot_other e]
    intro j0 q
    exact h.apart hj hi e j0 (q.trans hs.symm)
theorem add_rem {X : Blk} {s : ByteArray} {ino i : Nat} (h : Right X) (hf : (slotS X i).ino = 0) (hi : i < 8) : setS (setS X i ⟨ino, s⟩) i .free = X := by
  rw [setS_set hi, ← (h.ok hi).none hf, setS_self h hi]
theorem right_zero : Right .zero := by
  have e : ∀ i, cutS .zero i = slotB .free := fun i => by
    funext k
    rw [slotB_free]
    unfold cutS
    split <;> rfl
  refine ⟨fun i _ => ?_, fun i k _ _ h0 => ?_⟩
  · rw [e]
    exact ⟨by rw [slotAt_slotB .free]; exact .free, fun k _ => by rw [slotAt_slotB .free]⟩
  · refine absurd ?_ h0
    unfold slotS
    rw [e, slotAt_slotB .free]; rfl
theorem slot_zero (i : Nat) : slotS .zero i = .free := by
  have e : cutS .zero i = slotB .free := by
    funext k
    rw [slotB_free]
    unfold cutS
    split <;> rfl
  unfold slotS
  rw [e, slotAt_slotB .free]
end Go.Proofs.Ytinpdomcfijnmaa
