import Derived.Test.YtaipcciokhkmnaaDWrites
namespace Go.Proofs.Ytaipcciokhkmnaa
open Go.RowKit

/-- Two disks, and three lists of the caller's own. P: where the second disk's memory is. -/
structure Two (D : World → Addr → DS → Av → Prop) (w0 : World) (s1 : Nat) (a c : Addr) (s t : DS) (g ga oa gb ob : Nat) (M : List Blk) (N : Nat) (w : World) : Prop where
  p : ∃ P : Av, (∀ i, i < s1 → ¬ P i) ∧ D w a s (fun i => ((i < w0.heap.size ∨ i = g) ∨ i = ga ∨ i = gb) ∨ (P i ∧ i < w.heap.size)) ∧ D w c t (fun i => ¬ P i ∧ i < w.heap.size)
  b : Below w0.heap.size w0 w
  m : OImg w g 0 M
  x : ∃ L, L.length = N ∧ OImg w ga oa L
  y : ∃ L, L.length = N ∧ OImg w gb ob L
  lo : w0.heap.size ≤ s1 ∧ g < s1 ∧ ga < s1 ∧ gb < s1 ∧ w0.heap.size ≤ ga ∧ w0.heap.size ≤ gb ∧ ga ≠ g ∧ gb ≠ g ∧ ga ≠ gb
  sz : s1 ≤ w.heap.size
section
variable {D : World → Addr → DS → Av → Prop} {w0 : World} {s1 : Nat} {a c : Addr} {s t : DS} {g ga oa gb ob N : Nat} {M : List Blk} {w w' : World}
/-- Only new memory was made, by none of the two. -/
theorem Two.below (hD : DiskSays D) (h : Two D w0 s1 a c s t g ga oa gb ob M N w) (hb : Below w.heap.size w w') : Two D w0 s1 a c s t g ga oa gb ob M N w' := by
  obtain ⟨P, hp, hd, he⟩ := h.p
  refine ⟨⟨fun i => P i ∧ i < w.heap.size, fun i hi hP => hp i hi hP.1, hD.mono (hD.below hd hb) ?_, hD.frame he hb.size (fun i hi _ => hb.block i hi) ?_⟩, h.b.trans (hb.mono h.b.size), h.m.keep (hb.block _ h.m.lt), by obtain ⟨L, h1, h2⟩ := h.x; exact ⟨L, h1, h2.keep (hb.block _ h2.lt)⟩, by obtain ⟨L, h1, h2⟩ := h.y; exact ⟨L, h1, h2.keep (hb.block _ h2.lt)⟩, h.lo, Nat.le_trans h.sz hb.size⟩
  · rintro i (h | h)
    · exact .inl h
    · exact .inr h.1
  · rintro i ⟨h1, h2⟩
    by_cases hi : i < w.heap.size
    · exact .inl ⟨fun hP => h1 ⟨hP, hi⟩, hi⟩
    · exact .inr ⟨by omega, h2⟩
theorem Two.drewN (hD : DiskSays D) (h : Two D w0 s1 a c s t g ga oa gb ob M N w) (q : Nat) : Two D w0 s1 a c s t g ga oa gb ob M N (w.drewN q) :=
  h.below hD ⟨rfl, rfl, rfl, Nat.le_refl _, fun _ _ => rfl⟩
theorem Two.drew (hD : DiskSays D) (h : Two D w0 s1 a c s t g ga oa gb ob M N w) : Two D w0 s1 a c s t g ga oa gb ob M N w.drew := h.below hD ⟨rfl, rfl, rfl, Nat.le_refl _, fun _ _ => rfl⟩
theorem Two.lists (h : Two D w0 s1 a c s t g ga oa gb ob M N w) {av : Av} (hv : ∀ i, i < w0.heap.size ∨ i = g ∨ i = ga ∨ i = gb → av i) (hk : Keep av w w') :
    Below w0.heap.size w0 w' ∧ OImg w' g 0 M ∧ (∃ L, L.length = N ∧ OImg w' ga oa L) ∧ (∃ L, L.length = N ∧ OImg w' gb ob L) ∧ s1 ≤ w'.heap.size :=
  ⟨h.b.trans (hk.below fun i hi => hv i (.inl hi)), hk.oimg (hv _ (.inr (.inl rfl))) h.m, by obtain ⟨L, h1, h2⟩ := h.x; exact ⟨L, h1, hk.oimg (hv _ (.inr (.inr (.inl rfl)))) h2⟩, by obtain ⟨L, h1, h2⟩ := h.y; exact ⟨L, h1, hk.oimg (hv _ (.inr (.inr (.inr rfl)))) h2⟩, Nat.le_trans h.sz hk.size⟩
/-- A call on the one disk, behind new memory that is none's. -/
theorem Two.one (hD : DiskSays D) (h : Two D w0 s1 a c s t g ga oa gb ob M N w) {w1 : World} (hb : Below w.heap.size w w1) {f : FuncId} {args : Array Value} {R : Ending → World → Prop}
    (hc : ∀ av, D w1 a s av → Calls Try.prog f args w1 fun e w' => (R e w' ∧ ∃ av', (∀ i, av i → av' i) ∧ D w' a s av') ∧ Keep av w1 w') :
    Calls Try.prog f args w1 fun e w' => R e w' ∧ Two D w0 s1 a c s t g ga oa gb ob M N w' ∧ Keep (fun i => w.heap.size ≤ i ∧ i < w1.heap.size) w1 w' := by
  have hT := h.below hD hb
  obtain ⟨P, hp, hd, he⟩ := h.p
  have he1 : D w1 c t (fun i => ¬ (P i ∧ i < w.heap.size) ∧ i < w1.heap.size) := hD.frame he hb.size (fun i hi _ => hb.block i hi) (by
    rintro i ⟨h1, h2⟩
    by_cases hi : i < w.heap.size
    · exact .inl ⟨fun hP => h1 ⟨hP, hi⟩, hi⟩
    · exact .inr ⟨by omega, h2⟩)
  refine (hc _ (hD.new' hd hb)).mono ?_
  rintro e w' ⟨⟨hr, av', hav, hd'⟩, hk⟩
  obtain ⟨k1, k2, k3, k4, k5⟩ := hT.lists (by rintro i (h | h | h | h); exact .inl (.inl (.inl (.inl h))); exact .inl (.inl (.inl (.inr h))); exact .inl (.inl (.inr (.inl h))); exact .inl (.inl (.inr (.inr h)))) hk
  refine ⟨hr, ⟨⟨fun i => P i ∧ i < w.heap.size, fun i hi hP => hp i hi hP.1, hD.mono hd' fun i hi => hav i ?_, hD.frame he1 hk.size (fun i hi hn => hk.block i (.inl (.inr ?_))) ?_⟩, k1, k2, k3, k4, h.lo, k5⟩, hk.mono fun i hi => .inr hi⟩
  · rcases hi with hi | hi
    · exact .inl (.inl hi)
    · exact .inl (.inr hi.1)
  · exact Classical.byContradiction fun hP => hn ⟨hP, hi⟩
  · rintro i ⟨h1, h2⟩
    by_cases hi : i < w1.heap.size
    · exact .inl ⟨h1, hi⟩
    · exact .inr ⟨by omega, h2⟩
/-- A call on the other one. -/
theorem Two.two (hD : DiskSays D) (h : Two D w0 s1 a c s t g ga oa gb ob M N w) {f : FuncId} {args : Array Value} {R : Ending → World → Prop}
    (hc : ∀ av, D w c t av → Calls Try.prog f args w fun e w' => (R e w' ∧ ∃ av', (∀ i, av i → av' i) ∧ D w' c t av') ∧ Keep av w w') :
    Calls Try.prog f args w fun e w' => R e w' ∧ Two D w0 s1 a c s t g ga oa gb ob M N w' := by
  obtain ⟨P, hp, hd, he⟩ := h.p
  refine (hc _ he).mono ?_
  rintro e w' ⟨⟨hr, av', hav, he'⟩, hk⟩
  have hs := h.sz
  obtain ⟨l1, l2, l3, l4, _⟩ := h.lo
  obtain ⟨k1, k2, k3, k4, k5⟩ := h.lists (fun i hi => by
    have : i < s1 := by rcases hi with h | rfl | rfl | rfl <;> omega
    exact ⟨hp i this, by omega⟩) hk
  refine ⟨hr, ⟨⟨fun i => P i ∨ w.heap.size ≤ i, ?_, hD.frame hd hk.size (fun i hi hn => hk.block i ⟨fun hP => hn (.inr ⟨hP, hi⟩), hi⟩) ?_, hD.mono he' fun i hi => hav i ?_⟩, k1, k2, k3, k4, h.lo, k5⟩⟩
  · rintro i hi (hP | hP)
    · exact hp i hi hP
    · omega
  · rintro i (hi | ⟨hi | hi, h2⟩)
    · exact .inl (.inl hi)
    · by_cases h3 : i < w.heap.size
      · exact .inl (.inr ⟨hi, h3⟩)
      · exact .inr ⟨by omega, h2⟩
    · exact .inr ⟨hi, h2⟩
  · exact ⟨fun hP => hi.1 (.inl hP), Nat.lt_of_not_le fun q => hi.1 (.inr q)⟩
/-- A block of one of the lists is written. -/
theorem Two.setx (hD : DiskSays D) (h : Two D w0 s1 a c s t g ga oa gb ob M N w) {k : Nat} (hk : k < N) (X : Blk) : Two D w0 s1 a c s t g ga oa gb ob M N (w.setCells ga (oa + k * 256) (arr X).toList) := by
  obtain ⟨L, h1, h2⟩ := h.x
  obtain ⟨L', h3, h4⟩ := h.y
  have hs := h.sz
  obtain ⟨l1, l2, l3, l4, l5, l6, l7, l8, l9⟩ := h.lo
  obtain ⟨P, hp, hd, he⟩ := h.p
  exact ⟨⟨P, hp, by rw [setCells_size]; exact hD.cells hd (.inl (.inr (.inl rfl))) _ _, by rw [setCells_size]; exact hD.cells he ⟨hp _ l3, by omega⟩ _ _⟩, below_cells h.b l5 _ _, h.m.keep (setCells_heap_ne _ _ _ _ _ (Ne.symm l7)), ⟨L.set k X, by simp [h1], h2.set (by omega) X⟩, ⟨L', h3, h4.keep (setCells_heap_ne _ _ _ _ _ (Ne.symm l9))⟩, h.lo, by rw [setCells_size]; exact h.sz⟩
theorem Two.sety (hD : DiskSays D) (h : Two D w0 s1 a c s t g ga oa gb ob M N w) {k : Nat} (hk : k < N) (X : Blk) : Two D w0 s1 a c s t g ga oa gb ob M N (w.setCells gb (ob + k * 256) (arr X).toList) := by
  obtain ⟨L, h1, h2⟩ := h.x
  obtain ⟨L', h3, h4⟩ := h.y
  have hs := h.sz
  obtain ⟨l1, l2, l3, l4, l5, l6, l7, l8, l9⟩ := h.lo
  obtain ⟨P, hp, hd, he⟩ := h.p
  exact ⟨⟨P, hp, by rw [setCells_size]; exact hD.cells hd (.inl (.inr (.inr rfl))) _ _, by rw [setCells_size]; exact hD.cells he ⟨hp _ l4, by omega⟩ _ _⟩, below_cells h.b l6 _ _, h.m.keep (setCells_heap_ne _ _ _ _ _ (Ne.symm l8)), ⟨L, h1, h2.keep (setCells_heap_ne _ _ _ _ _ l9)⟩, ⟨L'.set k X, by simp [h3], h4.set (by omega) X⟩, h.lo, by rw [setCells_size]; exact h.sz⟩
theorem Two.therex (h : Two D w0 s1 a c s t g ga oa gb ob M N w) {k : Nat} (hk : k < N) : w.there ga (oa + k * 256) 256 := by
  obtain ⟨L, h1, h2⟩ := h.x
  exact h2.there (by omega)
theorem Two.therey (h : Two D w0 s1 a c s t g ga oa gb ob M N w) {k : Nat} (hk : k < N) : w.there gb (ob + k * 256) 256 := by
  obtain ⟨L, h1, h2⟩ := h.y
  exact h2.there (by omega)
theorem Two.image1 (hD : DiskSays D) (h : Two D w0 s1 a c s t g ga oa gb ob M N w) : Calls Try.prog 13 #[.pointer (some a)] w fun e w' => (∃ g' o' c', e = .returned (.slice (some ⟨g', o', none⟩) s.safe.length c') ∧ OImg w' g' o' s.now) ∧ Two D w0 s1 a c s t g ga oa gb ob M N w' :=
  (h.one hD (Below.refl _ _) (R := fun e w' => ∃ g' o' c', e = .returned (.slice (some ⟨g', o', none⟩) s.safe.length c') ∧ OImg w' g' o' s.now) fun av hd => (hD.image a s av w hd).mono fun _ _ ⟨⟨g', o', c', he, ho, _, hd'⟩, hk⟩ => ⟨⟨⟨g', o', c', he, ho⟩, _, fun _ hi => .inl hi, hd'⟩, hk⟩).mono fun _ _ h => ⟨h.1, h.2.1⟩
theorem Two.image2 (hD : DiskSays D) (h : Two D w0 s1 a c s t g ga oa gb ob M N w) : Calls Try.prog 13 #[.pointer (some c)] w fun e w' => (∃ g' o' c', e = .returned (.slice (some ⟨g', o', none⟩) t.safe.length c') ∧ OImg w' g' o' t.now) ∧ Two D w0 s1 a c s t g ga oa gb ob M N w' :=
  h.two hD (R := fun e w' => ∃ g' o' c', e = .returned (.slice (some ⟨g', o', none⟩) t.safe.length c') ∧ OImg w' g' o' t.now) fun av hd => (hD.image c t av w hd).mono fun _ _ ⟨⟨g', o', c', he, ho, _, hd'⟩, hk⟩ => ⟨⟨⟨g', o', c', he, ho⟩, _, fun _ hi => .inl hi, hd'⟩, hk⟩
theorem Two.safe1 (hD : DiskSays D) (h : Two D w0 s1 a c s t g ga oa gb ob M N w) {w1 : World} (hb : Below w.heap.size w w1) : Calls Try.prog 14 #[.pointer (some a)] w1 fun e w' => (∃ g' o' c', e = .returned (.slice (some ⟨g', o', none⟩) s.safe.length c') ∧ OImg w' g' o' s.safe) ∧ Two D w0 s1 a c s t g ga oa gb ob M N w' ∧ Keep (fun i => w.heap.size ≤ i ∧ i < w1.heap.size) w1 w' :=
  h.one hD hb (R := fun e w' => ∃ g' o' c', e = .returned (.slice (some ⟨g', o', none⟩) s.safe.length c') ∧ OImg w' g' o' s.safe) fun av hd => (hD.safe a s av w1 hd).mono fun _ _ ⟨⟨g', o', c', he, ho, _, hd'⟩, hk⟩ => ⟨⟨⟨g', o', c', he, ho⟩, _, fun _ hi => .inl hi, hd'⟩, hk⟩
theorem told_first (hD : DiskSays D) (h : Two D w0 s1 a c s t g ga oa gb ob M N w) {g' o' : Nat} {Z : List Blk} (hi : OImg w g' o' Z) (n : Nat) (ty : TypeId) :
    OImg (w.alloc (.cells (madeBlks n) ty)) g' o' Z ∧ OImg (w.alloc (.cells (madeBlks n) ty)) w.heap.size 0 (List.replicate n .zero) ∧ Two D w0 s1 a c s t g ga oa gb ob M N (w.alloc (.cells (madeBlks n) ty)) := by
  have ha : Below w.heap.size w (w.alloc (.cells (madeBlks n) ty)) := (Below.refl _ _).alloc (Nat.le_refl _) _
  exact ⟨hi.keep (ha.block _ hi.lt), OImg.made w n ty, h.below hD ha⟩
theorem told_last {g' o' n : Nat} {ty : TypeId} {Z : List Blk} (ht : Two D w0 s1 a c s t g ga oa gb ob M N w') (hk : Keep (fun i => w.heap.size ≤ i ∧ i < (w.alloc (.cells (madeBlks n) ty)).heap.size) (w.alloc (.cells (madeBlks n) ty)) w') (hi : OImg w' g' o' Z) :
    OImg w' g' o' Z ∧ OImg w' w.heap.size 0 (List.replicate n .zero) ∧ Two D w0 s1 a c s t g ga oa gb ob M N w' :=
  ⟨hi, hk.oimg ⟨Nat.le_refl _, by simp⟩ (OImg.made w n ty), ht⟩

set_option maxRecDepth 100000 in
set_option maxHeartbeats 4000000 in
theorem diskTold_any (hD : DiskSays D) (n : Int) (A : Option Addr) (c m : Nat) (l : Puts) (w : World) (hm : m = l.length) (hA : PutsAt w A l) (hm8 : m ≤ 140737488355328) :
    Calls Try.prog 9 #[.int .i64 n, .slice A m c] w fun e w' => e = .returned (.bool true) ∧ Below w.heap.size w w' := by
  have HD := Lib.hid hD
  have HM := Lib.hid hm
  have HA := Lib.hid hA
  have HC := Lib.hid (count_range n)
  clear hD hm hA
  by_cases hg : 300 < m
  · have t1 : decide ((300 : Int) < m) = true := by simp; omega
    go_enter Try.func9, Try.ntmps9
    go_wp2_with fail
    go_ret
    exact ⟨rfl, Below.refl _ _⟩
  have t1 : decide ((300 : Int) < m) = false := by simp; omega
  have hl3 : m ≤ 300 := by omega
  clear hg
  go_enter Try.func9, Try.ntmps9
  go_wp2_with fail
  refine (written_any HD.out n A c m l _ HM.out hl3 HA.out).mono ?_
  rintro e w1 ⟨⟨a, g, c', rfl, hd, hgs, hom⟩, hb⟩
  have HN := Lib.hid (over_rep (count n) (ws (count n) l))
  have hN := HC.out.1
  have hN2 := HC.out.2
  generalize count n = N at hd hom hN hN2 HN ⊢
  have hwl : (ws N l).length ≤ 300 := by have := ws_len N l; have := HM.out; omega
  generalize ws N l = W at hd hom hwl HN ⊢
  have HZ := Lib.hid (List.length_replicate (n := N) (a := Blk.zero))
  go_wp2_with fail
  refine (HD.out.image a _ _ _ hd).mono ?_
  rintro e w2 ⟨⟨ga, oa, ca, rfl, hoa, hsa, hd2⟩, hk2⟩
  rw [show (put N W).safe.length = N from HZ.out]
  go_wp2_with fail
  refine (HD.out.safe a _ _ _ hd2).mono ?_
  rintro e w3 ⟨⟨gb, ob, cb, rfl, hob, hsb, hd3⟩, hk3⟩
  rw [show (put N W).safe.length = N from HZ.out]
  go_wp2_with fail
  refine (HD.out.load_yes _ N _ (over (List.replicate N .zero) W) _ HN.out.symm ((hk3.oimg (.inr rfl) hoa).img) (by omega) (by omega)).mono ?_
  rintro e w4 ⟨⟨c2, rfl, hd4⟩, hb4⟩
  have T0 : Hid (Two D w w3.heap.size a c2 (put N W) ⟨over (List.replicate N .zero) W, [], 0, none⟩ g ga oa gb ob (over (List.replicate N .zero) W) N w4) := Lib.hid (by
    have hb1 : Below w.heap.size w w3 := (hb.trans (hk2.below fun i h => .inl h)).trans (hk3.below fun i h => .inl (.inl h))
    have hm3 : OImg w3 g 0 (over (List.replicate N .zero) W) := hk3.oimg (.inl (.inr rfl)) (hk2.oimg (.inr rfl) hom)
    have hx3 : OImg w3 ga oa (over (List.replicate N .zero) W) := hk3.oimg (.inr rfl) hoa
    have s1 := hb.size
    have s2 := hk2.size
    have s3 := hk3.size
    have l1 := hom.lt
    have l2 := hoa.lt
    have l3 := hob.lt
    refine ⟨⟨fun i => w3.heap.size ≤ i, fun i hi => by omega, HD.out.mono (HD.out.new' hd3 hb4) ?_, HD.out.mono hd4 fun i hi => by have := hi.1; omega⟩, hb1.trans (hb4.mono hb1.size), hm3.keep (hb4.block _ hm3.lt), ⟨_, HN.out, hx3.keep (hb4.block _ hx3.lt)⟩, ⟨_, HZ.out, hob.keep (hb4.block _ l3)⟩, ⟨by omega, by omega, by omega, l3, by omega, by omega, by omega, by omega, by omega⟩, hb4.size⟩
    intro i h
    rcases h with (h | h | h) | h
    · exact .inl (.inl (.inl h))
    · exact .inl (.inl (.inr h))
    · exact .inl (.inr h)
    · exact .inr h)
  clear hb hk2 hk3 hom hoa hob hd hd2 hd3 hd4 hb4
  generalize w3.heap.size = s1 at T0
  go_wp2_with fail
  go_loopw [13] (fun i wr => ∃ k : Nat, k ≤ N ∧ i = .int .i64 k ∧ Hid (Two D w s1 a c2 (put N W) ⟨over (List.replicate N .zero) W, [], 0, none⟩ g ga oa gb ob (over (List.replicate N .zero) W) N wr)) (fun i _ => N - (intOf i).toNat)
  case atStart => exact ⟨0, Nat.zero_le _, rfl, T0⟩
  case round =>
    obtain ⟨k, hk, rfl, T⟩ := hrel
    by_cases hlt : k < N
    · have j1 : (0 : Int) ≤ k := by omega
      have j2 : (k : Int) < N := by omega
      go_wp2_with fail
      refine (fill_any 12345 _ (by omega)).mono ?_
      rintro e w5 ⟨rfl, hb⟩
      have T5 := Lib.hid (T.out.below HD.out hb)
      clear hb T
      go_wp2_with (refine store_blk rfl (.tmp 61) (.tmp 60) rfl ga (oa + k * 256) (fillB 12345) rfl rfl (T5.out.therex hlt) ?_)
      have T6 := Lib.hid (T5.out.setx HD.out hlt (fillB 12345))
      generalize w5.setCells ga (oa + k * 256) (arr (fillB 12345)).toList = w6 at T6 ⊢
      clear T5
      refine (fill_any 54321 _ (by omega)).mono ?_
      rintro e w7 ⟨rfl, hb⟩
      have T7 := Lib.hid (T6.out.below HD.out hb)
      clear hb T6
      go_wp2_with (refine store_blk rfl (.tmp 65) (.tmp 64) rfl gb (ob + k * 256) (fillB 54321) rfl rfl (T7.out.therey hlt) ?_)
      have T8 := Lib.hid (T7.out.sety HD.out hlt (fillB 54321))
      generalize w7.setCells gb (ob + k * 256) (arr (fillB 54321)).toList = w8 at T8 ⊢
      clear T7
      go_roundw
      case rel => exact ⟨k + 1, by omega, by go_num, T8⟩
      case measure => simp [intOf]; omega
    · obtain rfl : k = N := by omega
      have hmk := fun W => make_blks .i64 .i64 k (by omega) W
      have tok1 : True := trivial
      have tok2 : True := trivial
      go_wp2_with fail
      go_region_held3 (fun _ => True) (exact trivial) (first
        | (go_at_call 13; (with_reducible refine ((T.out.drew HD.out).image1 HD.out).mono ?_); rintro e w5 ⟨⟨g5, o5, c5, rfl, ho5⟩, ht⟩; have T5 := Lib.hid ht; have I5 := Lib.hid ho5; clear ht ho5; rw [show (put k W).safe.length = k from HZ.out])
        | (go_at_call 28; have _t := tok1; refine (same_true _ _ _ _ _ (over (List.replicate k .zero) W) _ HN.out.symm (by omega) I5.out.img T5.out.m.img).mono ?_; rintro e w6 ⟨rfl, q6, hw6⟩; have T6 := Lib.hid (T5.out.drewN HD.out q6); rw [← hw6] at T6; clear hw6 tok1)
        | (go_at_call 13; (with_reducible refine (T6.out.image2 HD.out).mono ?_); rintro e w7 ⟨⟨g7, o7, c7, rfl, ho7⟩, ht⟩; have T7 := Lib.hid ht; have I7 := Lib.hid ho7; clear ht ho7; dsimp only; rw [HN.out])
        | (go_at_call 28; have _t := tok2; refine (same_true _ _ _ _ _ (over (List.replicate k .zero) W) _ HN.out.symm (by omega) I7.out.img T7.out.m.img).mono ?_; rintro e w8 ⟨rfl, q8, hw8⟩; have T8 := Lib.hid (T7.out.drewN HD.out q8); rw [← hw8] at T8; clear hw8 tok2)
        | (go_at_call 14; (with_reducible refine (T8.out.safe1 HD.out (w := w8) (Below.refl _ _)).mono ?_); rintro e w9 ⟨⟨g9, o9, c9, rfl, ho9⟩, ht, hk⟩; have Y := Lib.hid (told_first HD.out ht ho9 k 26); clear ht hk ho9; rw [show (put k W).safe.length = k from HZ.out])
        | (go_at_call 14; (with_reducible refine (T8.out.safe1 HD.out (w := w8) (w1 := w8.alloc (.cells (madeBlks k) 26)) ((Below.refl _ _).alloc (Nat.le_refl _) _)).mono ?_); rintro e w9 ⟨⟨g9, o9, c9, rfl, ho9⟩, ht, hk⟩; have Y := Lib.hid (told_last ht hk ho9); clear ht hk ho9; rw [show (put k W).safe.length = k from HZ.out])
        | (go_at_call 28; refine (same_true _ _ _ _ k (List.replicate k .zero) _ HZ.out.symm (by omega) Y.out.1.img Y.out.2.1.img).mono ?_; rintro e w10 ⟨rfl, q10, hw10⟩; have B10 : Hid (Below w.heap.size w w10) := Lib.hid (by rw [hw10]; exact (Y.out.2.2.drewN HD.out q10).b); clear hw10))
      all_goals
        go_wp2_with fail
        go_ret
        exact ⟨rfl, B10.out⟩
end
end Go.Proofs.Ytaipcciokhkmnaa
