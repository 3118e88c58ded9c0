import Derived.Test.YtkblpildfeopiaaBitsT
import Derived.Deep.AppendLies
import Derived.OwnWalk
namespace Go.Proofs.Ytkblpildfeopiaa
open Go.RowKit

theorem int_row : (Try.prog.info? 3).map (fun i => (i.zero, i.size, i.bytes)) = some (some (.int .i64 0), 1, 8) := by kernel_rfl
def ints (T : List Nat) : List Value := T.map fun (t : Nat) => Value.int .i64 ((t : Nat) : Int)
/-- A list of ints of the call's own. -/
def IOwn (w : World) (base : Nat) (v : Value) (T : List Nat) : Prop := w.ownsRow base 3 1 v T.length (ints T)
theorem IOwn.nil (w : World) (base : Nat) : IOwn w base (.slice none 0 0) [] := World.ownsRow_nil _ _ _ _
theorem IOwn.keep {w w' : World} {base : Nat} {v : Value} {T : List Nat} (h : IOwn w base v T) (hk : ∀ g, v.ownBlock = some g → w'.heap[g]? = w.heap[g]?) : IOwn w' base v T := by
  obtain ⟨h1, h2⟩ := h
  refine ⟨h1, ?_⟩
  rcases h2 with h2 | ⟨g, cap, cur, rfl, hb, hg, rest⟩
  · exact .inl h2
  · exact .inr ⟨g, cap, cur, rfl, hb, (hk g rfl).trans hg, rest⟩
theorem IOwn.base_le {w : World} {base : Nat} {v : Value} {T : List Nat} (h : IOwn w base v T) : ∀ g, v.ownBlock = some g → base ≤ g ∧ g < w.heap.size := by
  intro g e
  rcases h.2 with ⟨rfl, _⟩ | ⟨g', cap, cur, rfl, hb, hg, _⟩
  · simp [Value.ownBlock] at e
  · have : g' = g := by simpa [Value.ownBlock] using e
    subst this
    refine ⟨hb, ?_⟩
    rcases Nat.lt_or_ge g' w.heap.size with h | h
    · exact h
    · rw [Array.getElem?_eq_none h] at hg; cases hg
theorem IOwn.below {w w' : World} {base : Nat} {v : Value} {T : List Nat} (h : IOwn w base v T) (hb : Below w.heap.size w w') : IOwn w' base v T := h.keep fun g e => hb.block g (h.base_le g e).2
theorem IOwn.but {w w' : World} {base k : Nat} {v : Value} {T : List Nat} (h : IOwn w base v T) (hb : But k w w') (hk : k < base) : IOwn w' base v T := h.keep fun g e => hb.block g (h.base_le g e).2 (by have := (h.base_le g e).1; omega)
theorem IOwn.shape {w : World} {base : Nat} {v : Value} {T : List Nat} (h : IOwn w base v T) : ∃ A c, v = .slice A T.length c ∧ (T = [] → A = none ∨ True) := by
  rcases h.2 with ⟨rfl, h0⟩ | ⟨g', cap, cur, rfl, _⟩
  · exact ⟨none, 0, by rw [h0], fun _ => .inr trivial⟩
  · exact ⟨_, _, rfl, fun _ => .inr trivial⟩
theorem IOwn.cell {w : World} {base : Nat} {A : Option Addr} {n c : Nat} {T : List Nat} (h : IOwn w base (.slice A n c) T) {k t : Nat} (ht : T[k]? = some t) : ∃ g, A = some ⟨g, 0, none⟩ ∧ w.cell? ⟨g, k, none⟩ = some (.int .i64 (t : Int)) := by
  have hk : k < T.length := by
    rcases Nat.lt_or_ge k T.length with q | q
    · exact q
    · rw [List.getElem?_eq_none q] at ht; cases ht
  obtain ⟨g, rfl⟩ : ∃ g, A = some ⟨g, 0, none⟩ := by
    rcases h.2 with ⟨_, h2⟩ | ⟨g', cap, cur, h1, _⟩
    · omega
    · injection h1 with h1; exact ⟨g', h1⟩
  refine ⟨g, rfl, ?_⟩
  have hc := World.ownsRow.cells h (g := g) rfl
  have := hc k (.int .i64 (t : Int)) (by unfold ints; rw [List.getElem?_map, ht]; rfl)
  have hadd : (⟨g, 0, none⟩ : Addr).add k = ⟨g, k, none⟩ := by unfold Addr.add; split <;> simp_all
  rw [hadd] at this
  exact this
theorem IOwn.cell' {w : World} {base g n c : Nat} {T : List Nat} (h : IOwn w base (.slice (some ⟨g, 0, none⟩) n c) T) {k t : Nat} (ht : T[k]? = some t) : w.cell? ⟨g, k, none⟩ = some (.int .i64 (t : Int)) := by
  obtain ⟨g', e, hc⟩ := h.cell ht
  injection e with e
  injection e with e
  subst e
  exact hc
theorem ints_snoc (T : List Nat) (k : Nat) : ints (T ++ [k]) = ints T ++ [.int .i64 (k : Int)] := by unfold ints; simp
/-- Behind the append. -/
theorem IOwn.grew {w w6 w7 : World} {n0 g k cap gg : Nat} {v : Value} {T : List Nat} {Y X : Blk} (hO : IOwn w6 n0 v T) (hC : Var w6 g Y) (hV : Var w6 w.heap.size X) (hB : Below w.heap.size w w6) (hg : g < n0) (hwg : w.heap.size < g) (hn : n0 ≤ w6.heap.size)
    (hgrow : (w6.alloc (.cells #[.int .i64 (k : Int)] 3)).grownBy w7 v.ownBlock) (hown : w7.ownsRow n0 3 1 (.slice (some ⟨gg, 0, none⟩) (T.length + 1) cap) (T.length + 1) (ints T ++ [.int .i64 (k : Int)])) :
    IOwn w7 n0 (.slice (some ⟨gg, 0, none⟩) (T.length + 1) cap) (T ++ [k]) ∧ Var w7 g Y ∧ Var w7 w.heap.size X ∧ Below w.heap.size w w7 ∧ n0 ≤ w7.heap.size := by
  have hb : Below w6.heap.size w6 (w6.alloc (.cells #[.int .i64 (k : Int)] 3)) := (Below.refl _ _).alloc (Nat.le_refl _) _
  have hC' := hC.below hb
  have hV' := hV.below hb
  have ne : ∀ i, i < n0 → some i ≠ v.ownBlock := fun i hi e => by have := (hO.base_le i e.symm).1; omega
  have hsz : w6.heap.size ≤ (w6.alloc (.cells #[.int .i64 (k : Int)] 3)).heap.size := by simp
  refine ⟨?_, (hgrow.block g hC'.lt (ne g hg)).trans hC', (hgrow.block w.heap.size hV'.lt (ne _ (by omega))).trans hV', ?_, Nat.le_trans hn (Nat.le_trans hsz hgrow.size)⟩
  · unfold IOwn
    rw [List.length_append, ints_snoc]
    exact hown
  · exact (hB.alloc hB.size _).grown hgrow (Nat.le_trans hB.size hsz) fun j e => by have := (hO.base_le j e).1; omega
theorem idx_eq (q : Int) (k n : Nat) (hn : 1 ≤ n) (hn2 : n ≤ 4096) (hk : k ≤ 4096) : (wrap64 ((k : Int) + wrap64 ((IntKind.u64.wrap q).tmod (n : Int)))).tmod (n : Int) = (((k + (IntKind.u64.wrap q).toNat % n) % n : Nat) : Int) := by
  have h0 : IntKind.u64.wrap q = q % 18446744073709551616 := by simp [IntKind.wrap, IntKind.bits, IntKind.signed]
  have h1 : 0 ≤ q % 18446744073709551616 := Int.emod_nonneg _ (by omega)
  rw [h0]
  generalize q % 18446744073709551616 = r at h1 ⊢
  obtain ⟨m, rfl⟩ := Int.eq_ofNat_of_zero_le h1
  have hin : ((m : Int)).tmod (n : Int) = ((m % n : Nat) : Int) := by rw [Int.tmod_eq_emod_of_nonneg (by omega)]; simp
  rw [Int.toNat_natCast, hin]
  clear hin
  have h2 : m % n < n := Nat.mod_lt _ (by omega)
  generalize m % n = u at h2 ⊢
  have h3 : wrap64 ((k : Int) + wrap64 (u : Int)) = ((k + u : Nat) : Int) := by unfold wrap64; omega
  rw [h3, Int.tmod_eq_emod_of_nonneg (by omega)]
  simp
set_option maxRecDepth 100000 in
set_option maxHeartbeats 4000000 in
theorem bitsTaken_any (hS : BitsSays) (X : Blk) (a b q : Int) (w : World) (h2 : I64 a) (h3 : I64 b) (h4 : I64 q) :
    Calls Try.prog 6 #[.agg (arr X), .int .i64 a, .int .i64 b, .int .i64 q] w fun e w' => e = .returned (.bool true) ∧ Below w.heap.size w w' := by
  have HS := Lib.hid hS
  have H2 := Lib.hid h2
  have H3 := Lib.hid h3
  have H4 := Lib.hid h4
  clear hS h2 h3 h4
  have hz := fun W => zero_blk W
  have V0 : Hid (Var (w.alloc (.cells (arr X) 23)) w.heap.size X) := Lib.hid (heap_alloc_new w _)
  have B0 := Lib.hid ((Below.refl w.heap.size w).alloc (Nat.le_refl _) (.cells (arr X) 23))
  obtain ⟨i0, hi0, hzz⟩ := Option.map_eq_some_iff.1 int_row
  simp only [Prod.mk.injEq] at hzz
  obtain ⟨hz0, hz1, hz2⟩ := hzz
  have HZ0 := Lib.hid hz0
  have HZ1 := Lib.hid hz1
  have HZ2 := Lib.hid hz2
  have HI0 := Lib.hid hi0
  clear hz0 hz1 hz2 hi0
  go_enter Try.func6, Try.ntmps6
  go_wp2_with fail
  generalize w.alloc (.cells (arr X) 23) = w1 at V0 B0 ⊢
  refine (bAwake_any HS.out w1).mono ?_
  rintro e w2 ⟨rfl, hb⟩
  have V2 := Lib.hid (V0.out.below hb)
  have B2 := Lib.hid (B0.out.trans (hb.mono B0.out.size))
  clear hb V0 B0
  go_wp2_with (first
    | (refine load_blk rfl (.tmp 4) rfl w.heap.size 0 rfl X V2.out.at ?_)
    | (refine store_row rfl (.tmp 9) (.tmp 19) rfl w2.heap.size X .zero 23 rfl rfl (heap_alloc_new w2 _) ?_; rw [World.setRow_alloc_new]))
  have hb : Below w2.heap.size w2 (w2.alloc (.cells (arr X) 23)) := (Below.refl _ _).alloc (Nat.le_refl _) _
  have C3 : Hid (Var (w2.alloc (.cells (arr X) 23)) w2.heap.size X) := Lib.hid (heap_alloc_new w2 _)
  have V3 := Lib.hid (V2.out.below hb)
  have B3 := Lib.hid (B2.out.trans (hb.mono B2.out.size))
  have NE : Hid (w.heap.size < w2.heap.size) := Lib.hid V2.out.lt
  have NG : Hid (w2.heap.size < (w2.alloc (.cells (arr X) 23)).heap.size) := Lib.hid C3.out.lt
  clear hb V2 B2
  generalize w2.alloc (.cells (arr X) 23) = w3 at C3 V3 B3 NG ⊢
  generalize w2.heap.size = g at C3 NE NG ⊢
  have ZB : Hid (w.heap.size ≤ w3.heap.size) := Lib.hid B3.out.size
  obtain ⟨n0, hn0⟩ : ∃ n0, w3.heap.size = n0 := ⟨_, rfl⟩
  rw [hn0] at NG ZB
  have N0 := Lib.hid hn0
  clear hn0
  go_loopw [10, 11] (fun v i wr => ∃ (T : List Nat) (Y : Blk), i = .int .i64 (T.length : Nat) ∧ Hid (Taken X Y a b T) ∧ Hid (Var wr g Y) ∧ Hid (Var wr w.heap.size X) ∧ Hid (IOwn wr n0 v T) ∧ Hid (Below w.heap.size w wr) ∧ Hid (n0 ≤ wr.heap.size)) (fun _ i _ => 2049 - (intOf i).toNat)
  case atStart => exact ⟨[], X, rfl, Lib.hid (Taken.start X a b), C3, V3, Lib.hid (IOwn.nil _ _), B3, Lib.hid (by rw [N0.out]; exact Nat.le_refl _)⟩
  case round =>
    clear V3 B3 C3
    obtain ⟨T, Y, rfl, TK, C, V, O, B, NW⟩ := hrel
    have hl := TK.out.len
    go_wp2_with (refine load_blk rfl (.tmp 9) rfl g 0 rfl Y C.out.at ?_)
    refine (HS.out.first Y a b wr H2.out H3.out).mono ?_
    rintro e w4 ⟨rfl, hb⟩
    have C4 := Lib.hid (C.out.below hb)
    have V4 := Lib.hid (V.out.below hb)
    have O4 := Lib.hid (O.out.below hb)
    have B4 := Lib.hid (B.out.trans (hb.mono B.out.size))
    have NW4 := Lib.hid (Nat.le_trans NW.out hb.size)
    clear hb C V O B NW
    obtain ⟨A, cv, rfl, _⟩ := O4.out.shape
    by_cases hr : firstI Y a b = -1
    · rw [hr]
      have EN := Lib.hid (fun h => TK.out.ends hr h)
      clear hr
      have hmxa : (if (0 : Int) > a then 0 else a) = max a 0 := by split <;> omega
      have hmxb : (if (0 : Int) > b then 0 else b) = max b 0 := by split <;> omega
      have hmna : (if (2048 : Int) < max a 0 then 2048 else max a 0) = (lim a : Nat) := by unfold lim; split <;> omega
      have hmnb : (if (2048 : Int) < max b 0 then 2048 else max b 0) = (lim b : Nat) := by unfold lim; split <;> omega
      have la := lim_le a
      have lb := lim_le b
      have La64 : Hid (I64 (lim a : Nat)) := Lib.hid (i64_nat (by omega))
      have Lb64 : Hid (I64 (lim b : Nat)) := Lib.hid (i64_nat (by omega))
      have CA : Hid (∀ Z : Blk, countI Z (lim a : Nat) = countI Z a) := Lib.hid fun Z => by unfold countI; rw [show lim ((lim a : Nat) : Int) = lim a from lim_nat (lim_le a)]
      have CB : Hid (∀ Z : Blk, countI Z (lim b : Nat) = countI Z b) := Lib.hid fun Z => by unfold countI; rw [show lim ((lim b : Nat) : Int) = lim b from lim_nat (lim_le b)]
      go_wp2_with fail
      have QY1 : Hid (∀ W, Calls Try.prog 15 #[.agg (arr Y), .int .i64 (lim b : Nat)] W fun e w' => e = .returned (.int .i64 (countI Y b : Nat)) ∧ Below W.heap.size W w') := Lib.hid fun W => (HS.out.count Y (lim b : Nat) W Lb64.out).mono fun e w' q => ⟨by rw [q.1, CB.out], q.2⟩
      have QY0 : Hid (∀ W, Calls Try.prog 15 #[.agg (arr Y), .int .i64 (lim a : Nat)] W fun e w' => e = .returned (.int .i64 (countI Y a : Nat)) ∧ Below W.heap.size W w') := Lib.hid fun W => (HS.out.count Y (lim a : Nat) W La64.out).mono fun e w' q => ⟨by rw [q.1, CA.out], q.2⟩
      have QX1 : Hid (∀ W, Calls Try.prog 15 #[.agg (arr X), .int .i64 (lim b : Nat)] W fun e w' => e = .returned (.int .i64 (countI X b : Nat)) ∧ Below W.heap.size W w') := Lib.hid fun W => (HS.out.count X (lim b : Nat) W Lb64.out).mono fun e w' q => ⟨by rw [q.1, CB.out], q.2⟩
      have QX0 : Hid (∀ W, Calls Try.prog 15 #[.agg (arr X), .int .i64 (lim a : Nat)] W fun e w' => e = .returned (.int .i64 (countI X a : Nat)) ∧ Below W.heap.size W w') := Lib.hid fun W => (HS.out.count X (lim a : Nat) W La64.out).mono fun e w' q => ⟨by rw [q.1, CA.out], q.2⟩
      have cl : ∀ (Z : Blk) (n : Int), countI Z n ≤ 2048 := fun Z n => Nat.le_trans (countN_le Z _) (lim_le n)
      have c1 := cl Y b
      have c2 := cl Y a
      have c3 := cl X b
      have c4 := cl X a
      clear cl CA CB La64 Lb64
      have PRE : Hid (Var w4 g Y ∧ Var w4 w.heap.size X ∧ IOwn w4 n0 (.slice A T.length cv) T ∧ Below w.heap.size w w4) := Lib.hid ⟨C4.out, V4.out, O4.out, B4.out⟩
      clear O4 B4 NW4
      generalize hyb : countI Y b = yb at *
      generalize hya : countI Y a = ya at *
      generalize hxb : countI X b = xb at *
      generalize hxa : countI X a = xa at *
      generalize hlb : lim b = lb' at *
      generalize hla : lim a = la' at *
      clear hyb hya hxb hxa
      by_cases hlt : la' < lb'
      · have E := EN.out hlt
        have t1 : decide ((la' : Int) < (lb' : Int)) = true := decide_eq_true (by omega)
        have t1' : decide (la' < lb') = true := decide_eq_true (by omega)
        have t2 : ((yb : Int) - (ya : Int) != (lb' : Int) - (la' : Int)) = false := by rw [bne_eq_false_iff_eq]; omega
        have t3 : ((T.length : Int) != (lb' : Int) - (la' : Int) - (xb : Int) + (xa : Int)) = false := by rw [bne_eq_false_iff_eq]; omega
        clear EN hlt E
        go_wp2_with fail
        refine wp_region_class (More w4) (by kernel_rfl) (by kernel_rfl) (More.drew _) ?_
        repeat (first | go_big_quiet_skip | (go_big_quiet_want; first | (refine quiet_load _ rfl _ _ rfl _ (by intro w' hw'; first | exact (C4.out.below hw').at | exact (V4.out.below hw').at) ?_; simp only [Act.put, List.setIfInBounds_toArray, List.set_cons_zero, List.set_cons_succ]; go_big_quiet_on) | (go_big_quiet_op; first | go_big_quiet_on | (apply Exists.intro; refine ⟨fun _ _ => ?_, ?_⟩; (with_reducible exact rfl); go_big_quiet_on) | go_big_quiet_call ((intro hC; first | (with_reducible refine (QY1.out _).mono ?_); exact fun e w' h => ⟨h.1, hC.on h.2⟩ | (with_reducible refine (QY0.out _).mono ?_); exact fun e w' h => ⟨h.1, hC.on h.2⟩ | (with_reducible refine (QX1.out _).mono ?_); exact fun e w' h => ⟨h.1, hC.on h.2⟩ | (with_reducible refine (QX0.out _).mono ?_); exact fun e w' h => ⟨h.1, hC.on h.2⟩)))))
        refine wpQuiet_nil ?_
        intro w5 hw5
        have PR5 : Hid (Var w5 g Y ∧ Var w5 w.heap.size X ∧ IOwn w5 n0 (.slice A T.length cv) T ∧ Below w.heap.size w w5) := Lib.hid ⟨PRE.out.1.below hw5, PRE.out.2.1.below hw5, PRE.out.2.2.1.below hw5, PRE.out.2.2.2.trans (Below.mono hw5 PRE.out.2.2.2.size)⟩
        clear hw5 PRE C4 V4
        clear QY1 QY0 QX1 QX0 t1 t2 t3
        go_wp2_with fail
        obtain ⟨s, hs⟩ : ∃ s : Nat, (IntKind.u64.wrap q).toNat % T.length = s := ⟨_, rfl⟩
        have SE := Lib.hid hs
        clear hs
        go_loopw [15] (fun i wr => ∃ (k : Nat) (Z : Blk), i = .int .i64 k ∧ k ≤ T.length ∧ Hid (Given X Z (T.drop s ++ T.take s) k) ∧ Hid (Var wr g Z ∧ Var wr w.heap.size X ∧ IOwn wr n0 (.slice A T.length cv) T ∧ Below w.heap.size w wr)) (fun i _ => T.length - (intOf i).toNat)
        case atStart => exact ⟨0, Y, rfl, Nat.zero_le _, Lib.hid (Given.start TK.out s), PR5⟩
        case round =>
          clear PR5
          obtain ⟨k, Z, rfl, hk, GV, P⟩ := hrel
          have j1 : (0 : Int) ≤ k := by omega
          by_cases hkl : k < T.length
          · have j2 : (k : Int) < T.length := by omega
            have j3 : (1 : Int) ≤ T.length := by omega
            have hsl : s < T.length := by rw [← SE.out]; exact Nat.mod_lt _ (by omega)
            have hix := idx_eq q k T.length (by omega) (by omega) (by omega)
            rw [SE.out] at hix
            obtain ⟨t, ht⟩ : ∃ t, (T.drop s ++ T.take s)[k]? = some t := ⟨_, List.getElem?_eq_getElem (by simp; omega)⟩
            have hNX := Lib.hid (GV.out.next ht)
            rw [round_get hsl hkl] at ht
            have hp : (k + s) % T.length < T.length := Nat.mod_lt _ (by omega)
            generalize (k + s) % T.length = p at hix ht hp
            obtain ⟨go, rfl, cc⟩ := P.out.2.2.1.cell ht
            have j4 : (0 : Int) ≤ (p : Int) := by omega
            have j5 : (p : Int) < T.length := by omega
            have N1 := Lib.hid hNX.out.1
            have N2 := Lib.hid hNX.out.2.1
            have N3 := Lib.hid hNX.out.2.2.1
            have N4 := Lib.hid hNX.out.2.2.2.1
            have N5 := Lib.hid hNX.out.2.2.2.2
            have t64 : Hid (I64 t) := Lib.hid (i64_nat (by have := N1.out; omega))
            clear hNX ht GV
            obtain ⟨Z1, hZ1⟩ : ∃ Z1, turnB Z t false = Z1 := ⟨_, rfl⟩
            have TZ := Lib.hid hZ1
            rw [hZ1] at N4 N5
            clear hZ1
            go_wp2_with (first
              | (refine load_blk rfl (.tmp 9) rfl g 0 rfl Z P.out.1.at ?_)
              | (go_at_call 11; (with_reducible refine (HS.out.has Z t _ t64.out).mono ?_); rintro e w6 ⟨rfl, hb⟩; rw [N2.out]; have P6 : Hid (Var w6 g Z ∧ Var w6 w.heap.size X ∧ IOwn w6 n0 (.slice (some ⟨go, 0, none⟩) T.length cv) T ∧ Below w.heap.size w w6) := Lib.hid ⟨P.out.1.below hb, P.out.2.1.below hb, P.out.2.2.1.below hb, P.out.2.2.2.trans (hb.mono P.out.2.2.2.size)⟩; clear hb)
              | (go_at_call 18; (with_reducible refine (HS.out.clear Z g t _ t64.out P6.out.1).mono ?_); rintro e w7 ⟨rfl, hv, hb⟩; rw [N3.out]; rw [TZ.out] at hv; have P7 : Hid (Var w7 g Z1 ∧ Var w7 w.heap.size X ∧ IOwn w7 n0 (.slice (some ⟨go, 0, none⟩) T.length cv) T ∧ Below w.heap.size w w7) := Lib.hid ⟨hv, P6.out.2.1.but hb (by have := NE.out; omega), P6.out.2.2.1.but hb NG.out, hb.below P6.out.2.2.2 (by have := NE.out; omega) P6.out.2.2.2.size⟩; clear hv hb P6)
              | (go_at_call 18; (with_reducible refine (HS.out.clear Z1 g t _ t64.out P7.out.1).mono ?_); rintro e w8 ⟨rfl, hv, hb⟩; rw [N4.out]; rw [turnB_no N4.out] at hv; have P8 : Hid (Var w8 g Z1 ∧ Var w8 w.heap.size X ∧ IOwn w8 n0 (.slice (some ⟨go, 0, none⟩) T.length cv) T ∧ Below w.heap.size w w8) := Lib.hid ⟨hv, P7.out.2.1.but hb (by have := NE.out; omega), P7.out.2.2.1.but hb NG.out, hb.below P7.out.2.2.2 (by have := NE.out; omega) P7.out.2.2.2.size⟩; clear hv hb P7))
            go_roundw
            case rel => exact ⟨k + 1, Z1, by first | rfl | (simp; done) | go_num, by omega, N5, P8⟩
            case measure => first | (simp [intOf]; done) | (simp [intOf]; omega)
          · obtain rfl : k = T.length := by omega
            have hlen : (T.drop s ++ T.take s).length = T.length := by
              rw [List.length_append, List.length_drop, List.length_take]; omega
            rw [← hlen] at GV
            have EZ := GV.out.all
            rw [EZ] at P
            have heq := fun W => equalIn_blk X X W
            have d1 : decide (X = X) = true := decide_eq_true rfl
            have hgd := blk_guard
            have HL2 := Lib.hid hlen
            clear GV EZ hlen
            go_wp2_with (first
              | (refine load_blk rfl (.tmp 9) rfl g 0 rfl X P.out.1.at ?_)
              | (refine load_blk rfl (.tmp 4) rfl w.heap.size 0 rfl X P.out.2.1.at ?_))
            go_ret
            exact ⟨rfl, P.out.2.2.2⟩
      · have t1 : decide ((la' : Int) < (lb' : Int)) = false := decide_eq_false (by omega)
        have t1' : decide (la' < lb') = false := decide_eq_false (by omega)
        clear EN hlt
        go_wp2_with fail
        refine wp_region_class (More w4) (by kernel_rfl) (by kernel_rfl) (More.drew _) ?_
        repeat (first | go_big_quiet_skip | (go_big_quiet_want; first | (refine quiet_load _ rfl _ _ rfl _ (by intro w' hw'; first | exact (C4.out.below hw').at | exact (V4.out.below hw').at) ?_; simp only [Act.put, List.setIfInBounds_toArray, List.set_cons_zero, List.set_cons_succ]; go_big_quiet_on) | (go_big_quiet_op; first | go_big_quiet_on | (apply Exists.intro; refine ⟨fun _ _ => ?_, ?_⟩; (with_reducible exact rfl); go_big_quiet_on) | go_big_quiet_call ((intro hC; first | (with_reducible refine (QY1.out _).mono ?_); exact fun e w' h => ⟨h.1, hC.on h.2⟩ | (with_reducible refine (QY0.out _).mono ?_); exact fun e w' h => ⟨h.1, hC.on h.2⟩ | (with_reducible refine (QX1.out _).mono ?_); exact fun e w' h => ⟨h.1, hC.on h.2⟩ | (with_reducible refine (QX0.out _).mono ?_); exact fun e w' h => ⟨h.1, hC.on h.2⟩)))))
        refine wpQuiet_nil ?_
        intro w5 hw5
        have PR5 : Hid (Var w5 g Y ∧ Var w5 w.heap.size X ∧ IOwn w5 n0 (.slice A T.length cv) T ∧ Below w.heap.size w w5) := Lib.hid ⟨PRE.out.1.below hw5, PRE.out.2.1.below hw5, PRE.out.2.2.1.below hw5, PRE.out.2.2.2.trans (Below.mono hw5 PRE.out.2.2.2.size)⟩
        clear hw5 PRE C4 V4
        clear QY1 QY0 QX1 QX0 t1
        go_wp2_with fail
        obtain ⟨s, hs⟩ : ∃ s : Nat, (IntKind.u64.wrap q).toNat % T.length = s := ⟨_, rfl⟩
        have SE := Lib.hid hs
        clear hs
        go_loopw [15] (fun i wr => ∃ (k : Nat) (Z : Blk), i = .int .i64 k ∧ k ≤ T.length ∧ Hid (Given X Z (T.drop s ++ T.take s) k) ∧ Hid (Var wr g Z ∧ Var wr w.heap.size X ∧ IOwn wr n0 (.slice A T.length cv) T ∧ Below w.heap.size w wr)) (fun i _ => T.length - (intOf i).toNat)
        case atStart => exact ⟨0, Y, rfl, Nat.zero_le _, Lib.hid (Given.start TK.out s), PR5⟩
        case round =>
          clear PR5
          obtain ⟨k, Z, rfl, hk, GV, P⟩ := hrel
          have j1 : (0 : Int) ≤ k := by omega
          by_cases hkl : k < T.length
          · have j2 : (k : Int) < T.length := by omega
            have j3 : (1 : Int) ≤ T.length := by omega
            have hsl : s < T.length := by rw [← SE.out]; exact Nat.mod_lt _ (by omega)
            have hix := idx_eq q k T.length (by omega) (by omega) (by omega)
            rw [SE.out] at hix
            obtain ⟨t, ht⟩ : ∃ t, (T.drop s ++ T.take s)[k]? = some t := ⟨_, List.getElem?_eq_getElem (by simp; omega)⟩
            have hNX := Lib.hid (GV.out.next ht)
            rw [round_get hsl hkl] at ht
            have hp : (k + s) % T.length < T.length := Nat.mod_lt _ (by omega)
            generalize (k + s) % T.length = p at hix ht hp
            obtain ⟨go, rfl, cc⟩ := P.out.2.2.1.cell ht
            have j4 : (0 : Int) ≤ (p : Int) := by omega
            have j5 : (p : Int) < T.length := by omega
            have N1 := Lib.hid hNX.out.1
            have N2 := Lib.hid hNX.out.2.1
            have N3 := Lib.hid hNX.out.2.2.1
            have N4 := Lib.hid hNX.out.2.2.2.1
            have N5 := Lib.hid hNX.out.2.2.2.2
            have t64 : Hid (I64 t) := Lib.hid (i64_nat (by have := N1.out; omega))
            clear hNX ht GV
            obtain ⟨Z1, hZ1⟩ : ∃ Z1, turnB Z t false = Z1 := ⟨_, rfl⟩
            have TZ := Lib.hid hZ1
            rw [hZ1] at N4 N5
            clear hZ1
            go_wp2_with (first
              | (refine load_blk rfl (.tmp 9) rfl g 0 rfl Z P.out.1.at ?_)
              | (go_at_call 11; (with_reducible refine (HS.out.has Z t _ t64.out).mono ?_); rintro e w6 ⟨rfl, hb⟩; rw [N2.out]; have P6 : Hid (Var w6 g Z ∧ Var w6 w.heap.size X ∧ IOwn w6 n0 (.slice (some ⟨go, 0, none⟩) T.length cv) T ∧ Below w.heap.size w w6) := Lib.hid ⟨P.out.1.below hb, P.out.2.1.below hb, P.out.2.2.1.below hb, P.out.2.2.2.trans (hb.mono P.out.2.2.2.size)⟩; clear hb)
              | (go_at_call 18; (with_reducible refine (HS.out.clear Z g t _ t64.out P6.out.1).mono ?_); rintro e w7 ⟨rfl, hv, hb⟩; rw [N3.out]; rw [TZ.out] at hv; have P7 : Hid (Var w7 g Z1 ∧ Var w7 w.heap.size X ∧ IOwn w7 n0 (.slice (some ⟨go, 0, none⟩) T.length cv) T ∧ Below w.heap.size w w7) := Lib.hid ⟨hv, P6.out.2.1.but hb (by have := NE.out; omega), P6.out.2.2.1.but hb NG.out, hb.below P6.out.2.2.2 (by have := NE.out; omega) P6.out.2.2.2.size⟩; clear hv hb P6)
              | (go_at_call 18; (with_reducible refine (HS.out.clear Z1 g t _ t64.out P7.out.1).mono ?_); rintro e w8 ⟨rfl, hv, hb⟩; rw [N4.out]; rw [turnB_no N4.out] at hv; have P8 : Hid (Var w8 g Z1 ∧ Var w8 w.heap.size X ∧ IOwn w8 n0 (.slice (some ⟨go, 0, none⟩) T.length cv) T ∧ Below w.heap.size w w8) := Lib.hid ⟨hv, P7.out.2.1.but hb (by have := NE.out; omega), P7.out.2.2.1.but hb NG.out, hb.below P7.out.2.2.2 (by have := NE.out; omega) P7.out.2.2.2.size⟩; clear hv hb P7))
            go_roundw
            case rel => exact ⟨k + 1, Z1, by first | rfl | (simp; done) | go_num, by omega, N5, P8⟩
            case measure => first | (simp [intOf]; done) | (simp [intOf]; omega)
          · obtain rfl : k = T.length := by omega
            have hlen : (T.drop s ++ T.take s).length = T.length := by
              rw [List.length_append, List.length_drop, List.length_take]; omega
            rw [← hlen] at GV
            have EZ := GV.out.all
            rw [EZ] at P
            have heq := fun W => equalIn_blk X X W
            have d1 : decide (X = X) = true := decide_eq_true rfl
            have hgd := blk_guard
            have HL2 := Lib.hid hlen
            clear GV EZ hlen
            go_wp2_with (first
              | (refine load_blk rfl (.tmp 9) rfl g 0 rfl X P.out.1.at ?_)
              | (refine load_blk rfl (.tmp 4) rfl w.heap.size 0 rfl X P.out.2.1.at ?_))
            go_ret
            exact ⟨rfl, P.out.2.2.2⟩
    · obtain ⟨k, e1, e2, e3, e4, e5, e6, e7, e8⟩ := TK.out.next hr
      rw [e1]
      have TK8 := Lib.hid e8
      have HX := Lib.hid e5
      have HT := Lib.hid e7
      have t1 : decide ((k : Int) < 0) = false := decide_eq_false (by omega)
      have t2 : decide ((k : Int) < a) = false := decide_eq_false (by omega)
      have t3 : decide (b ≤ (k : Int)) = false := decide_eq_false (by omega)
      have k64 : Hid (I64 k) := Lib.hid (by unfold I64; omega)
      have LK : Hid (∀ t ∈ T, t < k) := Lib.hid e6
      clear hr e1 e3 e4 e5 e6 e7 e8
      by_cases h0 : T.length = 0
      · obtain rfl : T = [] := List.eq_nil_of_length_eq_zero h0
        clear h0
        go_wp2_with (first
          | (refine load_blk_w (by rfl) (.tmp 4) rfl w.heap.size 0 rfl X V4.out.at ?_)
          | (go_at_call 11; refine (HS.out.has X k _ k64.out).mono ?_; rintro e w5 ⟨rfl, hb⟩; rw [HX.out]; have C5 := Lib.hid (C4.out.below hb); have V5 := Lib.hid (V4.out.below hb); have O5 := Lib.hid (O4.out.below hb); have B5 := Lib.hid (B4.out.trans (hb.mono B4.out.size)); have NW5 := Lib.hid (Nat.le_trans NW4.out hb.size); clear hb C4 V4 O4 B4 NW4)
          | (go_at_call 17; refine (HS.out.set Y g k _ k64.out C5.out).mono ?_; rintro e w6 ⟨rfl, hv, hb⟩; rw [HT.out]; have C6 := Lib.hid hv; have V6 := Lib.hid (V5.out.but hb (by have := NE.out; omega)); have O6 := Lib.hid (O5.out.but hb NG.out); have B6 := Lib.hid (hb.below B5.out (by have := NE.out; omega) B5.out.size); have NW6 := Lib.hid (Nat.le_trans NW5.out hb.size); clear hv hb C5 V5 O5 B5 NW5)
          | (at_builtin; refine wpList_append_lies _ rfl (.tmp 63) (.tmp 65) 38 rfl n0 3 i0 _ 1 8 Try.underlying38 HI0.out HZ0.out HZ1.out HZ2.out rfl (by omega) _ 0 _ rfl (O6.out.below ((Below.refl _ w6).alloc (Nat.le_refl _) (.cells #[.int .i64 (k : Int)] 3))) ⟨w6.heap.size, 0, none⟩ 1 1 [.int .i64 (k : Int)] rfl rfl (World.news_of_block (cs := #[.int .i64 (k : Int)]) (t := 3) (fr := (0, 0)) (heap_alloc_new w6 _)) (by intro u hu; rw [List.mem_singleton] at hu; subst hu; rfl) (by omega) (by simp only [maxLen]; omega) (by omega) (by have := NW6.out; simp; omega) (w6.heap.size + 1) (by simp) ?_; intro gg cap w7 hown1 hgrow hat hltg))
        have HG := Lib.hid (O6.out.grew C6.out V6.out B6.out NG.out NE.out NW6.out hgrow hown1)
        clear hown1 hgrow hat hltg C6 V6 O6 B6 NW6
        go_wp2_with fail
        go_roundw
        case rel => exact ⟨[] ++ [k], turnB Y k true, by first | rfl | (simp; done) | go_num, TK8, Lib.hid HG.out.2.1, Lib.hid HG.out.2.2.1, Lib.hid HG.out.1, Lib.hid HG.out.2.2.2.1, Lib.hid HG.out.2.2.2.2⟩
        case measure => first | (simp [intOf]; done) | (simp [intOf]; omega)
      · obtain ⟨t, ht⟩ : ∃ t, T[T.length - 1]? = some t := ⟨_, List.getElem?_eq_getElem (by omega)⟩
        obtain ⟨go, rfl, _⟩ := O4.out.cell ht
        have htk := LK.out t (List.mem_of_getElem? ht)
        have lastT := Lib.hid ht
        have t4 : decide ((0 : Int) < (T.length : Nat)) = true := decide_eq_true (by omega)
        have t4' : decide (0 < T.length) = true := decide_eq_true (by omega)
        have t5 : decide ((k : Int) ≤ (t : Nat)) = false := decide_eq_false (by omega)
        have t5' : decide (k ≤ t) = false := decide_eq_false (by omega)
        have hl1 : 1 ≤ T.length := by omega
        clear ht h0
        go_wp2_with (first
          | (refine load_blk_w (by rfl) (.tmp 4) rfl w.heap.size 0 rfl X V4.out.at ?_)
          | (go_at_call 11; refine (HS.out.has X k _ k64.out).mono ?_; rintro e w5 ⟨rfl, hb⟩; rw [HX.out]; have C5 := Lib.hid (C4.out.below hb); have V5 := Lib.hid (V4.out.below hb); have O5 := Lib.hid (O4.out.below hb); have cc := O5.out.cell' lastT.out; have B5 := Lib.hid (B4.out.trans (hb.mono B4.out.size)); have NW5 := Lib.hid (Nat.le_trans NW4.out hb.size); clear hb C4 V4 O4 B4 NW4)
          | (go_at_call 17; refine (HS.out.set Y g k _ k64.out C5.out).mono ?_; rintro e w6 ⟨rfl, hv, hb⟩; rw [HT.out]; have C6 := Lib.hid hv; have V6 := Lib.hid (V5.out.but hb (by have := NE.out; omega)); have O6 := Lib.hid (O5.out.but hb NG.out); have B6 := Lib.hid (hb.below B5.out (by have := NE.out; omega) B5.out.size); have NW6 := Lib.hid (Nat.le_trans NW5.out hb.size); clear hv hb C5 V5 O5 B5 NW5)
          | (at_builtin; refine wpList_append_lies _ rfl (.tmp 63) (.tmp 65) 38 rfl n0 3 i0 _ 1 8 Try.underlying38 HI0.out HZ0.out HZ1.out HZ2.out rfl (by omega) _ T.length _ rfl (O6.out.below ((Below.refl _ w6).alloc (Nat.le_refl _) (.cells #[.int .i64 (k : Int)] 3))) ⟨w6.heap.size, 0, none⟩ 1 1 [.int .i64 (k : Int)] rfl rfl (World.news_of_block (cs := #[.int .i64 (k : Int)]) (t := 3) (fr := (0, 0)) (heap_alloc_new w6 _)) (by intro u hu; rw [List.mem_singleton] at hu; subst hu; rfl) (by omega) (by simp only [maxLen]; omega) (by omega) (by have := NW6.out; simp; omega) (w6.heap.size + 1) (by simp) ?_; intro gg cap w7 hown1 hgrow hat hltg))
        have HG := Lib.hid (O6.out.grew C6.out V6.out B6.out NG.out NE.out NW6.out hgrow hown1)
        clear hown1 hgrow hat hltg C6 V6 O6 B6 NW6
        go_wp2_with fail
        go_roundw
        case rel => exact ⟨T ++ [k], turnB Y k true, by first | rfl | (simp; done) | go_num, TK8, Lib.hid HG.out.2.1, Lib.hid HG.out.2.2.1, Lib.hid HG.out.1, Lib.hid HG.out.2.2.2.1, Lib.hid HG.out.2.2.2.2⟩
        case measure => first | (simp [intOf]; done) | (simp [intOf]; omega)
end Go.Proofs.Ytkblpildfeopiaa
