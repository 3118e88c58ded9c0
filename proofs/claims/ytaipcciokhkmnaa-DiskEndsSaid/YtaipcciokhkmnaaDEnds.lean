import Derived.Test.YtaipcciokhkmnaaDWrites
namespace Go.Proofs.Ytaipcciokhkmnaa
open Go.RowKit

/-- A disk of which so many acts are done, and of which so many may be done. -/
def en (N aft : Nat) (W : Waits) : DS := ⟨List.replicate N .zero, W, W.length, some (aft - W.length)⟩
theorem en_start (N : Nat) (aft : Nat) : (DS.new N).power (aft : Int) = en N aft [] := by
  unfold DS.power DS.new en
  rw [if_neg (by omega)]
  simp
theorem en_err {N aft : Nat} {W : Waits} {b : Int} (h0 : 0 ≤ b) (h1 : b < N) : (en N aft W).err b = if aft ≤ W.length then 30 else 0 := by
  unfold DS.err en DS.dead
  have e : (some (aft - W.length) == some 0) = decide (aft ≤ W.length) := by
    rw [Bool.eq_iff_iff]; simp; omega
  dsimp only
  rw [e, List.length_replicate]
  by_cases h : aft ≤ W.length
  · simp [h]
  · rw [decide_eq_false h, if_neg h]
    simp only [Bool.false_eq_true, if_false]
    rw [if_neg (by omega)]
theorem en_write {N aft : Nat} {W : Waits} {b : Int} {x : Blk} (h0 : 0 ≤ b) (h1 : b < N) : (en N aft W).write b x = if aft ≤ W.length then en N aft W else en N aft (W ++ [(b.toNat, x)]) := by
  unfold DS.write
  rw [en_err h0 h1]
  by_cases h : aft ≤ W.length
  · rw [if_pos h, if_pos h, if_neg (by omega)]
  · rw [if_neg h, if_neg h, if_pos rfl]
    unfold en DS.act
    simp
    omega
theorem en_dead (N aft : Nat) (W : Waits) : (en N aft W).dead = decide (aft ≤ W.length) := by
  unfold en DS.dead
  rw [Bool.eq_iff_iff]; simp; omega
theorem kept_nil : ∀ W : Waits, kept W [] = []
  | [] => rfl
  | _ :: _ => rfl
def calm (N c : Nat) : DS := ⟨List.replicate N .zero, [], c, none⟩
theorem en_crash (N aft : Nat) (W : Waits) : (en N aft W).crash [] = calm N W.length := by
  unfold DS.crash en calm
  rw [kept_nil]; rfl
theorem calm_read {N c : Nat} {b : Int} (h0 : 0 ≤ b) (h1 : b < N) : (calm N c).read b = .zero ∧ (calm N c).err b = 0 := by
  have e : (calm N c).err b = 0 := by
    unfold DS.err calm DS.dead
    dsimp only
    rw [List.length_replicate, if_neg (by simp), if_neg (by omega)]
  refine ⟨?_, e⟩
  unfold DS.read
  rw [if_pos e]
  show (over (List.replicate N Blk.zero) []).getD b.toNat .zero = .zero
  rw [over, List.getD_eq_getElem?_getD, List.getElem?_replicate]
  split <;> rfl
theorem mod_in (p : Int) (N : Nat) (h1 : 1 ≤ N) (h2 : N ≤ 64) : 0 ≤ IntKind.i64.wrap ((IntKind.u64.wrap p).tmod (IntKind.u64.wrap N)) ∧ IntKind.i64.wrap ((IntKind.u64.wrap p).tmod (IntKind.u64.wrap N)) < N := by
  have h0 : ∀ z, IntKind.u64.wrap z = z % 18446744073709551616 := fun z => by simp [IntKind.wrap, IntKind.bits, IntKind.signed]
  rw [h0, h0]
  have e : (N : Int) % 18446744073709551616 = N := by omega
  have hp : 0 ≤ p % 18446744073709551616 := Int.emod_nonneg _ (by omega)
  rw [e, Int.tmod_eq_emod_of_nonneg hp]
  have a1 : 0 ≤ p % 18446744073709551616 % (N : Int) := Int.emod_nonneg _ (by omega)
  have a2 : p % 18446744073709551616 % (N : Int) < N := Int.emod_lt_of_pos _ (by omega)
  rw [IntKind.wrap_i64]
  omega
def upto (n : Int) : Nat := (n % 18446744073709551616 % 51).toNat
theorem upto_eq (n : Int) : wrap64 ((IntKind.u64.wrap n).tmod 51) = ((upto n : Nat) : Int) := by
  have h0 : IntKind.u64.wrap n = n % 18446744073709551616 := by simp [IntKind.wrap, IntKind.bits, IntKind.signed]
  have h1 : 0 ≤ n % 18446744073709551616 := Int.emod_nonneg _ (by omega)
  rw [h0, Int.tmod_eq_emod_of_nonneg h1]
  unfold upto
  generalize n % 18446744073709551616 = r at h1 ⊢
  have h3 : 0 ≤ r % 51 := by omega
  have h4 : r % 51 < 51 := by omega
  unfold wrap64
  omega
theorem upto_le (n : Int) : upto n ≤ 50 := by unfold upto; omega

def EndsRel (D : World → Addr → DS → Av → Prop) (w : World) (a : Addr) (m N U : Nat) (dn i : Value) (wr : World) : Prop :=
  ∃ (k : Nat) (W : Waits), k ≤ m ∧ i = .int .i64 k ∧ dn = .int .i64 (W.length : Nat) ∧ W.length ≤ k ∧ W.length ≤ U ∧ Hid (D wr a (en N U W) (· < w.heap.size)) ∧ Hid (Below w.heap.size w wr)

section
variable {D : World → Addr → DS → Av → Prop}
set_option maxRecDepth 100000 in
set_option maxHeartbeats 4000000 in
theorem diskEnds_any (hD : DiskSays D) (n aft : Int) (A : Option Addr) (c m : Nat) (l : Puts) (w : World) (hm : m = l.length) (hA : PutsAt w A l) (hm8 : m ≤ 140737488355328) :
    Calls Try.prog 8 #[.int .i64 n, .int .i64 aft, .slice A m c] w fun e w' => e = .returned (.bool true) ∧ Below w.heap.size w w' := by
  have HD := Lib.hid hD
  have HM := Lib.hid hm
  have HA := Lib.hid hA
  have HC := Lib.hid (count_range n)
  have HU := Lib.hid (upto_le aft)
  clear hD hm hA
  by_cases hg : 300 < m
  · have t1 : decide ((300 : Int) < m) = true := by simp; omega
    go_enter Try.func8, Try.ntmps8
    go_wp2_with fail
    go_ret
    exact ⟨rfl, Below.refl _ _⟩
  have t1 : decide ((300 : Int) < m) = false := by simp; omega
  have hl3 : m ≤ 300 := by omega
  clear hg
  go_enter Try.func8, Try.ntmps8
  go_wp2_with fail
  rw [cnt_eq n, upto_eq aft]
  have hN := HC.out.1
  have hN2 := HC.out.2
  have hU := HU.out
  generalize count n = N at hN hN2 ⊢
  generalize upto aft = U at hU ⊢
  refine (HD.out.new_yes N _ (by omega) (by omega)).mono ?_
  rintro e w1 ⟨⟨a, rfl, hd⟩, hb⟩
  rw [Int.toNat_natCast] at hd
  have B1 := Lib.hid hb
  have D1 := Lib.hid hd
  clear hb hd
  go_wp2_with fail
  refine (HD.out.power a _ _ (U : Int) _ D1.out (by omega)).mono ?_
  rintro e w2 ⟨rfl, hd, hk⟩
  rw [en_start] at hd
  have D2 := Lib.hid hd
  have B2 := Lib.hid (B1.out.trans (hk.below fun i h => h))
  clear hd hk D1 B1
  go_wp2_with fail
  go_loopw [9, 10] (fun dn i wr => EndsRel D w a m N U dn i wr) (fun _ i _ => m - (intOf i).toNat)
  case atStart => exact ⟨0, [], Nat.zero_le _, rfl, rfl, Nat.le_refl _, Nat.zero_le _, D2, B2⟩
  case round =>
    obtain ⟨k, W, hk, rfl, rfl, hW1, hW2, HDk, HBk⟩ := hrel
    by_cases hlt : k < m
    · have kl : k < l.length := by have := HM.out; omega
      obtain ⟨b, o, rfl, lb, hc⟩ := HA.out (by omega)
      obtain ⟨c1, c2, r1, r2, r3⟩ := hc k _ (List.getElem?_eq_getElem kl)
      have c1 := (HBk.out.cell (p := ⟨b, o + k * 2, none⟩) lb).trans c1
      have c2 := (HBk.out.cell (p := ⟨b, o + k * 2 + 1, none⟩) lb).trans c2
      have LB := Lib.hid lb
      clear hc
      generalize l[k] = q at c1 c2 r1 r2 r3
      obtain ⟨p, f⟩ := q
      dsimp only at c1 c2 r1 r2 r3
      have MI := Lib.hid (mod_in p N hN hN2)
      have hw : IntKind.u64.wrap (N : Int) = N := by simp [IntKind.wrap, IntKind.bits, IntKind.signed]; omega
      have hz0 : ((N : Int) == 0) = false := by rw [beq_eq_false_iff_ne]; omega
      have hz1 : ¬ (N : Int) = 0 := by omega
      have hz2 : ¬ N = 0 := by omega
      have j1 : (0 : Int) ≤ k := by omega
      have j2 : (k : Int) < m := by omega
      have ACT : Hid ((en N U W).acts < 1000000) := Lib.hid (by show W.length < 1000000; omega)
      have tok1 : True := trivial
      have tok2 : True := trivial
      go_wp2_with fail
      go_region_held3 (fun w' => w'.cell? ⟨b, o + k * 2, none⟩ = some (.int .i64 p) ∧ w'.cell? ⟨b, o + k * 2 + 1, none⟩ = some (.int .u32 (f : Int)))
        (first
          | go_keep
          | (go_split_ands; exact ⟨(hb.cell (World.block_lt_of_cell? _ _ (by assumption))).trans (by assumption), (hb.cell (World.block_lt_of_cell? _ _ (by assumption))).trans (by assumption)⟩)
          | (go_split_ands; exact ⟨(hk2.cell LB.out).trans (by assumption), (hk2.cell LB.out).trans (by assumption)⟩))
        (first
          | (go_at_call 10; have _t := tok1; refine (fill_any f _ r3).mono ?_; rintro e w2 ⟨rfl, hb⟩; have D5 := Lib.hid (HD.out.below (HD.out.drew HDk.out) hb); clear tok1)
          | (go_at_call 18; have _t := tok2; refine (HD.out.write a _ _ _ (fillB f) _ D5.out ACT.out).mono ?_; rintro e w3 ⟨rfl, hd, hk2⟩; clear tok2))
      have hb' : Below wr.heap.size wr w2 := ⟨hb.os, hb.tape, hb.output, hb.size, hb.block⟩
      have B3 := Lib.hid (HBk.out.trans ((hb'.mono HBk.out.size).trans (hk2.below fun i h => h)))
      have MI2 : 0 ≤ IntKind.i64.wrap ((IntKind.u64.wrap p).tmod (N : Int)) ∧ IntKind.i64.wrap ((IntKind.u64.wrap p).tmod (N : Int)) < N := by
        have h := MI.out
        rw [hw] at h
        exact h
      rw [en_write MI2.1 MI2.2] at hd
      rw [en_err MI2.1 MI2.2]
      have HD3 := Lib.hid hd
      rename_i hHeld
      generalize IntKind.i64.wrap ((IntKind.u64.wrap p).tmod (N : Int)) = z at HD3
      clear hHeld hb hb' hd hk2 D5 HDk HBk c1 c2 MI MI2 hw hz0 hz1 hz2
      by_cases hdd : U ≤ W.length
      · have t2 : decide (W.length < U) = false := by simp; omega
        have t3 : decide (U ≤ W.length) = true := by simp; omega
        rw [if_pos hdd] at HD3
        rw [if_pos hdd]
        clear hdd
        go_wp2_with fail
        go_roundw
        case rel => exact ⟨k + 1, W, by omega, by go_num, rfl, by omega, hW2, HD3, B3⟩
        case measure => simp [intOf]; omega
      · have t2 : decide (W.length < U) = true := by simp; omega
        have t3 : decide (U ≤ W.length) = false := by simp; omega
        rw [if_neg hdd] at HD3
        rw [if_neg hdd]
        have hl9 : (W ++ [(z.toNat, fillB f)]).length = W.length + 1 := by simp
        have HL9 := Lib.hid hl9
        have hW3 : W.length + 1 ≤ U := by omega
        clear hdd hl9
        go_wp2_with fail
        go_roundw
        case rel => exact ⟨k + 1, W ++ [(z.toNat, fillB f)], by omega, by go_num, by rw [HL9.out]; go_num, by rw [HL9.out]; omega, by rw [HL9.out]; exact hW3, HD3, B3⟩
        case measure => simp [intOf]; omega
    · obtain rfl : k = m := by omega
      have hz := fun W => zero_blk W
      have e0 := en_err (N := N) (aft := U) (W := W) (b := 0) (by omega) (by omega)
      have E0 := Lib.hid e0
      clear e0
      go_wp2_with fail
      refine (HD.out.read a _ _ 0 _ HDk.out).mono ?_
      rintro e w9 ⟨rfl, hd, hk9⟩
      rw [E0.out]
      generalize (en N U W).read 0 = X
      have DA := Lib.hid hd
      have BA := Lib.hid (HBk.out.trans (hk9.below fun i h => h))
      clear hd hk9 HDk HBk
      by_cases hdd : U ≤ W.length
      all_goals
        first
          | (have t2 : decide (U ≤ W.length) = false := decide_eq_false hdd)
          | (have t2 : decide (U ≤ W.length) = true := decide_eq_true hdd)
        have E1 := Lib.hid (en_dead N U W)
        have E2 := Lib.hid (en_crash N U W)
        rw [t2] at E1
        first | rw [if_pos hdd] | rw [if_neg hdd]
        have HDD := Lib.hid hdd
        clear hdd
        go_wp2_with (refine store_row rfl (.tmp 12) (.tmp 85) rfl w9.heap.size X .zero 26 rfl rfl (heap_alloc_new w9 _) ?_; rw [World.setRow_alloc_new])
        have DB := Lib.hid (HD.out.below DA.out ((Below.refl _ _).alloc (Nat.le_refl _) (.cells (arr X) 26)))
        have BB := Lib.hid (BA.out.alloc BA.out.size (.cells (arr X) 26))
        generalize w9.alloc (.cells (arr X) 26) = w10 at DB BB ⊢
        clear DA BA
        refine (HD.out.dead a _ _ _ DB.out).mono ?_
        rintro e w11 ⟨rfl, hd, hk⟩
        rw [E1.out]
        have DC := Lib.hid hd
        have BC := Lib.hid (BB.out.trans (hk.below fun i h => h))
        clear hd hk DB BB
        go_wp2_with fail
        refine (HD.out.acts a _ _ _ DC.out).mono ?_
        rintro e w12 ⟨rfl, hd, hk⟩
        rw [show ((en N U W).acts : Int) = (W.length : Int) from rfl]
        have DE := Lib.hid hd
        have BE := Lib.hid (BC.out.trans (hk.below fun i h => h))
        clear hd hk DC BC
        go_wp2_with fail
        refine (HD.out.dead a _ _ _ DE.out).mono ?_
        rintro e w13 ⟨rfl, hd, hk⟩
        rw [E1.out]
        have DF := Lib.hid hd
        have BF := Lib.hid (BE.out.trans (hk.below fun i h => h))
        clear hd hk DE BE
        go_wp2_with fail
        refine (HD.out.dead a _ _ _ DF.out).mono ?_
        rintro e w14 ⟨rfl, hd, hk⟩
        rw [E1.out]
        have DG := Lib.hid hd
        have BG := Lib.hid (BF.out.trans (hk.below fun i h => h))
        clear hd hk DF BF
        go_wp2_with fail
      · refine (HD.out.flush a _ _ _ DG.out (by show W.length < 1000000; omega)).mono ?_
        rintro e w15 ⟨rfl, hd, hk⟩
        rw [E0.out, if_pos HDD.out]
        rw [show (en N U W).flush = en N U W by unfold DS.flush; rw [E1.out]; rfl] at hd
        have DH := Lib.hid hd
        have BH := Lib.hid (BG.out.trans (hk.below fun i h => h))
        clear hd hk DG BG
        go_wp2_with fail
        have CR := Lib.hid (calm_read (N := N) (c := W.length) (b := (N : Int) - 1) (by omega) (by omega))
        refine (HD.out.crash a _ _ none 0 0 [] _ DH.out rfl (fun h => absurd h (by simp)) (fun _ g o e => by cases e) (by omega)).mono ?_
        rintro e w16 ⟨rfl, hd, hk⟩
        rw [E2.out] at hd
        have DI := Lib.hid hd
        have BI := Lib.hid (BH.out.trans (hk.below fun i h => h))
        clear hd hk DH BH
        go_wp2_with fail
        refine (HD.out.read a _ _ ((N : Int) - 1) _ DI.out).mono ?_
        rintro e w17 ⟨rfl, hd, hk⟩
        rw [CR.out.1, CR.out.2]
        have DJ := Lib.hid hd
        have BJ := Lib.hid (BI.out.trans (hk.below fun i h => h))
        clear hd hk DI BI
        go_wp2_with (refine store_row rfl (.tmp 14) (.tmp 122) rfl w17.heap.size .zero .zero 26 rfl rfl (heap_alloc_new w17 _) ?_; rw [World.setRow_alloc_new])
        have DK := Lib.hid (HD.out.new' DJ.out ((Below.refl _ _).alloc (Nat.le_refl _) (.cells (arr .zero) 26)))
        have BK := Lib.hid (BJ.out.alloc BJ.out.size (.cells (arr .zero) 26))
        have AK := Lib.hid (At.row (heap_alloc_new w17 (.cells (arr .zero) 26)))
        have GK : Hid (w17.heap.size ≤ w17.heap.size ∧ w17.heap.size < (w17.alloc (.cells (arr .zero) 26)).heap.size) := Lib.hid ⟨Nat.le_refl _, by simp⟩
        generalize w17.alloc (.cells (arr .zero) 26) = w18 at DK BK AK GK ⊢
        refine (HD.out.dead a _ _ _ DK.out).mono ?_
        rintro e w19 ⟨rfl, hd, hk⟩
        rw [show (calm N W.length).dead = false from rfl]
        have DL := Lib.hid hd
        have BL := Lib.hid (BK.out.trans (hk.below fun i h => .inl h))
        have AL := Lib.hid (AK.out.keep (hk.block _ (.inr GK.out)))
        clear hd hk DK BK AK DJ BJ
        have heq := equalIn_blk .zero .zero
        have hgd := blk_guard
        have hdec : decide (Blk.zero = Blk.zero) = true := decide_eq_true rfl
        go_wp2_with (first
          | (refine load_blk_w rfl (.tmp 14) rfl w17.heap.size 0 rfl .zero AL.out ?_)
          | (refine build_zero_w rfl rfl ?_))
        refine (HD.out.waiting a _ _ _ DL.out).mono ?_
        rintro e w20 ⟨rfl, hd, hk⟩
        rw [show ((calm N W.length).wait.length : Int) = 0 from rfl]
        have BM := Lib.hid (BL.out.trans (hk.below fun i h => .inl h))
        clear hd hk DL BL AL
        go_wp2_with fail
        go_ret
        exact ⟨rfl, BM.out⟩
      · have DH := DG
        have BH := BG
        have CR := Lib.hid (calm_read (N := N) (c := W.length) (b := (N : Int) - 1) (by omega) (by omega))
        refine (HD.out.crash a _ _ none 0 0 [] _ DH.out rfl (fun h => absurd h (by simp)) (fun _ g o e => by cases e) (by omega)).mono ?_
        rintro e w16 ⟨rfl, hd, hk⟩
        rw [E2.out] at hd
        have DI := Lib.hid hd
        have BI := Lib.hid (BH.out.trans (hk.below fun i h => h))
        clear hd hk DH BH
        go_wp2_with fail
        refine (HD.out.read a _ _ ((N : Int) - 1) _ DI.out).mono ?_
        rintro e w17 ⟨rfl, hd, hk⟩
        rw [CR.out.1, CR.out.2]
        have DJ := Lib.hid hd
        have BJ := Lib.hid (BI.out.trans (hk.below fun i h => h))
        clear hd hk DI BI
        go_wp2_with (refine store_row rfl (.tmp 14) (.tmp 122) rfl w17.heap.size .zero .zero 26 rfl rfl (heap_alloc_new w17 _) ?_; rw [World.setRow_alloc_new])
        have DK := Lib.hid (HD.out.new' DJ.out ((Below.refl _ _).alloc (Nat.le_refl _) (.cells (arr .zero) 26)))
        have BK := Lib.hid (BJ.out.alloc BJ.out.size (.cells (arr .zero) 26))
        have AK := Lib.hid (At.row (heap_alloc_new w17 (.cells (arr .zero) 26)))
        have GK : Hid (w17.heap.size ≤ w17.heap.size ∧ w17.heap.size < (w17.alloc (.cells (arr .zero) 26)).heap.size) := Lib.hid ⟨Nat.le_refl _, by simp⟩
        generalize w17.alloc (.cells (arr .zero) 26) = w18 at DK BK AK GK ⊢
        refine (HD.out.dead a _ _ _ DK.out).mono ?_
        rintro e w19 ⟨rfl, hd, hk⟩
        rw [show (calm N W.length).dead = false from rfl]
        have DL := Lib.hid hd
        have BL := Lib.hid (BK.out.trans (hk.below fun i h => .inl h))
        have AL := Lib.hid (AK.out.keep (hk.block _ (.inr GK.out)))
        clear hd hk DK BK AK DJ BJ
        have heq := equalIn_blk .zero .zero
        have hgd := blk_guard
        have hdec : decide (Blk.zero = Blk.zero) = true := decide_eq_true rfl
        go_wp2_with (first
          | (refine load_blk_w rfl (.tmp 14) rfl w17.heap.size 0 rfl .zero AL.out ?_)
          | (refine build_zero_w rfl rfl ?_))
        refine (HD.out.waiting a _ _ _ DL.out).mono ?_
        rintro e w20 ⟨rfl, hd, hk⟩
        rw [show ((calm N W.length).wait.length : Int) = 0 from rfl]
        have BM := Lib.hid (BL.out.trans (hk.below fun i h => .inl h))
        clear hd hk DL BL AL
        go_wp2_with fail
        go_ret
        exact ⟨rfl, BM.out⟩
end
end Go.Proofs.Ytaipcciokhkmnaa
