import Derived.Test.YtaipcciokhkmnaaDisk
import Derived.Deep.RegionHeld3
import Derived.BigFrame
import Derived.Laws.MakeOwn
namespace Go.Proofs.Ytaipcciokhkmnaa
open Go.RowKit

/-! A list of writes that came in: numbers and what is filled in. -/
abbrev Puts := List (Int × Nat)
def PutsAt (w : World) (A : Option Addr) (l : Puts) : Prop := 0 < l.length → ∃ b o, A = some ⟨b, o, none⟩ ∧ b < w.heap.size ∧ ∀ i p, l[i]? = some p → w.cell? ⟨b, o + i * 2, none⟩ = some (.int .i64 p.1) ∧ w.cell? ⟨b, o + i * 2 + 1, none⟩ = some (.int .u32 (p.2 : Int)) ∧ -9223372036854775808 ≤ p.1 ∧ p.1 ≤ 9223372036854775807 ∧ p.2 < 4294967296
theorem PutsAt.below {w w' : World} {A : Option Addr} {l : Puts} (h : PutsAt w A l) (hb : Below w.heap.size w w') : PutsAt w' A l := fun h0 => by
  obtain ⟨b, o, e, hlt, hc⟩ := h h0
  refine ⟨b, o, e, Nat.lt_of_lt_of_le hlt hb.size, fun i p hp => ?_⟩
  obtain ⟨h1, h2, h3⟩ := hc i p hp
  exact ⟨(hb.cell (p := ⟨b, o + i * 2, none⟩) hlt).trans h1, (hb.cell (p := ⟨b, o + i * 2 + 1, none⟩) hlt).trans h2, h3⟩
def inside (n : Nat) (b : Int) : Bool := decide (0 ≤ b) && decide (b < n)
def ws (n : Nat) : Puts → Waits
  | [] => []
  | p :: ps => if inside n p.1 then (p.1.toNat, fillB p.2) :: ws n ps else ws n ps
theorem ws_snoc (n : Nat) (p : Int × Nat) : ∀ ps : Puts, ws n (ps ++ [p]) = ws n ps ++ if inside n p.1 then [(p.1.toNat, fillB p.2)] else []
  | [] => by simp [ws]
  | q :: qs => by
    rw [List.cons_append, ws, ws_snoc n p qs, ws]
    split <;> simp
theorem ws_take {n : Nat} {l : Puts} {k : Nat} (h : k < l.length) : ws n (l.take (k + 1)) = ws n (l.take k) ++ if inside n l[k].1 then [(l[k].1.toNat, fillB l[k].2)] else [] := by
  rw [List.take_succ_eq_append_getElem h, ws_snoc]
theorem ws_lt (n : Nat) : ∀ (ps : Puts), ∀ p ∈ ws n ps, p.1 < n
  | [], _, h => by simp [ws] at h
  | q :: qs, p, h => by
    unfold ws at h
    split at h
    · rename_i hi
      rcases List.mem_cons.1 h with rfl | h
      · simp [inside] at hi; show q.1.toNat < n; omega
      · exact ws_lt n qs p h
    · exact ws_lt n qs p h
theorem ws_len (n : Nat) : ∀ (ps : Puts), (ws n ps).length ≤ ps.length
  | [] => Nat.le_refl _
  | q :: qs => by
    unfold ws
    have := ws_len n qs
    split <;> simp <;> omega
def put (n : Nat) (ps : Waits) : DS := ⟨List.replicate n .zero, ps, ps.length, none⟩
theorem put_nil (n : Nat) : put n [] = .new n := rfl
theorem put_err (n : Nat) (ps : Waits) (b : Int) : (put n ps).err b = if inside n b then 0 else 2 := by
  unfold DS.err put inside DS.dead
  simp
  by_cases h1 : b < 0 <;> by_cases h2 : (n : Int) ≤ b <;> simp [h1, h2] <;> omega
theorem put_write (n : Nat) (ps : Waits) (b : Int) (x : Blk) : (put n ps).write b x = put n (ps ++ if inside n b then [(b.toNat, x)] else []) := by
  unfold DS.write
  rw [put_err]
  cases h : inside n b <;> simp [put, DS.act]
theorem over_take {n : Nat} {l : Puts} {k : Nat} (h : k < l.length) (z : List Blk) : over z (ws n (l.take (k + 1))) = if inside n l[k].1 then (over z (ws n (l.take k))).set l[k].1.toNat (fillB l[k].2) else over z (ws n (l.take k)) := by
  rw [ws_take h, over_append]
  split <;> rfl
def count (n : Int) : Nat := 1 + (n % 18446744073709551616 % 64).toNat
theorem count_range (n : Int) : 1 ≤ count n ∧ count n ≤ 64 := by unfold count; omega

theorem cnt_eq (n : Int) : wrap64 (1 + wrap64 ((IntKind.u64.wrap n).tmod 64)) = ((count n : Nat) : Int) := by
  have h0 : IntKind.u64.wrap n = n % 18446744073709551616 := by simp [IntKind.wrap, IntKind.bits, IntKind.signed]
  have h1 : 0 ≤ n % 18446744073709551616 := Int.emod_nonneg _ (by omega)
  have h2 : (n % 18446744073709551616).tmod 64 = n % 18446744073709551616 % 64 := Int.tmod_eq_emod_of_nonneg h1
  rw [h0, h2]
  unfold count
  generalize n % 18446744073709551616 = r at h1 ⊢
  have h3 : 0 ≤ r % 64 := by omega
  have h4 : r % 64 < 64 := by omega
  unfold wrap64
  omega

section
variable {D : World → Addr → DS → Av → Prop}
set_option maxRecDepth 100000 in
set_option maxHeartbeats 2000000 in
theorem written_any (hD : DiskSays D) (n : Int) (A : Option Addr) (c m : Nat) (l : Puts) (w : World) (hm : m = l.length) (hl : m ≤ 300) (hA : PutsAt w A l) :
    Calls Try.prog 29 #[.int .i64 n, .slice A m c] w fun e w' => (∃ a g c', e = .returned (.tuple #[.pointer (some a), .slice (some ⟨g, 0, none⟩) (count n) c', .int .i64 ((ws (count n) l).length : Nat), .bool true]) ∧
      D w' a (put (count n) (ws (count n) l)) (fun i => i < w.heap.size ∨ i = g) ∧ w.heap.size ≤ g ∧ OImg w' g 0 (over (List.replicate (count n) .zero) (ws (count n) l))) ∧ Below w.heap.size w w' := by
  have HD := Lib.hid hD
  have HM := Lib.hid hm
  have HA := Lib.hid hA
  have HC := Lib.hid (count_range n)
  clear hD hm hA
  go_enter Try.func29, Try.ntmps29
  go_wp2_with fail
  rw [cnt_eq n]
  have hN1 := HC.out.1
  have hN2 := HC.out.2
  have HN : Hid (∃ N, count n = N) := Lib.hid ⟨_, rfl⟩
  obtain ⟨N, hN⟩ := HN.out
  rw [hN] at hN1 hN2 ⊢
  have EN := Lib.hid hN
  clear HN hN
  refine (HD.out.new_yes N _ (by omega) (by omega)).mono ?_
  rintro e w1 ⟨⟨a, rfl, hd⟩, hb⟩
  rw [Int.toNat_natCast] at hd
  have B1 := Lib.hid hb
  have D1 := Lib.hid hd
  clear hb hd
  have hmk := fun W => make_blks .i64 .i64 N (by omega) W
  go_wp2_with fail
  have D2 := Lib.hid (HD.out.new' D1.out ((Below.refl _ _).alloc (Nat.le_refl _) (.cells (madeBlks N) 26)))
  have M2 := Lib.hid (OImg.made w1 N 26)
  have B2 := Lib.hid (B1.out.alloc B1.out.size (.cells (madeBlks N) 26))
  have hg := B1.out.size
  have D3 : Hid (D (w1.alloc (.cells (madeBlks N) 26)) a (put N []) (fun i => i < w.heap.size ∨ i = w1.heap.size)) := Lib.hid (by
    rw [put_nil]
    exact HD.out.mono D2.out fun i h => by rcases h with h | h; exact .inl h; exact .inr ⟨by omega, by simp; omega⟩)
  generalize w1.alloc (.cells (madeBlks N) 26) = w2 at M2 B2 D3 ⊢
  generalize w1.heap.size = g at hg M2 D3 ⊢
  clear D1 D2 B1 hmk
  go_loopw [11, 12] (fun dn i wr => ∃ k : Nat, k ≤ m ∧ i = .int .i64 k ∧ dn = .int .i64 ((ws N (l.take k)).length : Nat) ∧ Hid (D wr a (put N (ws N (l.take k))) (fun i => i < w.heap.size ∨ i = g)) ∧ Hid (OImg wr g 0 (over (List.replicate N .zero) (ws N (l.take k)))) ∧ Hid (Below w.heap.size w wr)) (fun _ i _ => m - (intOf i).toNat)
  case atStart => exact ⟨0, Nat.zero_le _, rfl, rfl, D3, M2, B2⟩
  case round =>
    obtain ⟨k, hk, rfl, rfl, HDk, HMk, HBk⟩ := hrel
    by_cases hlt : k < m
    · have kl : k < l.length := by have := HM.out; omega
      obtain ⟨b, o, rfl, lb, hc⟩ := HA.out (by omega)
      obtain ⟨c1, c2, r1, r2, r3⟩ := hc k _ (List.getElem?_eq_getElem kl)
      have WT := Lib.hid (ws_take (n := N) kl)
      have WE := Lib.hid (put_err N (ws N (l.take k)) l[k].1)
      have WW := Lib.hid (put_write N (ws N (l.take k)) l[k].1 (fillB l[k].2))
      have OT := Lib.hid (over_take (n := N) kl (List.replicate N .zero))
      have WL := Lib.hid (ws_len N (l.take k))
      have c1 := (HBk.out.cell (p := ⟨b, o + k * 2, none⟩) lb).trans c1
      have c2 := (HBk.out.cell (p := ⟨b, o + k * 2 + 1, none⟩) lb).trans c2
      have LB := Lib.hid lb
      clear hc
      generalize hq : l[k] = q at c1 c2 r1 r2 r3 WT WE WW OT
      obtain ⟨p, f⟩ := q
      dsimp only at c1 c2 r1 r2 r3 WT WE WW OT
      clear hq
      have j1 : (0 : Int) ≤ k := by omega
      have j2 : (k : Int) < m := by omega
      have act : (put N (ws N (l.take k))).acts < 1000000 := by have := WL.out; show (ws N (l.take k)).length < 1000000; simp at this; omega
      have ACT := Lib.hid act
      clear act
      have tok1 : True := trivial
      have tok2 : True := trivial
      go_wp2_with fail
      go_region_held3 (fun w' => w'.cell? ⟨b, o + k * 2, none⟩ = some (.int .i64 p) ∧ w'.cell? ⟨b, o + k * 2 + 1, none⟩ = some (.int .u32 (f : Int)))
        (first
          | go_keep
          | (go_split_ands; exact ⟨(hb.cell (World.block_lt_of_cell? _ _ (by assumption))).trans (by assumption), (hb.cell (World.block_lt_of_cell? _ _ (by assumption))).trans (by assumption)⟩)
          | (go_split_ands; exact ⟨(hk2.cell (.inl LB.out)).trans (by assumption), (hk2.cell (.inl LB.out)).trans (by assumption)⟩))
        (first
          | (go_at_call 10; have _t := tok1; refine (fill_any f _ r3).mono ?_; rintro e w2 ⟨rfl, hb⟩; have D5 := Lib.hid (HD.out.below (HD.out.drew HDk.out) hb); clear tok1)
          | (go_at_call 18; have _t := tok2; refine (HD.out.write a _ _ p (fillB f) _ D5.out ACT.out).mono ?_; rintro e w3 ⟨rfl, hd, hk2⟩; clear tok2))
      have hb' : Below wr.heap.size wr w2 := ⟨hb.os, hb.tape, hb.output, hb.size, hb.block⟩
      have B3 := Lib.hid (HBk.out.trans ((hb'.mono HBk.out.size).trans (hk2.below fun i h => .inl h)))
      have OM3 : Hid (OImg w3 g 0 (over (List.replicate N .zero) (ws N (l.take k)))) := Lib.hid (hk2.oimg (.inr rfl) (HMk.out.keep (hb'.block g HMk.out.lt)))
      rw [WW.out] at hd
      have HD3 := Lib.hid hd
      rename_i hHeld
      obtain ⟨c1', c2'⟩ := hHeld
      rw [WE.out]
      clear hb hb' hd hk2 D5 HDk HMk HBk c1 c2
      by_cases hp0 : p < 0
      · have hin : inside N p = false := by simp [inside]; omega
        have t1 : decide (0 ≤ p) = false := by simp; omega
        rw [hin] at WT HD3 OT
        rw [hin]
        simp only [Bool.false_eq_true, if_false, List.append_nil] at WT HD3 OT ⊢
        have E1 := Lib.hid hin
        clear hin
        go_wp2_with fail
        go_roundw
        case rel => exact ⟨k + 1, by omega, by go_num, by rw [WT.out], by rw [WT.out]; exact HD3, by rw [OT.out]; exact OM3, B3⟩
        case measure => simp [intOf]; omega
      · by_cases hpN : (N : Int) ≤ p
        · have hin : inside N p = false := by simp [inside]; omega
          have t1 : decide (0 ≤ p) = true := by simp; omega
          have t2 : decide (p < (N : Int)) = false := by simp; omega
          rw [hin] at WT HD3 OT
          rw [hin]
          simp only [Bool.false_eq_true, if_false, List.append_nil] at WT HD3 OT ⊢
          have E1 := Lib.hid hin
          clear hin
          go_wp2_with fail
          go_roundw
          case rel => exact ⟨k + 1, by omega, by go_num, by rw [WT.out], by rw [WT.out]; exact HD3, by rw [OT.out]; exact OM3, B3⟩
          case measure => simp [intOf]; omega
        · obtain ⟨q, rfl⟩ := Int.eq_ofNat_of_zero_le (show 0 ≤ p by omega)
          have hin : inside N (q : Int) = true := by simp [inside]; omega
          have hqN : q < N := by omega
          have t2 : decide ((q : Int) < (N : Int)) = true := by simp; omega
          have t3 : (q : Int) < N := by omega
          have t4 : (0 : Int) ≤ q := by omega
          rw [hin] at WT HD3 OT
          rw [hin]
          simp only [if_true] at WT HD3 OT ⊢
          have E1 := Lib.hid hin
          have THERE : w3.there g (q * 256) 256 := by
            have := OM3.out.there (i := q) (by rw [over_length, List.length_replicate]; exact hqN)
            simpa using this
          obtain ⟨cs, hcs⟩ : ∃ cs : List Value, arr (fillB f) = cs.toArray := ⟨(arr (fillB f)).toList, by simp⟩
          have hcl : cs.length = 256 := by have := arr_size (fillB f); rw [hcs] at this; simpa using this
          have hc1 : ∀ v ∈ cs, v.oneCell' = true := by
            have := arr_one (fillB f)
            rw [hcs, Array.all_eq_true_iff_forall_mem] at this
            exact fun v hv => this v (by simpa using hv)
          have hu := Try.underlying26
          have hi : (Try.prog.info? 26).map (·.size) = some cs.length := by rw [hcl]; exact blk_size
          have HCS := Lib.hid hcs
          clear hin hp0 hpN hcs
          have tok3 : True := trivial
          have BG : Hid (b ≠ g) := Lib.hid (by have := LB.out; omega)
          go_wp2_with fail
          go_region_held3 (fun w' => w'.cell? ⟨b, o + k * 2, none⟩ = some (.int .i64 (q : Int)) ∧ w'.cell? ⟨b, o + k * 2 + 1, none⟩ = some (.int .u32 (f : Int)) ∧ w'.there g (q * 256) 256)
            (first
              | go_keep
              | (go_split_ands; exact ⟨(hb.cell (World.block_lt_of_cell? _ _ (by assumption))).trans (by assumption), (hb.cell (World.block_lt_of_cell? _ _ (by assumption))).trans (by assumption), there_below (by assumption) hb⟩)
              | (go_split_ands; exact ⟨(cell_out BG.out).trans (by assumption), (cell_out BG.out).trans (by assumption), World.there_setCells (by assumption) _ _ _⟩))
            ((go_at_call 10; have _t := tok3; refine (fill_any f _ r3).mono ?_; rintro e w4 ⟨rfl, hb⟩; have hb' : Below w3.heap.size w3 w4 := ⟨hb.os, hb.tape, hb.output, hb.size, hb.block⟩; rw [HCS.out]; clear tok3))
          rename_i hHeld
          clear hHeld
          have B4 := Lib.hid (below_cells (B3.out.trans (hb'.mono B3.out.size)) hg (q * 256) cs)
          have OM4 : Hid (OImg (w4.setCells g (q * 256) cs) g 0 ((over (List.replicate N .zero) (ws N (l.take k))).set q (fillB f))) := Lib.hid (by
            have h := (OM3.out.keep (hb'.block g OM3.out.lt)).set (i := q) (by rw [over_length, List.length_replicate]; exact hqN) (fillB f)
            rw [HCS.out, Nat.zero_add] at h
            simpa using h)
          have HD4 := Lib.hid (HD.out.cells (HD.out.below HD3.out hb') (.inr rfl : (fun i => i < w.heap.size ∨ i = g) g) (q * 256) cs)
          have WL4 : Hid ((ws N (l.take (k + 1))).length = (ws N (l.take k)).length + 1) := Lib.hid (by rw [WT.out]; simp)
          clear hb hb' THERE
          have hwl : (ws N (l.take k)).length ≤ 300 := by have := WL.out; simp at this; omega
          go_wp2_with fail
          go_roundw
          case rel => exact ⟨k + 1, by omega, by go_num, by rw [WL4.out]; go_num, by rw [WT.out]; exact HD4, by rw [OT.out]; exact OM4, B4⟩
          case measure => simp [intOf]; omega
    · obtain rfl : k = m := by omega
      have TK : l.take k = l := List.take_of_length_le (by have := HM.out; omega)
      rw [TK] at HDk HMk ⊢
      clear TK
      go_wp2_with fail
      refine bodyPost_ret (v := .tuple #[.pointer (some a), .slice (some ⟨g, 0, none⟩) N N, .int .i64 ((ws N l).length : Nat), .bool true]) (by simp [results, Try.results29, go_sem]) rfl ⟨⟨a, g, N, ?_, ?_, hg, ?_⟩, HBk.out⟩
      · rw [EN.out]
      · rw [EN.out]; exact HDk.out
      · rw [EN.out]; exact HMk.out
end
end Go.Proofs.Ytaipcciokhkmnaa
