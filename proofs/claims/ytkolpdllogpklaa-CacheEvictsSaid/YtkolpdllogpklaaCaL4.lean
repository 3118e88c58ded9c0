import Derived.Test.YtkolpdllogpklaaCaL1
import Derived.Test.YtkolpdllogpklaaCaE
namespace Go.Proofs.Ytkolpdllogpklaa
open Go.RowKit Go.Maps

/-! CacheEvicts. -/
/-- What it keeps behind evicted. -/
structure CEv (w : World) (p : Addr) (av : Av) (g : Nat) (M : List Blk) (c : CS) (D C : List Int) (A1 A2 A3 : Option Addr) (wr : World) : Prop where
  ca : CA wr p c av
  row : OImg wr g 0 M
  low : Below w.heap.size w wr
  d : IntsAt wr A1 D
  c : IntsAt wr A2 C
  o : IntsAt wr A3 C
theorem CEv.below {w wr w' : World} {p : Addr} {av : Av} {g : Nat} {M : List Blk} {c : CS} {D C : List Int} {A1 A2 A3 : Option Addr} (h : CEv w p av g M c D C A1 A2 A3 wr) (hb : Below wr.heap.size wr w') : CEv w p av g M c D C A1 A2 A3 w' := ⟨h.ca.below hb, h.row.keep (hb.block g h.row.lt), h.low.trans (hb.mono h.low.size), h.d.below hb, h.c.below hb, h.o.below hb⟩
/-- What it keeps while it reads. -/
structure CRd (w : World) (p : Addr) (av : Av) (g : Nat) (M : List Blk) (c : CS) (D : List Int) (A1 : Option Addr) (N : Nat) (wr : World) : Prop where
  ca : CA wr p c av
  row : OImg wr g 0 M
  low : Below w.heap.size w wr
  d : IntsAt wr A1 D
  fine : Fine c M
  n : c.n = N
theorem CRd.below {w wr w' : World} {p : Addr} {av : Av} {g N : Nat} {M : List Blk} {c : CS} {D : List Int} {A1 : Option Addr} (h : CRd w p av g M c D A1 N wr) (hb : Below wr.heap.size wr w') : CRd w p av g M c D A1 N w' := ⟨h.ca.below hb, h.row.keep (hb.block g h.row.lt), h.low.trans (hb.mono h.low.size), h.d.below hb, h.fine, h.n⟩
set_option maxRecDepth 100000 in
set_option maxHeartbeats 16000000 in
theorem cacheEvicts_any (n : Int) (A : Option Addr) (len cp : Nat) (l : List DoV) (w : World) (hl : len = l.length) (hA : DosAt w A l) (hf : ∀ x ∈ l, x.Fits) :
    Calls Try.prog 8 #[.int .i64 n, .slice A len cp] w fun e w' => e = .returned (.bool true) ∧ Below w.heap.size w w' := by
  have hz := fun W => zero_blk W
  by_cases h200 : 200 < len
  · have t0 : decide ((200 : Int) < len) = true := decide_eq_true (by omega)
    have t1 : decide (200 < len) = true := decide_eq_true h200
    go_enter Try.func8, Try.ntmps8
    go_wp2
    go_ret
    exact ⟨rfl, Below.refl _ _⟩
  · have t0 : decide ((200 : Int) < len) = false := decide_eq_false (by omega)
    have t1 : decide (200 < len) = false := decide_eq_false h200
    have RA := Lib.hid (ran_any n A len cp l w hl (by omega) hA hf)
    clear hl hA hf h200
    go_enter Try.func8, Try.ntmps8
    go_upto_region 8 with (first
      | (go_at_call 26; refine RA.out.mono ?_; rintro e w1 ⟨p, a, g, N, k, c, M, rfl, n1, n64, hk, hr⟩; have R1 := Lib.hid hr; clear hr; have CN : Hid (c.n = N) := Lib.hid (R1.out.fine.len.trans R1.out.len); have LL : Hid (c.dirty.length ≤ 64 ∧ c.clean.length ≤ 64) := Lib.hid ⟨Nat.le_trans (pickL_length _ _) (by rw [CN.out]; exact n64), Nat.le_trans (pickL_length _ _) (by rw [CN.out]; exact n64)⟩)
      | (go_at_call 15; refine (ca_dirty _ p c _ R1.out.ca).mono ?_; rintro e w2 ⟨⟨v, rfl, ho⟩, hb2⟩; obtain ⟨A1, q1, rfl, hq1, hd⟩ := own_ints ho rfl; have R2 := Lib.hid (R1.out.below hb2); have D2 := Lib.hid hd; have O2 := Lib.hid ho; have B2 := Lib.hid hb2; clear hd ho hb2 hq1)
      | (go_at_call 16; refine (ca_clean _ p c _ R2.out.ca).mono ?_; rintro e w3 ⟨⟨v, rfl, ho⟩, hb3⟩; obtain ⟨A2, q2, rfl, hq2, hd⟩ := own_ints ho rfl; have R3 := Lib.hid (R2.out.below hb3); have D3 := Lib.hid (D2.out.below hb3); have E3 := Lib.hid hd; obtain ⟨av, hav⟩ : ∃ av : Av, av = fun i => (i < w.heap.size ∨ i = g) ∨ (w1.heap.size ≤ i ∧ i < w3.heap.size) := ⟨_, rfl⟩
         have W3 : Hid (CA w3 p c av) := Lib.hid (by rw [hav]; exact R1.out.ca.frame (Nat.le_trans B2.out.size hb3.size) (fun i hi _ => (hb3.block i (Nat.lt_of_lt_of_le hi B2.out.size)).trans (B2.out.block i hi)) fun i hi => hi)
         have AG : Hid (av g) := Lib.hid (by rw [hav]; exact .inl (.inr rfl))
         have AL : Hid (∀ i, i < w.heap.size → av i) := Lib.hid (by rw [hav]; exact fun i hi => .inl (.inl hi))
         have AD : Hid (∀ b o, A1 = some ⟨b, o, none⟩ → av b) := Lib.hid (by rw [hav]; exact fun b o e => by have h1 := O2.out.lt b (by subst e; rfl); exact .inr ⟨h1.1, Nat.lt_of_lt_of_le h1.2 hb3.size⟩)
         have AC : Hid (∀ b o, A2 = some ⟨b, o, none⟩ → av b) := Lib.hid (by rw [hav]; exact fun b o e => by have h1 := ho.lt b (by subst e; rfl); exact .inr ⟨Nat.le_trans B2.out.size h1.1, h1.2⟩)
         clear hd ho hb3 hq2 hav)
      | (go_at_call 30; refine (evicted_any p c av w3 W3.out (by rw [CN.out]; exact n64)).mono ?_; rintro e w4 ⟨⟨v4, rfl, ho4⟩, ⟨c', hc', hcl, hev⟩, hk4⟩; obtain ⟨A3, q3, rfl, hq3, hd3⟩ := own_ints ho4 rfl
         have E4 : Hid (CEv w p av g M c' c.dirty c.clean A1 A2 A3 w4) := Lib.hid ⟨hc', R3.out.row.keep (hk4.block g AG.out), R3.out.low.trans (hk4.below AL.out), ints_keep D3.out hk4 AD.out, ints_keep E3.out hk4 AC.out, hd3⟩
         have HCL := Lib.hid hcl
         have HDE := Lib.hid hev.dirty
         have HFI : Hid (Fine c' M) := Lib.hid (hev.fine M R3.out.fine)
         have HN : Hid (c'.n = N) := Lib.hid ((show c'.n = c.n by show c'.d.safe.length = c.d.safe.length; rw [hev.d]).trans CN.out)
         clear hc' hcl hev hk4 hq3 hd3 ho4))
    have ML := Lib.hid R1.out.len
    have MD := Lib.hid (fun b (h : b ∈ c.dirty) => (mem_dirty (c := c) (b := b)).1 h |>.1)
    clear RA R1 R2 D2 O2 B2 R3 D3 E3 W3 AC
    obtain ⟨D, hD⟩ : ∃ D, c.dirty = D := ⟨_, rfl⟩
    obtain ⟨C, hC⟩ : ∃ C, c.clean = C := ⟨_, rfl⟩
    rw [hD] at E4 LL HDE MD
    rw [hC] at E4 LL
    rw [hD, hC]
    obtain ⟨cl, hcl⟩ : ∃ k, C.length = k := ⟨_, rfl⟩
    obtain ⟨dl, hdl⟩ : ∃ k, D.length = k := ⟨_, rfl⟩
    rw [hcl] at LL ⊢
    rw [hdl] at LL ⊢
    have HC := Lib.hid hcl
    have HD := Lib.hid hdl
    have j1 : (cl : Int) ≤ 64 := by have := LL.out.2; omega
    have j2 : (dl : Int) ≤ 64 := by have := LL.out.1; omega
    have j3 : (N : Int) ≤ 64 := by omega
    have e0 : ((cl : Int) == (cl : Int)) = true := beq_self_eq_true _
    clear hD hC hcl hdl
    go_wp2_with (first
      | (go_at_call 16; refine (ca_clean _ p c' _ E4.out.ca).mono ?_; rintro e w5 ⟨⟨v5, rfl, ho5⟩, hb5⟩; rw [HCL.out] at ho5; obtain ⟨A5, q5, rfl, hq5, hd5⟩ := own_ints (n := 0) (l := []) ho5 rfl; have E5 := Lib.hid (E4.out.below hb5); clear ho5 hb5 hq5 hd5)
      | (go_at_call 15; refine (ca_dirty _ p c' _ E5.out.ca).mono ?_; rintro e w6 ⟨⟨v6, rfl, ho6⟩, hb6⟩; rw [HDE.out] at ho6; obtain ⟨A6, q6, rfl, hq6, hd6⟩ := own_ints (n := dl) (l := D) (by rw [← HD.out]; exact ho6) HD.out.symm; have D6 := Lib.hid hd6; have E6 := Lib.hid (E5.out.below hb6); clear ho6 hb6 hq6 hd6)
      | (go_at_call 31; refine (same_true11 A6 A1 dl q6 q1 D w6 HD.out.symm (by have := LL.out.1; omega) D6.out E6.out.d).mono ?_; rintro e w7 ⟨rfl, hb7⟩; have E7 := Lib.hid (E6.out.below hb7); clear hb7))
    clear E4 E5 E6 D6 HCL HDE
    go_loopw [12] (fun iv wr => ∃ i : Nat, i ≤ cl ∧ iv = .int .i64 i ∧ Hid (CEv w p av g M c' D C A1 A2 A3 wr)) (fun iv _ => cl - (intOf iv).toNat)
    case atStart => exact ⟨0, Nat.zero_le _, rfl, E7⟩
    case round =>
      clear E7
      obtain ⟨i, hi, rfl, L⟩ := hrel
      by_cases hlt : i < cl
      · have i1 : (0 : Int) ≤ i := by omega
        have i2 : (i : Int) < cl := by omega
        obtain ⟨gA, oA, rfl, hgA, hcell⟩ := L.out.c (by rw [HC.out]; omega)
        obtain ⟨x, hx⟩ : ∃ x, C[i]? = some x := ⟨_, List.getElem?_eq_getElem (by rw [HC.out]; exact hlt)⟩
        have c1 := hcell i x hx
        have XM : Hid (decide (x ∈ C) = true) := Lib.hid (decide_eq_true (List.mem_of_getElem? hx))
        clear hcell hx
        go_wp2_with (go_at_call 29; refine (has_any A3 cl q3 C x _ HC.out.symm (by have := LL.out.2; omega) L.out.o).mono ?_; rintro e wx ⟨rfl, hwx⟩; obtain rfl := hwx.symm; rw [XM.out])
        exact ⟨⟨i + 1, by omega, by go_num, L⟩, by simp [intOf]; omega⟩
      · obtain rfl : i = cl := by omega
        go_wp2_with fail
        have L0 : Hid (CRd w p av g M c' D A1 N wr) := Lib.hid ⟨L.out.ca, L.out.row, L.out.low, L.out.d, HFI.out, HN.out⟩
        clear L
        go_loopw [13] (fun iv wr => ∃ (i : Nat) (c2 : CS), i ≤ dl ∧ iv = .int .i64 i ∧ Hid (CRd w p av g M c2 D A1 N wr)) (fun iv _ => dl - (intOf iv).toNat)
        case atStart => exact ⟨0, c', Nat.zero_le _, rfl, L0⟩
        case round =>
          clear L0
          rename_i wr0 _
          obtain ⟨i, c2, hi, rfl, L⟩ := hrel
          by_cases hlt : i < dl
          · have i1 : (0 : Int) ≤ i := by omega
            have i2 : (i : Int) < dl := by omega
            obtain ⟨gA, oA, rfl, hgA, hcell⟩ := L.out.d (by rw [HD.out]; omega)
            obtain ⟨x, hx⟩ : ∃ x, D[i]? = some x := ⟨_, List.getElem?_eq_getElem (by rw [HD.out]; exact hlt)⟩
            have c1 := hcell i x hx
            have HXi := Lib.hid hx
            have HX : 0 ≤ x ∧ x < c.n := MD.out x (List.mem_of_getElem? hx)
            obtain ⟨b, rfl⟩ := Int.eq_ofNat_of_zero_le HX.1
            have hbN : b < N := by have := HX.2; rw [CN.out] at this; omega
            have j5 : (0 : Int) ≤ (b : Int) := by omega
            have j6 : (b : Int) < (N : Int) := by omega
            have MB : Hid (M[b]? = some (M.getD b .zero)) := Lib.hid (by rw [List.getD_eq_getElem?_getD, List.getElem?_eq_getElem (by rw [ML.out]; exact hbN)]; rfl)
            obtain ⟨Y, hY⟩ : ∃ Y, M.getD b .zero = Y := ⟨_, rfl⟩
            have RV : Hid (c2.readV (b : Int) = Y) := Lib.hid (by rw [L.out.fine.readV j5 (by rw [L.out.n]; exact j6), Int.toNat_natCast, hY])
            have RE : Hid (c2.readE (b : Int) = 0) := Lib.hid (L.out.fine.readE j5 (by rw [L.out.n]; exact j6))
            rw [hY] at MB
            clear hY HX hcell hx
            go_upto_region 19 with (first
              | (go_at_call 10; refine (ca_read _ p c2 av (b : Int) L.out.ca).mono ?_; rintro e w4 ⟨rfl, hc4, hk4⟩; rw [RV.out, RE.out]; have L4 : Hid (CRd w p av g M (c2.read (b : Int)) D (some ⟨gA, oA, none⟩) N w4) := Lib.hid ⟨hc4, L.out.row.keep (hk4.block g AG.out), L.out.low.trans (hk4.below AL.out), ints_keep L.out.d hk4 AD.out, L.out.fine.read _, (CS.read_n _ _).trans L.out.n⟩; clear hc4 hk4)
              | (refine store_row rfl (.tmp 14) (.tmp 79) rfl w4.heap.size Y .zero 41 rfl rfl (heap_alloc_new _ _) ?_; rw [World.setRow_alloc_new]))
            have L5 := Lib.hid (L4.out.below (below_newI w4 (.cells (arr Y) 41)))
            have V5 := Lib.hid (At.row (heap_alloc_new w4 (.cells (arr Y) 41)))
            have M5 := Lib.hid (L5.out.row.at MB.out)
            rw [Nat.zero_add] at M5
            have I5 : Hid ((w4.alloc (.cells (arr Y) 41)).cell? ⟨gA, oA + i, none⟩ = some (.int .i64 (b : Int)) ∧ gA < (w4.alloc (.cells (arr Y) 41)).heap.size) := Lib.hid (by
              obtain ⟨g', o', e', hg', hc'⟩ := L5.out.d (by rw [HD.out]; omega)
              cases e'
              exact ⟨hc' i _ HXi.out, hg'⟩)
            clear L L4 c1
            generalize w4.alloc (.cells (arr Y) 41) = w5 at *
            generalize w4.heap.size = g5 at *
            have HC1 : Hid (∀ W, More w5 W → W.cell? ⟨gA, oA + i, none⟩ = some (.int .i64 (b : Int))) := Lib.hid fun W hW => (Below.cell hW (p := ⟨gA, oA + i, none⟩) I5.out.2).trans I5.out.1
            have heq := fun W => equalIn_blk Y Y W
            have hdy : decide (Y = Y) = true := decide_eq_true rfl
            have hgd := blk_guard
            refine wp_region_class (More w5) (by kernel_rfl) (by kernel_rfl) (More.drew _) ?_
            repeat (first | go_big_quiet_skip | (go_big_quiet_want; first
              | (refine quiet_load _ rfl _ _ rfl Y (by intro w' hw'; first | exact V5.out.below hw' | exact M5.out.below hw') ?_; simp only [Act.put, List.setIfInBounds_toArray, List.set_cons_zero, List.set_cons_succ]; go_big_quiet_on)
              | (refine quiet_cell _ rfl _ (by rfl) _ (by intro w' hw'; exact HC1.out w' hw') ?_; simp only [Act.put, List.setIfInBounds_toArray, List.set_cons_zero, List.set_cons_succ]; go_big_quiet_on)
              | (go_big_quiet_op; first | go_big_quiet_on | (apply Exists.intro; refine ⟨fun _ _ => ?_, ?_⟩; (with_reducible exact rfl); go_big_quiet_on))))
            refine wpQuiet_nil ?_
            intro w6 hw6
            have L6 := Lib.hid (L5.out.below hw6)
            clear hw6
            go_wp2
            exact ⟨⟨i + 1, c2.read (b : Int), by omega, by go_num, L6⟩, by simp [intOf]; omega⟩
          · obtain rfl : i = dl := by omega
            go_wp2_with fail
            go_ret
            exact ⟨rfl, L.out.low⟩
end Go.Proofs.Ytkolpdllogpklaa
