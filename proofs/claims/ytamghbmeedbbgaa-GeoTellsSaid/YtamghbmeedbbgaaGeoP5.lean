import Derived.Test.YtamghbmeedbbgaaGeoP4
namespace Go.Proofs.Ytamghbmeedbbgaa
open Go.RowKit Go.Shelf Go.BigFrame
attribute [local go_sem] Oper.semAt_some

/-! Inodes: those of the tables' parts. -/
def tabG (g : GeoV) : Nat → Int
  | k + 3 => ((k / 4 : Nat) : Int) * g.ino + if k % 4 = 3 then g.ino else 0
  | _ => 0
theorem tab_zero (g : GeoV) : tabG g 0 = 0 := rfl
theorem tabG_next {g : GeoV} (hm : May g) (k : Nat) : tabG g k + (if (partG g k).kind = 6 then 4 * (partG g k).cnt else 0) = tabG g (k + 1) := by
  have hi : 4 * (g.ino / 4) = g.ino := by have := hm.2.2.2.2.2.2.1; omega
  match k with
  | 0 => rfl
  | 1 => rfl
  | 2 => simp [tabG, partG]
  | k + 3 =>
    show ((k / 4 : Nat) : Int) * g.ino + (if k % 4 = 3 then g.ino else 0) + (if (inG g (k / 4) (k % 4)).kind = 6 then 4 * (inG g (k / 4) (k % 4)).cnt else 0) = (((k + 1) / 4 : Nat) : Int) * g.ino + if (k + 1) % 4 = 3 then g.ino else 0
    have h : k % 4 = 0 ∨ k % 4 = 1 ∨ k % 4 = 2 ∨ k % 4 = 3 := by omega
    rcases h with h | h | h | h
    · rw [h, show (k + 1) % 4 = 1 by omega, show (k + 1) / 4 = k / 4 by omega]; simp [inG]
    · rw [h, show (k + 1) % 4 = 2 by omega, show (k + 1) / 4 = k / 4 by omega]; simp [inG]
    · rw [h, show (k + 1) % 4 = 3 by omega, show (k + 1) / 4 = k / 4 by omega]
      simp [inG, ownG]; omega
    · rw [h, show (k + 1) % 4 = 0 by omega, show (k + 1) / 4 = k / 4 + 1 by omega]
      rw [Int.natCast_add, Int.add_mul]
      simp [inG]
theorem tabG_fits {g : GeoV} (hm : May g) {k : Nat} (hk : k ≤ numG g) : 0 ≤ tabG g k ∧ tabG g k ≤ 4096 := by
  unfold numG at hk
  rw [if_pos hm] at hk
  obtain ⟨m1, m2, m3, m4, m5, m6, m7, m8, m9, m10, m11⟩ := hm
  match k with
  | 0 => simp [tabG]
  | 1 => simp [tabG]
  | 2 => simp [tabG]
  | k + 3 =>
    show 0 ≤ ((k / 4 : Nat) : Int) * g.ino + (if k % 4 = 3 then g.ino else 0) ∧ ((k / 4 : Nat) : Int) * g.ino + (if k % 4 = 3 then g.ino else 0) ≤ 4096
    have h1 : 0 ≤ ((k / 4 : Nat) : Int) * g.ino := Int.mul_nonneg (by omega) (by omega)
    have h2 : ((k / 4 : Nat) : Int) * g.ino ≤ 4 * 64 := Int.mul_le_mul (by omega) m6 (by omega) (by omega)
    split <;> omega
theorem tab_num {g : GeoV} : tabG g (numG g) = inodesG g := by
  unfold numG inodesG
  by_cases h : May g
  · rw [if_pos h, if_pos h, Nat.add_comm]
    show ((4 * g.gr.toNat / 4 : Nat) : Int) * g.ino + (if 4 * g.gr.toNat % 4 = 3 then g.ino else 0) = _
    rw [if_neg (by omega), show 4 * g.gr.toNat / 4 = g.gr.toNat by omega, Int.toNat_of_nonneg (by have := h.1; omega), Int.add_zero]
  · rw [if_neg h, if_neg h]; rfl

set_option maxRecDepth 100000 in
set_option maxHeartbeats 2000000 in
theorem inodes_in (F : Fence) (m : Nat) (hW : F = Fence.wide) (hF : ∀ f, F.fn f) (hro : F.round = none) (hm : 6 ≤ m) (g : GeoV) (hg : g.Fits) (w : World) :
    CallsIn F m Try.prog 18 #[.agg (gcs g)] w fun e w' => e = .returned (.int .i64 (inodesG g)) ∧ Below w.heap.size w w' := by
  have hm1 : 1 ≤ m := by omega
  have lift : Hid (∀ n f args W R, Calls Try.prog f args W R → CallsIn F n Try.prog f args W R) := Lib.hid fun _ _ _ _ _ h => by subst hW; exact callsIn_wide.2 h
  have IT : Hid (∀ W b0 m, GVar W b0 g → IterSays F m Try.prog 34 #[.pointer (some ⟨b0, 0, none⟩)] (numG g) (fun k => #[.agg (pcs (partG g k))]) b0 W) := Lib.hid fun W b0 m V => by subst hW; exact parts_iter g hg W b0 m V
  have HF := Lib.hid hF
  clear hW
  have h1 := below_alloc2 w (.cells (gcs g) 23)
  have V1 : Hid (GVar ((w.alloc (.cells (gcs g) 23)).alloc (.cells #[.int .i64 0] 3)) w.heap.size g) := Lib.hid (GVar.below (heap_alloc_new w _) (below_alloc2 _ _))
  have N1 : Hid (Boxed ((w.alloc (.cells (gcs g) 23)).alloc (.cells #[.int .i64 0] 3)) (w.heap.size + 1) 3 (.int .i64 0)) := Lib.hid (by have := Boxed.new (w.alloc (.cells (gcs g) 23)) 3 (.int .i64 0); rwa [World.size_alloc] at this)
  have B1 : Hid (Below w.heap.size w ((w.alloc (.cells (gcs g) 23)).alloc (.cells #[.int .i64 0] 3))) := Lib.hid (h1.alloc (by simp) _)
  have S1 : Hid (((w.alloc (.cells (gcs g) 23)).alloc (.cells #[.int .i64 0] 3)).heap.size = w.heap.size + 2) := Lib.hid (by simp)
  clear h1
  refine callsIn_of_wp_marks Try.func18 rfl (hF _) ?_ hro
  simp only [Try.ntmps18, List.size_toArray, List.length_cons, List.length_nil, Nat.reduceAdd, Nat.reduceSub, Array.replicate_succ, Array.replicate_zero, List.push_toArray, List.append_toArray, List.nil_append, List.cons_append]
  gi_wp2_with (first | (refine load_geo_in rfl (.tmp 1) rfl w.heap.size 0 rfl g V1.out.at ?_) | (gi_at_call 31; refine (lift.out _ _ _ _ _ (parts_box g _)).mono ?_; rintro e w2 ⟨b0, rfl, hb2, hv2, hz2⟩))
  have V2 := Lib.hid hv2
  have N2 : Hid (Boxed w2 (w.heap.size + 1) 3 (.int .i64 0)) := Lib.hid ((hb2.block _ N1.out.lt).trans N1.out)
  have B2 := Lib.hid (B1.out.trans (hb2.mono B1.out.size))
  have Z2 : Hid (w.heap.size + 2 ≤ b0) := Lib.hid (by rw [← S1.out]; exact hz2)
  clear V1 N1 B1 S1 hb2 hv2 hz2
  obtain ⟨bn, hbn⟩ : ∃ bn, w.heap.size + 1 = bn := ⟨_, rfl⟩
  have Z : Hid (w.heap.size + 1 = bn ∧ bn < b0 ∧ b0 < w2.heap.size) := Lib.hid ⟨hbn, by have := Z2.out; omega, V2.out.lt⟩
  rw [hbn] at N2 ⊢
  clear hbn Z2
  refine wpIn_range_iter hro hm1 (gf := 34) (lb := #[.pointer (some ⟨b0, 0, none⟩)]) rfl (hF _) (enters_of Try.func34 (by kernel_rfl) rfl)
    (IT.out w2 b0 _ V2.out) V2.out.lt (Below.refl _ _) (fun _ => rfl)
    (fun k W => Boxed W bn 3 (.int .i64 (tabG g k)) ∧ Below w.heap.size w W) (fun _ _ => False)
    (fun k A B h hb => ⟨(hb.block _ (by have := Z.out; omega)).trans h.1, h.2.trans (hb.mono (by have := Z.out; omega))⟩) (fun _ _ _ h _ => h)
    ⟨by rw [tab_zero]; exact N2.out, B2.out⟩
    (fun k a W => ∃ bp, w2.heap.size + 2 ≤ bp ∧ W.heap[bp]? = some (.cells (pcs (partG g k)) 39 (0, 0)) ∧ a = { tmps := #[Value.agg (gcs g), Value.pointer (some ⟨w.heap.size, 0, none⟩), Value.int .i64 0, Value.pointer (some ⟨bn, 0, none⟩), .pointer (some ⟨bp, 0, none⟩), Value.agg (gcs g), Value.func (.func 34) #[] #[.pointer (some ⟨b0, 0, none⟩)], (.agg (pcs (partG g k))), undef, undef, undef, undef, undef, undef, undef, undef, undef], defers := [] } ∧ Boxed W bn 3 (.int .i64 (tabG g k)) ∧ Below w.heap.size w W)
    (fun k a W o ⟨bp, h1, h2, h3, h4, h5⟩ => ⟨bp, h1, (World.putObj_heap_other (by omega)).trans h2, h3, (World.putObj_heap_other (by have := Z.out; omega)).trans h4, h5.trans (below_putObj W (by have := Z.out; omega) o)⟩) ?assign ?body ?done ?stop
  case assign =>
    rintro l k W K hk hsz ⟨hn, hB⟩ hK
    have HK := Lib.hid (hK _ _ ⟨W.heap.size, hsz, heap_alloc_new W _, rfl, (below_alloc2 W (.cells (pcs (partG g k)) 39) |> fun h => (h.block _ hn.lt).trans hn), hB.trans ((below_alloc2 W _).mono hB.size)⟩ (below_alloc2 W _))
    clear hK hn hB
    generalize partG g k = p at HK ⊢
    obtain ⟨kd, gp, pl, fs, ct⟩ := p
    unfold pcs at HK ⊢
    gi_wp2
    exact HK.out
  case body =>
    rintro l k a W hk ⟨bp, hbp, hp, rfl, hn, hB⟩
    have hmay : May g := by
      by_cases h : May g
      · exact h
      · unfold numG at hk; rw [if_neg h] at hk; omega
    obtain ⟨r1, r2, r3, r4, r5, r6⟩ := partG_fits hmay (Nat.le_of_lt hk)
    have hx := tabG_next hmay k
    have htb := tabG_fits hmay (Nat.le_of_lt hk)
    have HN := Lib.hid hn
    have HB := Lib.hid hB
    have HS := Lib.hid hbp
    have c1 := hn.cell
    have f1 := hn.frozen
    have hlt := hn.lt
    have hnb : bn ≠ bp := by have := Z.out; omega
    clear hmay hk hn hB hbp
    generalize partG g k = p at *
    obtain ⟨kd, gp, pl, fs, ct⟩ := p
    simp only at r1 r2 r3 r4 r5 r6 hx
    have c2 : W.cell? ⟨bp, 4, none⟩ = some (.int .i64 ct) := (cell_of_row W bp 4 _ _ _ hp).trans rfl
    have c3 : W.cell? ⟨bp, 0, none⟩ = some (.int .u8 kd) := (cell_of_row W bp 0 _ _ _ hp).trans rfl
    unfold pcs at hp ⊢
    by_cases h6 : kd = 6
    · have t6 : (kd == 6) = true := by simp [h6]
      rw [if_pos h6] at hx
      have HX := Lib.hid hx
      clear hx
      generalize tabG g k = tv at *
      gi_wp2
      exact ⟨Kept.setCell W (by have := Z.out; show bn ≠ b0; omega) (by have := Z.out; show bn < w2.heap.size; omega) _, by rw [← HX.out]; exact HN.out.set _, HB.out.setCell (p := ⟨bn, 0, none⟩) (by have := Z.out; show w.heap.size ≤ bn; omega) _⟩
    · have t6 : (kd == 6) = false := by simp [h6]
      rw [if_neg h6, Int.add_zero] at hx
      have HX := Lib.hid hx
      clear hx
      gi_wp2
      exact ⟨Kept.refl _ _ _, by rw [← HX.out]; exact HN.out, HB.out⟩
  case done =>
    rintro D W hD ⟨hn, hB⟩ hK
    rw [tab_num] at hn
    have c1 := hn.cell
    have HB := Lib.hid hB
    have HK := Lib.hid hK
    have HD := Lib.hid hD
    clear hn hB hK hD
    gi_wp2
    refine leave_mark HK.out ?_ ⟨rfl, HB.out.trans (below_putObj W (by have := HD.out; have := Z.out; omega) _)⟩
    simp [results, Try.f18, go_sem]
  case stop =>
    rintro D k W _ _ h _
    exact h.elim
theorem pInodes (g : GeoV) (w : World) (hg : g.Fits) : Calls Try.prog 18 #[.agg (gcs g)] w fun e w' => e = .returned (.int .i64 (inodesG g)) ∧ Below w.heap.size w w' :=
  callsIn_wide.1 (inodes_in Fence.wide 6 rfl (fun _ => trivial) rfl (Nat.le_refl _) g hg w)
end Go.Proofs.Ytamghbmeedbbgaa
