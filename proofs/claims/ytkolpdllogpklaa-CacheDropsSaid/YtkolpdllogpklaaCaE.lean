import Derived.Test.YtkolpdllogpklaaCaR
namespace Go.Proofs.Ytkolpdllogpklaa
open Go.RowKit Go.Maps

/-! What is evicted, one thing after the other. -/
theorem isC_cut (c : CS) (b k : Int) : (c.cut b).isC k = if k = b then false else c.isC k := by
  unfold CS.isC CS.cut
  by_cases e : k = b
  · subst e
    simp only [setM_same, if_true]
  · simp only [setM_other e, if_neg e]
theorem isD_cut (c : CS) (b k : Int) : (c.cut b).isD k = if k = b then false else c.isD k := by
  unfold CS.isD CS.cut
  by_cases e : k = b
  · subst e
    simp only [setM_same, if_true]
  · simp only [setM_other e, if_neg e]
theorem clean_cut {c : CS} {b : Int} {r : List Int} (h : c.clean = b :: r) : (c.cut b).clean = r := by
  have hr : (c.clean).Pairwise (· < ·) := pickL_rise _ _
  rw [h] at hr
  obtain ⟨h1, h2⟩ := List.pairwise_cons.1 hr
  have e : (c.cut b).clean = c.clean.filter fun k => decide (k ≠ b) := by
    show pickL _ _ = (pickL _ _).filter _
    unfold pickL
    rw [List.filter_filter]
    refine List.filter_congr fun k _ => ?_
    rw [isC_cut]
    by_cases e : k = b <;> simp [e]
  rw [e, h, List.filter_cons_of_neg (by simp)]
  exact List.filter_eq_self.2 fun k hk => by have := h1 k hk; simp; omega
theorem dirty_cut {c : CS} {b : Int} (h : c.isD b = false) : (c.cut b).dirty = c.dirty := pickL_congr fun k _ _ => by
  rw [isD_cut]
  split
  · rename_i e; rw [e, h]
  · rfl
theorem pick_head (b : Int) (r : List Int) : pickAt (b :: r) 0 = b := by
  unfold pickAt
  rw [show (max (0 : Int) 0).toNat % (b :: r).length = 0 by simp]
  rfl
theorem ev_head {c : CS} {b : Int} {r : List Int} (h : c.clean = b :: r) : c.ev 0 = c.cut b ∧ evV c 0 = .tuple #[.int .i64 b, .bool true] := by
  unfold CS.ev evV
  rw [h, pick_head, if_neg (by simp), if_neg (by simp)]
  exact ⟨rfl, rfl⟩
theorem ev_none {c : CS} (h : c.clean = []) : c.ev 0 = c ∧ evV c 0 = .tuple #[.int .i64 0, .bool false] := by
  unfold CS.ev evV
  rw [if_pos h, if_pos h]
  exact ⟨rfl, rfl⟩
/-- What stays of it while it is evicted. -/
structure Evs (c c' : CS) : Prop where
  a : c'.a = c.a
  d : c'.d = c.d
  pin : c'.pin = c.pin
  dirty : c'.dirty = c.dirty
  fine : ∀ M, Fine c M → Fine c' M
theorem Evs.refl (c : CS) : Evs c c := ⟨rfl, rfl, rfl, rfl, fun _ h => h⟩
theorem Evs.cut {c c' : CS} {b : Int} {r : List Int} (h : Evs c c') (hb : c'.clean = b :: r) : Evs c (c'.cut b) := by
  have hm : b ∈ c'.clean := by rw [hb]; exact List.mem_cons_self
  have hD := isC_notD (mem_pickL.1 hm).2
  exact ⟨h.a, h.d, h.pin, (dirty_cut hD).trans h.dirty, fun M hf => (h.fine M hf).cut fun h0 h1 => (h.fine M hf).rest b h0 h1 hD⟩
theorem CA.grown {w w1 w2 : World} {p : Addr} {c : CS} {av : Av} {row : Option Nat} (h : CA w p c av) (hb : Below w.heap.size w w1) (hg : w1.grownBy w2 row) (hr : ∀ g, row = some g → av g ∨ w.heap.size ≤ g) : CA w2 p c (fun i => av i ∨ (w.heap.size ≤ i ∧ i < w2.heap.size)) :=
  h.frame (Nat.le_trans hb.size hg.size) (fun i hi hn => (hg.block i (Nat.lt_of_lt_of_le hi hb.size) fun e => by rcases hr i e.symm with q | q; exact hn q; omega).trans (hb.block i hi)) fun _ h => h
theorem own_av {w w' : World} {base n size : Nat} {e : TypeId} {v : Value} {xs : List Value} {av : Av} (h : w.ownsRow base e size v n xs) (hk : Keep av w w') (ha : ∀ g, v.ownBlock = some g → av g) : w'.ownsRow base e size v n xs := by
  refine ⟨h.1, ?_⟩
  rcases h.2 with hn | ⟨g, cap, cur, rfl, hb, hg, rest⟩
  · exact .inl hn
  · exact .inr ⟨g, cap, cur, rfl, hb, (hk.block g (ha g rfl)).trans hg, rest⟩
/-- What the loop keeps. -/
structure EL (w : World) (p : Addr) (c : CS) (av : Av) (k : Nat) (c' : CS) (out : List Int) (avk : Av) (v : Value) (wr : World) : Prop where
  ca : CA wr p c' avk
  own : wr.ownsRow w.heap.size 3 1 v out.length (iC out)
  keep : Keep av w wr
  sub : ∀ i, av i → avk i
  has : ∀ g, v.ownBlock = some g → avk g
  split : out ++ c'.clean = c.clean
  far : k ≤ out.length ∨ c'.clean = []
  evs : Evs c c'
set_option maxRecDepth 100000 in
set_option maxHeartbeats 4000000 in
theorem evicted_any (p : Addr) (c : CS) (av : Av) (w : World) (h : CA w p c av) (hn : c.n ≤ 64) : Calls Try.prog 30 #[.pointer (some p)] w fun e w' => ToldI w.heap.size c.clean e w' ∧ (∃ c', CA w' p c' av ∧ c'.clean = [] ∧ Evs c c') ∧ Keep av w w' := by
  have L0 : Hid (EL w p c av 0 c [] av (.slice none 0 0) w) := Lib.hid ⟨h, World.ownsRow_nil _ _ _ _, Keep.refl _ _, fun _ h => h, fun g e => by simp [Value.ownBlock] at e, rfl, .inl (Nat.zero_le _), Evs.refl c⟩
  have HLN : Hid (c.clean.length ≤ 64) := Lib.hid (Nat.le_trans (pickL_length _ _) hn)
  have BD := Lib.hid h.bound
  obtain ⟨i0, hi0, hzz⟩ := Option.map_eq_some_iff.1 int_info3
  simp only [Prod.mk.injEq] at hzz
  obtain ⟨hz0, hz1, hz2⟩ := hzz
  have HZ0 := Lib.hid hz0
  have HZ1 := Lib.hid hz1
  have HZ2 := Lib.hid hz2
  have HI0 := Lib.hid hi0
  clear h hn hz0 hz1 hz2 hi0
  go_enter Try.func30, Try.ntmps30
  go_wp2_with fail
  go_loopw [3, 4] (fun v i wr => ∃ (k : Nat) (c' : CS) (out : List Int) (avk : Av), k ≤ 64 ∧ i = .int .i64 k ∧ Hid (EL w p c av k c' out avk v wr)) (fun _ i _ => 64 - (intOf i).toNat)
  case atStart => exact ⟨0, c, [], av, by omega, rfl, L0⟩
  case round =>
    clear L0
    obtain ⟨k, c', out, avk, hk, rfl, L⟩ := hrel
    by_cases hlt : k < 64
    · have j1 : (0 : Int) ≤ k := by omega
      have j2 : (k : Int) < 64 := by omega
      cases hc : c'.clean with
      | nil =>
        have EN := Lib.hid (ev_none hc)
        have HC := Lib.hid hc
        clear hc
        go_wp2_with (go_at_call 13; refine (ca_ev wr p c' avk 0 L.out.ca).mono ?_; rintro e w4 ⟨rfl, hc4, hk4⟩; rw [EN.out.2]; rw [EN.out.1] at hc4)
        exact ⟨⟨k + 1, c', out, avk, by omega, by go_num, Lib.hid ⟨hc4, own_av L.out.own hk4 L.out.has, L.out.keep.trans (hk4.mono L.out.sub), L.out.sub, L.out.has, L.out.split, .inr HC.out, L.out.evs⟩⟩, by simp [intOf]; omega⟩
      | cons b r =>
        have EN := Lib.hid (ev_head hc)
        have HC := Lib.hid hc
        have CC := Lib.hid (clean_cut hc)
        have HO : Hid (out.length < 64) := Lib.hid (by have h1 := congrArg List.length L.out.split; have h2 := HLN.out; rw [hc] at h1; simp only [List.length_append, List.length_cons] at h1; omega)
        have j3 : (out.length : Int) < 64 := by have := HO.out; omega
        clear hc
        go_wp2_with (first
          | (go_at_call 13; refine (ca_ev wr p c' avk 0 L.out.ca).mono ?_; rintro e w4 ⟨rfl, hc4, hk4⟩; rw [EN.out.2]; rw [EN.out.1] at hc4; have O4 := Lib.hid (own_av L.out.own hk4 L.out.has); have C4 := Lib.hid hc4; have K4 := Lib.hid hk4; clear hc4 hk4)
          | (refine build_int1 rfl (.tmp 18) rfl b rfl ?_)
          | (at_builtin; refine wpList_append_lies _ rfl (.tmp 17) (.tmp 19) 50 rfl w.heap.size 3 i0 _ 1 8 Try.underlying50 HI0.out HZ0.out HZ1.out HZ2.out rfl (by omega) _ out.length _ rfl (own_keepI O4.out (below_newI w4 _)) ⟨w4.heap.size, 0, none⟩ 1 1 (iC [b]) rfl rfl (World.news_of_block (heap_alloc_new w4 _)) (iC_one _) (by omega) (by have := HO.out; simp only [maxLen]; omega) (by have := HO.out; omega) (by have h1 := L.out.keep.size; have h2 := K4.out.size; simp; omega) _ rfl ?_; intro gg cap w5 hown1 hgrow hat2 hltg))
        have hB4 := below_newI w4 (.cells (iC [b]).toArray 3)
        have hlow : ∀ g, u3.ownBlock = some g → w.heap.size ≤ g := fun g e => (L.out.own.lt g e).1
        have hC5 := C4.out.grown hB4 hgrow fun g e => .inl (L.out.has g e)
        have hK5 : Keep av w w5 := by
          have h1 := L.out.keep.trans (K4.out.mono L.out.sub)
          refine h1.trans ⟨hgrow.os.trans hB4.os, hgrow.tape.trans hB4.tape, hgrow.output.trans hB4.output, Nat.le_trans hB4.size hgrow.size, fun i hi => ?_⟩
          have hi2 : i < w4.heap.size := Nat.lt_of_lt_of_le (BD.out i hi) h1.size
          exact (hgrow.block i (Nat.lt_of_lt_of_le hi2 hB4.size) fun e => by have := hlow i e.symm; have := BD.out i hi; omega).trans (hB4.block i hi2)
        have hO5 : w5.ownsRow w.heap.size 3 1 (.slice (some ⟨gg, 0, none⟩) (out.length + 1) cap) (out ++ [b]).length (iC (out ++ [b])) := by
          rw [List.length_append, show iC (out ++ [b]) = iC out ++ iC [b] by simp [iC]]; exact hown1
        refine ⟨⟨k + 1, c'.cut b, out ++ [b], _, by omega, by go_num, Lib.hid ⟨hC5, hO5, hK5, fun i hi => .inl (L.out.sub i hi), fun g e => ?_, ?_, ?_, L.out.evs.cut HC.out⟩⟩, by simp [intOf]; omega⟩
        · have hg : gg = g := by simpa [Value.ownBlock] using e
          subst hg
          rcases hat2 with q | q
          · exact .inl (L.out.has _ q)
          · exact .inr ⟨by have : (w4.alloc (.cells (iC [b]).toArray 3)).heap.size = w4.heap.size + 1 := by simp
                           omega, hltg⟩
        · rw [CC.out, List.append_assoc]
          show out ++ (b :: r) = _
          rw [← HC.out]; exact L.out.split
        · rcases L.out.far with q | q
          · exact .inl (by rw [List.length_append]; simp; exact q)
          · rw [HC.out] at q; cases q
    · obtain rfl : k = 64 := by omega
      have HE : Hid (c'.clean = [] ∧ out = c.clean) := Lib.hid (by
        have h1 : c'.clean = [] := by
          rcases L.out.far with q | q
          · have h1 := congrArg List.length L.out.split
            have h2 := HLN.out
            simp only [List.length_append] at h1
            exact List.length_eq_zero_iff.1 (by omega)
          · exact q
        have h2 := L.out.split
        rw [h1, List.append_nil] at h2
        exact ⟨h1, h2⟩)
      go_wp2_with fail
      have hown := L.out.own
      rw [HE.out.2] at hown
      refine bodyPost_ret (results_tmp Try.results30 _ _ _) rfl ⟨⟨_, rfl, hown⟩, ⟨c', L.out.ca.mono L.out.sub, HE.out.1, L.out.evs⟩, L.out.keep⟩
end Go.Proofs.Ytkolpdllogpklaa
