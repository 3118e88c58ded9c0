import Derived.Test.YtmlmpflfejbbcaaDoorSuperL2
namespace Go.Proofs.YtmlmpflfejbbcaaDoor
open Go.RowKit CrcM

/-! The law SuperNone. -/
def cB (c k : Nat) (hc : c < 256) : Blk := .of (fun i => if i < k then c else 0) fun i _ => by split; exact hc; omega
theorem cB_zero (c : Nat) (hc : c < 256) : cB c 0 hc = .zero := Blk.same fun i hi => by unfold cB; rw [Blk.of_f hi]; rfl
theorem cB_set (c k : Nat) (hc : c < 256) : (cB c k hc).set k c hc = cB c (k + 1) hc := Blk.same fun i hi => by
  unfold Blk.set cB
  rw [Blk.of_f hi, Blk.of_f hi, Blk.of_f hi]
  by_cases h1 : i = k
  · rw [if_pos h1, if_pos (by omega)]
  · rw [if_neg h1]
    by_cases h2 : i < k
    · rw [if_pos h2, if_pos (by omega)]
    · rw [if_neg h2, if_neg (by omega)]
theorem cB_all (c : Nat) (hc : c < 256) : ∀ i, i < 256 → (cB c 256 hc).f i = c := fun i hi => by unfold cB; rw [Blk.of_f hi, if_pos hi]
structure NW (g : GeoV) (w0 : World) (b : Nat) (X : Blk) (w : World) : Prop where
  low : Below w0.heap.size w0 w
  geo : GVar w w0.heap.size g
  blk : BVar w b X
theorem NW.below {g : GeoV} {w0 w w' : World} {b : Nat} {X : Blk} (h : NW g w0 b X w) (hb : Below w.heap.size w w') : NW g w0 b X w' := ⟨h.low.trans (hb.mono h.low.size), h.geo.below hb, h.blk.below hb⟩
theorem NW.set {g : GeoV} {w0 w : World} {b : Nat} {X : Blk} (h : NW g w0 b X w) (hb : w0.heap.size < b) (k v : Nat) (hv : v < 256) : NW g w0 b (X.set k v hv) (w.setCell ⟨b, k, none⟩ (.int .u8 (v : Int))) :=
  ⟨h.low.setCell (p := ⟨b, k, none⟩) (Nat.le_of_lt hb) _, (Below.heap_setCell w ⟨b, k, none⟩ _ w0.heap.size (by show w0.heap.size ≠ b; omega)).trans h.geo, h.blk.set k v hv⟩
set_option maxRecDepth 100000 in
set_option maxHeartbeats 2000000 in
theorem superNone_any (hS : PSays) (hC : SumSays) (v : Int) (g : GeoV) (w : World) (hE : Env w) (hg : g.Fits) (hv : 0 ≤ v ∧ v < 256) :
    Calls Tryd.prog 8 #[.int .u8 v, .agg (gcs g)] w fun e w' => e = .returned (.bool true) ∧ Below w.heap.size w w' := by
  have HS := Lib.hid hS
  have HC := Lib.hid hC
  have HE := Lib.hid hE
  have hz := fun W => zero_blk W
  have hzs := fun W => zero_super W
  obtain ⟨v, rfl⟩ := Int.eq_ofNat_of_zero_le hv.1
  have hv' : v < 256 := by omega
  have V0 : Hid (GVar (w.alloc (.cells (gcs g) 23)) w.heap.size g) := Lib.hid (heap_alloc_new w _)
  have B0 := Lib.hid ((Below.refl w.heap.size w).alloc (Nat.le_refl _) (.cells (gcs g) 23))
  clear hS hC hE hv
  go_enter Tryd.func8, Tryd.ntmps8
  go_wp2_with fail
  generalize w.alloc (.cells (gcs g) 23) = w1 at V0 B0 ⊢
  refine (sAwake_any HS.out HC.out w1 (HE.out.below B0.out)).mono ?_
  rintro e w2 ⟨rfl, hb⟩
  have V2 := Lib.hid (V0.out.below hb)
  have B2 := Lib.hid (B0.out.trans (hb.mono B0.out.size))
  have N : Hid (w.heap.size < w2.heap.size) := Lib.hid V2.out.lt
  clear hb V0 B0
  go_wp2_with fail
  have P : Hid (NW g w w2.heap.size (cB v 0 hv') (w2.alloc (.cells (arr .zero) 29))) := Lib.hid ⟨B2.out.alloc B2.out.size _, V2.out.below ((Below.refl _ _).alloc (Nat.le_refl _) _), by rw [cB_zero]; exact heap_alloc_new w2 _⟩
  clear V2 B2
  generalize w2.alloc (.cells (arr .zero) 29) = w3 at P ⊢
  generalize w2.heap.size = b at N P ⊢
  go_loopw [6] (fun i wr => ∃ k : Nat, k ≤ 256 ∧ i = .int .i64 k ∧ NW g w b (cB v k hv') wr) (fun i _ => 256 - (intOf i).toNat)
  case atStart => exact ⟨0, Nat.zero_le _, rfl, P.out⟩
  case round =>
    obtain ⟨k, hk, rfl, hP⟩ := hrel
    have Q := Lib.hid hP
    clear hP P
    by_cases hlt : k < 256
    · have hc1 := Q.out.blk.cell hlt
      have hf1 := Q.out.blk.frozen k
      have z1 : (0 : Int) ≤ k := by omega
      have z2 : (k : Int) < 256 := by omega
      have Q2 := Lib.hid (Q.out.set N.out k v hv')
      rw [cB_set] at Q2
      go_wp2
      go_roundw
      case rel => exact ⟨k + 1, by omega, by go_num, Q2.out⟩
      case measure => simp [intOf]; omega
    · obtain rfl : k = 256 := by omega
      have e1 := fill_no_super (cB_all v hv')
      have e2 := not_zero (fill_no_descs (cB_all v hv') g)
      generalize cB v 256 hv' = X at Q e1 e2
      go_wp2_with (refine load_blk rfl (.tmp 5) rfl b 0 rfl X Q.out.blk.at ?_)
      refine (HS.out.read X _ (HE.out.below Q.out.low)).mono ?_
      rintro e w4 ⟨rfl, hb⟩
      have Q := Lib.hid (Q.out.below hb)
      clear hb
      rw [e1]
      go_wp2_with (first
        | (refine store_newS rfl (.tmp 7) (.tmp 23) rfl _ rfl rfl ?_; have Q := Lib.hid (Q.out.below ((Below.refl _ _).alloc (Nat.le_refl _) (.cells (scs (readS X).1) 26))))
        | (refine load_geo rfl (.tmp 3) rfl w.heap.size 0 rfl g Q.out.geo.at ?_)
        | (refine load_blk rfl (.tmp 5) rfl b 0 rfl X Q.out.blk.at ?_)
        | (go_at_call 19; refine (HS.out.readD g X _ hg (HE.out.below Q.out.low)).mono ?_; rintro e wn ⟨A5, n5, c5, rfl, g1, g2, g3, g4, hb⟩; have Q := Lib.hid (Q.out.below hb); clear hb g1 g2 g3 g4))
      go_ret
      refine ⟨?_, Q.out.low⟩
      first | rfl | simp [e2]
/-! The law SuperUnlike. -/
theorem quiet_super {o : Oper} {a : Act} {C : World → Prop} {K : Act → Prop} (x : Operand) (ho : o.op = .load 26 x) (b off : Nat) (hx : a.eval x = .pointer (some ⟨b, off, none⟩)) (s : SuperV) (hc : ∀ w, C w → SAt w b off s)
    (hk : K (a.put o.dst (.agg (scs s)))) : o.quiet Tryd.prog a C K := by
  refine ⟨_, fun w hw => ?_, hk⟩
  unfold Oper.quietAt execOp
  have h := run_loadAt_mid (P := Tryd.prog) w b off 26 (scs s).toList _ (hc w hw) Tryd.underlying26 rfl (super_size s)
  simp only [ho, hx, h, Sem.run_bind, Sem.run_pure, Result.andThen_ok]
  exact ⟨rfl, by simp⟩
structure UW (s t : SuperV) (w0 w : World) : Prop where
  low : Below w0.heap.size w0 w
  one : SVar w w0.heap.size s
  two : SVar w (w0.heap.size + 1) t
theorem UW.below {s t : SuperV} {w0 w w' : World} (h : UW s t w0 w) (hb : Below w.heap.size w w') : UW s t w0 w' := ⟨h.low.trans (hb.mono h.low.size), h.one.below hb, h.two.below hb⟩
theorem UW.alloc {s t : SuperV} {w0 w : World} (h : UW s t w0 w) (o : Obj) : UW s t w0 (w.alloc o) := h.below ((Below.refl _ _).alloc (Nat.le_refl _) o)
theorem SAt.below {w w' : World} {b o : Nat} {s : SuperV} (h : SAt w b o s) (hb : Below w.heap.size w w') : SAt w' b o s := fun i v hv => by
  have := h i v hv
  exact (hb.cell (p := ⟨b, o + i, none⟩) (World.block_lt_of_cell? _ _ this)).trans this
set_option maxRecDepth 100000 in
set_option maxHeartbeats 2000000 in
theorem superUnlike_any (hS : PSays) (hC : SumSays) (s t : SuperV) (w : World) (hE : Env w) (hs : s.Fits) (ht : t.Fits) :
    Calls Tryd.prog 7 #[.agg (scs s), .agg (scs t)] w fun e w' => e = .returned (.bool true) ∧ Below w.heap.size w w' := by
  have HS := Lib.hid hS
  have HC := Lib.hid hC
  have HE := Lib.hid hE
  have hz := fun W => zero_blk W
  have P : Hid (UW s t w ((w.alloc (.cells (scs s) 26)).alloc (.cells (scs t) 26))) := Lib.hid ⟨((Below.refl _ _).alloc (Nat.le_refl _) _).alloc (by simp) _, heap_alloc2_old w _ _, heap_alloc2_new w _ _⟩
  clear hS hC hE
  go_enter Tryd.func7, Tryd.ntmps7
  go_wp2_with fail
  generalize (w.alloc (.cells (scs s) 26)).alloc (.cells (scs t) 26) = w1 at P ⊢
  refine (sAwake_any HS.out HC.out w1 (HE.out.below P.out.low)).mono ?_
  rintro e w2 ⟨rfl, hb⟩
  have P := Lib.hid (P.out.below hb)
  clear hb
  go_wp2_with (refine load_super rfl (.tmp 2) rfl w.heap.size 0 rfl s P.out.one.at ?_)
  refine (HS.out.write s w2 hs (HE.out.below P.out.low)).mono ?_
  rintro e w3 ⟨rfl, hb⟩
  have P := Lib.hid (P.out.below hb)
  clear hb
  go_wp2_with (first
    | (refine store_newB rfl (.tmp 5) (.tmp 14) rfl _ rfl rfl ?_)
    | (refine load_super rfl (.tmp 3) rfl (w.heap.size + 1) 0 rfl t (P.out.alloc _).two.at ?_))
  have P := Lib.hid (P.out.alloc (.cells (arr (writeS s).1) 29))
  have V := Lib.hid (BVar.new w3 (writeS s).1)
  generalize w3.alloc (.cells (arr (writeS s).1) 29) = w4 at P V ⊢
  refine (HS.out.write t w4 ht (HE.out.below P.out.low)).mono ?_
  rintro e w5 ⟨rfl, hb⟩
  have P := Lib.hid (P.out.below hb)
  have V := Lib.hid (V.out.below hb)
  clear hb
  go_wp2_with (first
    | (refine store_newB rfl (.tmp 7) (.tmp 19) rfl _ rfl rfl ?_))
  have P := Lib.hid (P.out.alloc (.cells (arr (writeS t).1) 29))
  have V := Lib.hid (V.out.alloc (.cells (arr (writeS t).1) 29))
  have V2 := Lib.hid (BVar.new w5 (writeS t).1)
  generalize w5.alloc (.cells (arr (writeS t).1) 29) = w6 at P V V2 ⊢
  have hg1 := blk_guard
  have hg2 := super_guard
  have heq1 := fun W => equalIn_blk (writeS s).1 (writeS t).1 W
  have heq2 := fun W => equalIn_super s t W
  have hd : (writeS s).2 = 0 → (writeS t).2 = 0 → decide ((writeS s).1 = (writeS t).1) = decide (s = t) := fun h1 h2 => by
    have m1 := writeS_ok h1
    have m2 := writeS_ok h2
    rw [writeS_may m1, writeS_may m2]
    exact decide_eq_decide.2 ⟨fun q => superB_inj m1 m2 hs.o ht.o q, fun q => by rw [q]⟩
  have j : (((writeS s).2 == 0) = false ∧ ((writeS s).2 != 0) = true) ∨ ((writeS s).2 = 0 ∧ ((writeS t).2 == 0) = false ∧ ((writeS t).2 != 0) = true) ∨ ((writeS s).2 = 0 ∧ (writeS t).2 = 0) := by
    by_cases h1 : (writeS s).2 = 0
    · by_cases h2 : (writeS t).2 = 0
      · exact .inr (.inr ⟨h1, h2⟩)
      · exact .inr (.inl ⟨h1, not_zero h2⟩)
    · exact .inl (not_zero h1)
  have HD := Lib.hid hd
  clear hd
  have hdd : (writeS s).2 = 0 → (writeS t).2 = 0 → (decide ((writeS s).1 = (writeS t).1) == decide (s = t)) = true := fun h1 h2 => by rw [HD.out h1 h2]; simp
  clear HD
  have hlow := P.out.low
  rcases j with ⟨a1, a2⟩ | ⟨a0, a1, a2⟩ | ⟨a0, a1⟩
  case' inl => clear hdd
  case' inr.inl => rw [a0]; clear hdd
  case' inr.inr => rw [a0, a1]; have hdd := hdd a0 a1
  all_goals
    refine wp_region_class (More w6) (by kernel_rfl) (by kernel_rfl) (More.drew _) ?_
    repeat (first | go_big_quiet_skip | (go_big_quiet_want; first | (refine quiet_load (.tmp 5) rfl w3.heap.size 0 rfl _ (by intro w' hw'; exact V.out.at.below hw') ?_; simp only [Act.put, List.setIfInBounds_toArray, List.set_cons_zero, List.set_cons_succ]; go_big_quiet_on) | (refine quiet_load (.tmp 7) rfl w5.heap.size 0 rfl _ (by intro w' hw'; exact V2.out.at.below hw') ?_; simp only [Act.put, List.setIfInBounds_toArray, List.set_cons_zero, List.set_cons_succ]; go_big_quiet_on) | (refine quiet_super (.tmp 2) rfl w.heap.size 0 rfl s (by intro w' hw'; exact P.out.one.at.below hw') ?_; simp only [Act.put, List.setIfInBounds_toArray, List.set_cons_zero, List.set_cons_succ]; go_big_quiet_on) | (refine quiet_super (.tmp 3) rfl (w.heap.size + 1) 0 rfl t (by intro w' hw'; exact P.out.two.at.below hw') ?_; simp only [Act.put, List.setIfInBounds_toArray, List.set_cons_zero, List.set_cons_succ]; go_big_quiet_on) | (go_big_quiet_op; first | go_big_quiet_on | (apply Exists.intro; refine ⟨fun _ _ => ?_, ?_⟩; (with_reducible exact rfl); go_big_quiet_on))))
    refine wpQuiet_nil ?_
    intro w7 hw7
    have hl7 := hlow.trans (Below.mono hw7 hlow.size)
    clear hw7
    go_wp2
    go_ret
    refine ⟨?_, hl7⟩
    first | rfl | simp [a2] | simp [hdd]
end Go.Proofs.YtmlmpflfejbbcaaDoor
