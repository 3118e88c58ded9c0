import Derived.Test.YtmlmpflfejbbcaaDoorSuperQ3
import Derived.Test.YtmlmpflfejbbcaaDoorGeoR4d
namespace Go.Proofs.YtmlmpflfejbbcaaDoor
open Go.RowKit CrcM

/-! The document's own: may descriptors be? -/
set_option maxRecDepth 100000 in
set_option maxHeartbeats 8000000 in
theorem rmay_any (g : GeoV) (A : Option Addr) (n c : Nat) (l : List DescV) (w : World) (hm : May g) (hn : n = l.length) (hl : DRow w A l) :
    Calls Tryd.prog 30 #[.agg (gcs g), .slice A n c] w fun e w' => e = .returned (.bool (mayDB g l)) ∧ Below w.heap.size w w' := by
  have hzd := fun W => zero_desc W
  have bg := below_new w (.cells (gcs g) 23)
  have V1 : Hid (GVar (w.alloc (.cells (gcs g) 23)) w.heap.size g) := Lib.hid (heap_alloc_new w _)
  have B1 := Lib.hid bg
  have L1 := Lib.hid (hl.below bg)
  have N := Lib.hid hn
  have hmost := hl.most
  rw [← hn] at hmost
  have FT := Lib.hid hl.fits
  have M := Lib.hid hm
  have cG := V1.out.c0
  have DT := Lib.hid (fun W => rData g W)
  have hgr : 1 ≤ g.gr ∧ g.gr ≤ 4 := ⟨hm.1, hm.2.1⟩
  have hino : 4 ≤ g.ino ∧ g.ino ≤ 64 := ⟨hm.2.2.2.2.1, hm.2.2.2.2.2.1⟩
  clear bg hn hl hm
  by_cases hlen : (n : Int) = g.gr
  · have tl : ((n : Int) != g.gr) = false := by simp [hlen]
    have NL : Hid (((l.length : Nat) : Int) = g.gr) := Lib.hid (by have := N.out; omega)
    clear hlen
    go_enter Tryd.func30, Tryd.ntmps30
    go_wp2
    generalize w.alloc (.cells (gcs g) 23) = w1 at V1 B1 L1 cG ⊢
    go_loopw [5] (fun i wr => (∃ j : Nat, j ≤ n ∧ i = .int .i64 j ∧ ∀ k, k < j → ∀ d, l[k]? = some d → okD g d) ∧ Below w1.heap.size w1 wr) (fun i _ => n - (intOf i).toNat)
    case atStart => exact ⟨⟨0, Nat.zero_le _, rfl, fun k hk => by omega⟩, Below.refl _ _⟩
    case round =>
      obtain ⟨⟨j, hj, rfl, hall⟩, hbel⟩ := hrel
      have GV := Lib.hid (V1.out.below hbel)
      have AL := Lib.hid hall
      clear hall
      by_cases hlt : j < n
      · have hlt' : j < l.length := by have := N.out; omega
        obtain ⟨b, o, rfl, _, hc⟩ := (L1.out.below hbel).mem (by omega)
        have ck := Lib.hid (hc j _ (List.getElem?_eq_getElem hlt'))
        have fits := FT.out l[j] (List.getElem_mem hlt')
        have fb := fits.b; have fi := fits.i; have fd := fits.d
        unfold I64 at fb fi fd
        have z1 : (0 : Int) ≤ j := by omega
        have z2 : (j : Int) < n := by omega
        have J := Lib.hid (List.getElem?_eq_getElem hlt')
        clear hc fits
        by_cases h1 : l[j].b < 0
        · have t1 : decide (l[j].b < 0) = true := decide_eq_true h1
          have NO := Lib.hid (mayD_not (g := g) J.out (fun q => by obtain ⟨q1, q2, q3, q4, q5⟩ := q; omega))
          clear h1
          go_wp2_with (first
            | (refine load_desc rfl (.tmp 20) rfl b (o + j * 3) rfl l[j] ck.out ?_)
            | (refine store_newD rfl (.tmp 6) (.tmp 21) rfl l[j] rfl rfl ?_))
          have V2 : Hid (DVar (wr.alloc (.cells (dcs l[j]) 48)) wr.heap.size l[j]) := Lib.hid (heap_alloc_new wr _)
          have bn := below_new wr (.cells (dcs l[j]) 48)
          have G2 := Lib.hid (GV.out.below bn)
          have B2 := Lib.hid (hbel.trans (bn.mono hbel.size))
          clear bn
          generalize wr.alloc (.cells (dcs l[j]) 48) = w2 at V2 G2 B2 ⊢
          generalize wr.heap.size = bd at V2 ⊢
          generalize l[j] = d at *
          refine wp_region_class (More w2) (by kernel_rfl) (by kernel_rfl) (More.drew _) ?_
          simp only [Act.put]
          repeat (first | go_big_quiet_skip | (go_big_quiet_want; first | (refine quiet_geo _ rfl _ _ (by rfl) g (by intro w' hw'; exact (G2.out.below hw').at) ?_; simp only [Act.put, List.setIfInBounds_toArray, List.set_cons_zero, List.set_cons_succ]; go_big_quiet_on) | (refine quiet_int _ rfl _ (by rfl) _ (by intro w' hw'; first | exact (V2.out.below hw').c0 | exact (V2.out.below hw').c1 | exact (V2.out.below hw').c2 | exact (G2.out.below hw').c2) ?_; simp only [Act.put, List.setIfInBounds_toArray, List.set_cons_zero, List.set_cons_succ]; go_big_quiet_on) | (go_big_quiet_op; first | go_big_quiet_on | (apply Exists.intro; refine ⟨fun _ _ => ?_, ?_⟩; (with_reducible exact rfl); go_big_quiet_on) | go_big_quiet_call ((intro hC; first | (with_reducible refine (DT.out _).mono ?_); exact fun e w' h => ⟨h.1, hC.on h.2⟩)))))
          refine wpQuiet_nil ?_
          intro w4 hw4
          have B4 := Lib.hid (B2.out.trans (Below.mono hw4 B2.out.size))
          clear hw4
          go_wp2
          go_ret
          exact ⟨by rw [NO.out]; rfl, B1.out.trans (B4.out.mono B1.out.size)⟩
        · have t1 : decide (l[j].b < 0) = false := decide_eq_false h1
          by_cases h2 : dataG g < l[j].b
          · have t2 : decide (dataG g < l[j].b) = true := decide_eq_true h2
            have NO := Lib.hid (mayD_not (g := g) J.out (fun q => by obtain ⟨q1, q2, q3, q4, q5⟩ := q; omega))
            clear h1 h2
            go_wp2_with (first
              | (refine load_desc rfl (.tmp 20) rfl b (o + j * 3) rfl l[j] ck.out ?_)
              | (refine store_newD rfl (.tmp 6) (.tmp 21) rfl l[j] rfl rfl ?_))
            have V2 : Hid (DVar (wr.alloc (.cells (dcs l[j]) 48)) wr.heap.size l[j]) := Lib.hid (heap_alloc_new wr _)
            have bn := below_new wr (.cells (dcs l[j]) 48)
            have G2 := Lib.hid (GV.out.below bn)
            have B2 := Lib.hid (hbel.trans (bn.mono hbel.size))
            clear bn
            generalize wr.alloc (.cells (dcs l[j]) 48) = w2 at V2 G2 B2 ⊢
            generalize wr.heap.size = bd at V2 ⊢
            generalize l[j] = d at *
            refine wp_region_class (More w2) (by kernel_rfl) (by kernel_rfl) (More.drew _) ?_
            simp only [Act.put]
            repeat (first | go_big_quiet_skip | (go_big_quiet_want; first | (refine quiet_geo _ rfl _ _ (by rfl) g (by intro w' hw'; exact (G2.out.below hw').at) ?_; simp only [Act.put, List.setIfInBounds_toArray, List.set_cons_zero, List.set_cons_succ]; go_big_quiet_on) | (refine quiet_int _ rfl _ (by rfl) _ (by intro w' hw'; first | exact (V2.out.below hw').c0 | exact (V2.out.below hw').c1 | exact (V2.out.below hw').c2 | exact (G2.out.below hw').c2) ?_; simp only [Act.put, List.setIfInBounds_toArray, List.set_cons_zero, List.set_cons_succ]; go_big_quiet_on) | (go_big_quiet_op; first | go_big_quiet_on | (apply Exists.intro; refine ⟨fun _ _ => ?_, ?_⟩; (with_reducible exact rfl); go_big_quiet_on) | go_big_quiet_call ((intro hC; first | (with_reducible refine (DT.out _).mono ?_); exact fun e w' h => ⟨h.1, hC.on h.2⟩)))))
            refine wpQuiet_nil ?_
            intro w4 hw4
            have B4 := Lib.hid (B2.out.trans (Below.mono hw4 B2.out.size))
            clear hw4
            go_wp2
            go_ret
            exact ⟨by rw [NO.out]; rfl, B1.out.trans (B4.out.mono B1.out.size)⟩
          · have t2 : decide (dataG g < l[j].b) = false := decide_eq_false h2
            by_cases h3 : l[j].i < 0
            · have t3 : decide (l[j].i < 0) = true := decide_eq_true h3
              have NO := Lib.hid (mayD_not (g := g) J.out (fun q => by obtain ⟨q1, q2, q3, q4, q5⟩ := q; omega))
              clear h1 h2 h3
              go_wp2_with (first
                | (refine load_desc rfl (.tmp 20) rfl b (o + j * 3) rfl l[j] ck.out ?_)
                | (refine store_newD rfl (.tmp 6) (.tmp 21) rfl l[j] rfl rfl ?_))
              have V2 : Hid (DVar (wr.alloc (.cells (dcs l[j]) 48)) wr.heap.size l[j]) := Lib.hid (heap_alloc_new wr _)
              have bn := below_new wr (.cells (dcs l[j]) 48)
              have G2 := Lib.hid (GV.out.below bn)
              have B2 := Lib.hid (hbel.trans (bn.mono hbel.size))
              clear bn
              generalize wr.alloc (.cells (dcs l[j]) 48) = w2 at V2 G2 B2 ⊢
              generalize wr.heap.size = bd at V2 ⊢
              generalize l[j] = d at *
              refine wp_region_class (More w2) (by kernel_rfl) (by kernel_rfl) (More.drew _) ?_
              simp only [Act.put]
              repeat (first | go_big_quiet_skip | (go_big_quiet_want; first | (refine quiet_geo _ rfl _ _ (by rfl) g (by intro w' hw'; exact (G2.out.below hw').at) ?_; simp only [Act.put, List.setIfInBounds_toArray, List.set_cons_zero, List.set_cons_succ]; go_big_quiet_on) | (refine quiet_int _ rfl _ (by rfl) _ (by intro w' hw'; first | exact (V2.out.below hw').c0 | exact (V2.out.below hw').c1 | exact (V2.out.below hw').c2 | exact (G2.out.below hw').c2) ?_; simp only [Act.put, List.setIfInBounds_toArray, List.set_cons_zero, List.set_cons_succ]; go_big_quiet_on) | (go_big_quiet_op; first | go_big_quiet_on | (apply Exists.intro; refine ⟨fun _ _ => ?_, ?_⟩; (with_reducible exact rfl); go_big_quiet_on) | go_big_quiet_call ((intro hC; first | (with_reducible refine (DT.out _).mono ?_); exact fun e w' h => ⟨h.1, hC.on h.2⟩)))))
              refine wpQuiet_nil ?_
              intro w4 hw4
              have B4 := Lib.hid (B2.out.trans (Below.mono hw4 B2.out.size))
              clear hw4
              go_wp2
              go_ret
              exact ⟨by rw [NO.out]; rfl, B1.out.trans (B4.out.mono B1.out.size)⟩
            · have t3 : decide (l[j].i < 0) = false := decide_eq_false h3
              by_cases h4 : l[j].d < 0
              · have t4 : decide (l[j].d < 0) = true := decide_eq_true h4
                have NO := Lib.hid (mayD_not (g := g) J.out (fun q => by obtain ⟨q1, q2, q3, q4, q5⟩ := q; omega))
                clear h1 h2 h3 h4
                go_wp2_with (first
                  | (refine load_desc rfl (.tmp 20) rfl b (o + j * 3) rfl l[j] ck.out ?_)
                  | (refine store_newD rfl (.tmp 6) (.tmp 21) rfl l[j] rfl rfl ?_))
                have V2 : Hid (DVar (wr.alloc (.cells (dcs l[j]) 48)) wr.heap.size l[j]) := Lib.hid (heap_alloc_new wr _)
                have bn := below_new wr (.cells (dcs l[j]) 48)
                have G2 := Lib.hid (GV.out.below bn)
                have B2 := Lib.hid (hbel.trans (bn.mono hbel.size))
                clear bn
                generalize wr.alloc (.cells (dcs l[j]) 48) = w2 at V2 G2 B2 ⊢
                generalize wr.heap.size = bd at V2 ⊢
                generalize l[j] = d at *
                refine wp_region_class (More w2) (by kernel_rfl) (by kernel_rfl) (More.drew _) ?_
                simp only [Act.put]
                repeat (first | go_big_quiet_skip | (go_big_quiet_want; first | (refine quiet_geo _ rfl _ _ (by rfl) g (by intro w' hw'; exact (G2.out.below hw').at) ?_; simp only [Act.put, List.setIfInBounds_toArray, List.set_cons_zero, List.set_cons_succ]; go_big_quiet_on) | (refine quiet_int _ rfl _ (by rfl) _ (by intro w' hw'; first | exact (V2.out.below hw').c0 | exact (V2.out.below hw').c1 | exact (V2.out.below hw').c2 | exact (G2.out.below hw').c2) ?_; simp only [Act.put, List.setIfInBounds_toArray, List.set_cons_zero, List.set_cons_succ]; go_big_quiet_on) | (go_big_quiet_op; first | go_big_quiet_on | (apply Exists.intro; refine ⟨fun _ _ => ?_, ?_⟩; (with_reducible exact rfl); go_big_quiet_on) | go_big_quiet_call ((intro hC; first | (with_reducible refine (DT.out _).mono ?_); exact fun e w' h => ⟨h.1, hC.on h.2⟩)))))
                refine wpQuiet_nil ?_
                intro w4 hw4
                have B4 := Lib.hid (B2.out.trans (Below.mono hw4 B2.out.size))
                clear hw4
                go_wp2
                go_ret
                exact ⟨by rw [NO.out]; rfl, B1.out.trans (B4.out.mono B1.out.size)⟩
              · have t4 : decide (l[j].d < 0) = false := decide_eq_false h4
                by_cases h5 : g.ino < l[j].i
                · have t5 : decide (g.ino < l[j].i) = true := decide_eq_true h5
                  have NO := Lib.hid (mayD_not (g := g) J.out (fun q => by obtain ⟨q1, q2, q3, q4, q5⟩ := q; omega))
                  clear h1 h2 h3 h4 h5
                  go_wp2_with (first
                    | (refine load_desc rfl (.tmp 20) rfl b (o + j * 3) rfl l[j] ck.out ?_)
                    | (refine store_newD rfl (.tmp 6) (.tmp 21) rfl l[j] rfl rfl ?_))
                  have V2 : Hid (DVar (wr.alloc (.cells (dcs l[j]) 48)) wr.heap.size l[j]) := Lib.hid (heap_alloc_new wr _)
                  have bn := below_new wr (.cells (dcs l[j]) 48)
                  have G2 := Lib.hid (GV.out.below bn)
                  have B2 := Lib.hid (hbel.trans (bn.mono hbel.size))
                  clear bn
                  generalize wr.alloc (.cells (dcs l[j]) 48) = w2 at V2 G2 B2 ⊢
                  generalize wr.heap.size = bd at V2 ⊢
                  generalize l[j] = d at *
                  refine wp_region_class (More w2) (by kernel_rfl) (by kernel_rfl) (More.drew _) ?_
                  simp only [Act.put]
                  repeat (first | go_big_quiet_skip | (go_big_quiet_want; first | (refine quiet_geo _ rfl _ _ (by rfl) g (by intro w' hw'; exact (G2.out.below hw').at) ?_; simp only [Act.put, List.setIfInBounds_toArray, List.set_cons_zero, List.set_cons_succ]; go_big_quiet_on) | (refine quiet_int _ rfl _ (by rfl) _ (by intro w' hw'; first | exact (V2.out.below hw').c0 | exact (V2.out.below hw').c1 | exact (V2.out.below hw').c2 | exact (G2.out.below hw').c2) ?_; simp only [Act.put, List.setIfInBounds_toArray, List.set_cons_zero, List.set_cons_succ]; go_big_quiet_on) | (go_big_quiet_op; first | go_big_quiet_on | (apply Exists.intro; refine ⟨fun _ _ => ?_, ?_⟩; (with_reducible exact rfl); go_big_quiet_on) | go_big_quiet_call ((intro hC; first | (with_reducible refine (DT.out _).mono ?_); exact fun e w' h => ⟨h.1, hC.on h.2⟩)))))
                  refine wpQuiet_nil ?_
                  intro w4 hw4
                  have B4 := Lib.hid (B2.out.trans (Below.mono hw4 B2.out.size))
                  clear hw4
                  go_wp2
                  go_ret
                  exact ⟨by rw [NO.out]; rfl, B1.out.trans (B4.out.mono B1.out.size)⟩
                · have t5 : decide (g.ino < l[j].i) = false := decide_eq_false h5
                  by_cases h6 : g.ino < l[j].d
                  · have t6 : decide (g.ino < l[j].d) = true := decide_eq_true h6
                    have NO := Lib.hid (mayD_not (g := g) J.out (fun q => by obtain ⟨q1, q2, q3, q4, q5⟩ := q; omega))
                    clear h1 h2 h3 h4 h5 h6
                    go_wp2_with (first
                      | (refine load_desc rfl (.tmp 20) rfl b (o + j * 3) rfl l[j] ck.out ?_)
                      | (refine store_newD rfl (.tmp 6) (.tmp 21) rfl l[j] rfl rfl ?_))
                    have V2 : Hid (DVar (wr.alloc (.cells (dcs l[j]) 48)) wr.heap.size l[j]) := Lib.hid (heap_alloc_new wr _)
                    have bn := below_new wr (.cells (dcs l[j]) 48)
                    have G2 := Lib.hid (GV.out.below bn)
                    have B2 := Lib.hid (hbel.trans (bn.mono hbel.size))
                    clear bn
                    generalize wr.alloc (.cells (dcs l[j]) 48) = w2 at V2 G2 B2 ⊢
                    generalize wr.heap.size = bd at V2 ⊢
                    generalize l[j] = d at *
                    refine wp_region_class (More w2) (by kernel_rfl) (by kernel_rfl) (More.drew _) ?_
                    simp only [Act.put]
                    repeat (first | go_big_quiet_skip | (go_big_quiet_want; first | (refine quiet_geo _ rfl _ _ (by rfl) g (by intro w' hw'; exact (G2.out.below hw').at) ?_; simp only [Act.put, List.setIfInBounds_toArray, List.set_cons_zero, List.set_cons_succ]; go_big_quiet_on) | (refine quiet_int _ rfl _ (by rfl) _ (by intro w' hw'; first | exact (V2.out.below hw').c0 | exact (V2.out.below hw').c1 | exact (V2.out.below hw').c2 | exact (G2.out.below hw').c2) ?_; simp only [Act.put, List.setIfInBounds_toArray, List.set_cons_zero, List.set_cons_succ]; go_big_quiet_on) | (go_big_quiet_op; first | go_big_quiet_on | (apply Exists.intro; refine ⟨fun _ _ => ?_, ?_⟩; (with_reducible exact rfl); go_big_quiet_on) | go_big_quiet_call ((intro hC; first | (with_reducible refine (DT.out _).mono ?_); exact fun e w' h => ⟨h.1, hC.on h.2⟩)))))
                    refine wpQuiet_nil ?_
                    intro w4 hw4
                    have B4 := Lib.hid (B2.out.trans (Below.mono hw4 B2.out.size))
                    clear hw4
                    go_wp2
                    go_ret
                    exact ⟨by rw [NO.out]; rfl, B1.out.trans (B4.out.mono B1.out.size)⟩
                  · have t6 : decide (g.ino < l[j].d) = false := decide_eq_false h6
                    have hw : IntKind.i64.wrap (l[j].i + l[j].d) = l[j].i + l[j].d := by rw [IntKind.wrap_i64]; omega
                    have hr1 : -9223372036854775808 ≤ l[j].i + l[j].d := by omega
                    have hr2 : l[j].i + l[j].d ≤ 9223372036854775807 := by omega
                    by_cases h7 : g.ino < l[j].i + l[j].d
                    · have t7 : decide (g.ino < l[j].i + l[j].d) = true := decide_eq_true h7
                      have NO := Lib.hid (mayD_not (g := g) J.out (fun q => by obtain ⟨q1, q2, q3, q4, q5⟩ := q; omega))
                      clear h1 h2 h3 h4 h5 h6 h7
                      go_wp2_with (first
                        | (refine load_desc rfl (.tmp 20) rfl b (o + j * 3) rfl l[j] ck.out ?_)
                        | (refine store_newD rfl (.tmp 6) (.tmp 21) rfl l[j] rfl rfl ?_))
                      have V2 : Hid (DVar (wr.alloc (.cells (dcs l[j]) 48)) wr.heap.size l[j]) := Lib.hid (heap_alloc_new wr _)
                      have bn := below_new wr (.cells (dcs l[j]) 48)
                      have G2 := Lib.hid (GV.out.below bn)
                      have B2 := Lib.hid (hbel.trans (bn.mono hbel.size))
                      clear bn
                      generalize wr.alloc (.cells (dcs l[j]) 48) = w2 at V2 G2 B2 ⊢
                      generalize wr.heap.size = bd at V2 ⊢
                      generalize l[j] = d at *
                      refine wp_region_class (More w2) (by kernel_rfl) (by kernel_rfl) (More.drew _) ?_
                      simp only [Act.put]
                      repeat (first | go_big_quiet_skip | (go_big_quiet_want; first | (refine quiet_geo _ rfl _ _ (by rfl) g (by intro w' hw'; exact (G2.out.below hw').at) ?_; simp only [Act.put, List.setIfInBounds_toArray, List.set_cons_zero, List.set_cons_succ]; go_big_quiet_on) | (refine quiet_int _ rfl _ (by rfl) _ (by intro w' hw'; first | exact (V2.out.below hw').c0 | exact (V2.out.below hw').c1 | exact (V2.out.below hw').c2 | exact (G2.out.below hw').c2) ?_; simp only [Act.put, List.setIfInBounds_toArray, List.set_cons_zero, List.set_cons_succ]; go_big_quiet_on) | (go_big_quiet_op; first | go_big_quiet_on | (apply Exists.intro; refine ⟨fun _ _ => ?_, ?_⟩; (with_reducible exact rfl); go_big_quiet_on) | go_big_quiet_call ((intro hC; first | (with_reducible refine (DT.out _).mono ?_); exact fun e w' h => ⟨h.1, hC.on h.2⟩)))))
                      refine wpQuiet_nil ?_
                      intro w4 hw4
                      have B4 := Lib.hid (B2.out.trans (Below.mono hw4 B2.out.size))
                      clear hw4
                      go_wp2
                      go_ret
                      exact ⟨by rw [NO.out]; rfl, B1.out.trans (B4.out.mono B1.out.size)⟩
                    · have t7 : decide (g.ino < l[j].i + l[j].d) = false := decide_eq_false h7
                      have YES : Hid (okD g l[j]) := Lib.hid ⟨by omega, by omega, by omega, by omega, by omega⟩
                      clear h1 h2 h3 h4 h5 h6 h7
                      go_wp2_with (first
                        | (refine load_desc rfl (.tmp 20) rfl b (o + j * 3) rfl l[j] ck.out ?_)
                        | (refine store_newD rfl (.tmp 6) (.tmp 21) rfl l[j] rfl rfl ?_))
                      have V2 : Hid (DVar (wr.alloc (.cells (dcs l[j]) 48)) wr.heap.size l[j]) := Lib.hid (heap_alloc_new wr _)
                      have bn := below_new wr (.cells (dcs l[j]) 48)
                      have G2 := Lib.hid (GV.out.below bn)
                      have B2 := Lib.hid (hbel.trans (bn.mono hbel.size))
                      clear bn
                      generalize wr.alloc (.cells (dcs l[j]) 48) = w2 at V2 G2 B2 ⊢
                      generalize wr.heap.size = bd at V2 ⊢
                      generalize hdj : l[j] = d at *
                      have HDJ := Lib.hid hdj
                      clear hdj
                      refine wp_region_class (More w2) (by kernel_rfl) (by kernel_rfl) (More.drew _) ?_
                      simp only [Act.put]
                      repeat (first | go_big_quiet_skip | (go_big_quiet_want; first | (refine quiet_geo _ rfl _ _ (by rfl) g (by intro w' hw'; exact (G2.out.below hw').at) ?_; simp only [Act.put, List.setIfInBounds_toArray, List.set_cons_zero, List.set_cons_succ]; go_big_quiet_on) | (refine quiet_int _ rfl _ (by rfl) _ (by intro w' hw'; first | exact (V2.out.below hw').c0 | exact (V2.out.below hw').c1 | exact (V2.out.below hw').c2 | exact (G2.out.below hw').c2) ?_; simp only [Act.put, List.setIfInBounds_toArray, List.set_cons_zero, List.set_cons_succ]; go_big_quiet_on) | (go_big_quiet_op; first | go_big_quiet_on | (apply Exists.intro; refine ⟨fun _ _ => ?_, ?_⟩; (with_reducible exact rfl); go_big_quiet_on) | go_big_quiet_call ((intro hC; first | (with_reducible refine (DT.out _).mono ?_); exact fun e w' h => ⟨h.1, hC.on h.2⟩)))))
                      refine wpQuiet_nil ?_
                      intro w4 hw4
                      have B4 := Lib.hid (B2.out.trans (Below.mono hw4 B2.out.size))
                      clear hw4
                      go_wp2
                      go_roundw
                      case rel =>
                        refine ⟨⟨j + 1, by omega, by go_num, fun k hk e he => ?_⟩, B4.out⟩
                        rcases Nat.lt_or_ge k j with u | u
                        · exact AL.out k u e he
                        · obtain rfl : k = j := by omega
                          rw [J.out] at he
                          injection he with he
                          subst he
                          first | exact YES.out | exact HDJ.out ▸ YES.out
                      case measure => simp [intOf]; omega
      · have YES := Lib.hid (mayDB_true (mayD_all NL.out fun k hk d hd => AL.out k (by have := N.out; omega) d hd))
        go_wp2
        go_ret
        exact ⟨by rw [YES.out]; rfl, B1.out.trans (hbel.mono B1.out.size)⟩
  · have tl : ((n : Int) != g.gr) = true := by simp [hlen]
    have NO := Lib.hid (mayDB_false (g := g) (l := l) (fun q => hlen (by have := q.1; have := N.out; omega)))
    clear hlen
    go_enter Tryd.func30, Tryd.ntmps30
    go_wp2
    go_ret
    exact ⟨by rw [NO.out]; rfl, B1.out⟩
end Go.Proofs.YtmlmpflfejbbcaaDoor
