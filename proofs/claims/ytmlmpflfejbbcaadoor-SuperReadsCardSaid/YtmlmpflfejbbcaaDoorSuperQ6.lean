import Derived.Test.YtmlmpflfejbbcaaDoorSuperQ5
import Derived.Deep.AppendLies
namespace Go.Proofs.YtmlmpflfejbbcaaDoor
open Go.RowKit CrcM

/-! The document's own: descriptors that are read. -/
def d3 (X : Blk) (j : Nat) : List Value := [.int .i64 ((g16 X.f (8 * j) : Nat) : Int), .int .i64 ((g16 X.f (8 * j + 2) : Nat) : Int), .int .i64 ((g16 X.f (8 * j + 4) : Nat) : Int)]
def descL (X : Blk) : Nat → List Value
  | 0 => []
  | j + 1 => descL X j ++ d3 X j
theorem descL_length (X : Blk) : ∀ j, (descL X j).length = j * 3
  | 0 => rfl
  | j + 1 => by rw [descL, List.length_append, descL_length X j]; simp [d3]; omega
theorem descL_at (X : Blk) : ∀ (n k i : Nat) (v : Value), k < n → (dcs (descOf X k)).toList[i]? = some v → (descL X n)[k * 3 + i]? = some v
  | 0, _, _, _, h, _ => by omega
  | n + 1, k, i, v, h, hv => by
    have hi : i < 3 := by
      rcases Nat.lt_or_ge i 3 with q | q
      · exact q
      · rw [dcs_eq] at hv; rw [List.getElem?_eq_none (by simpa using q)] at hv; cases hv
    rw [descL]
    rcases Nat.lt_or_ge k n with q | q
    · rw [List.getElem?_append_left (by rw [descL_length]; omega)]
      exact descL_at X n k i v q hv
    · obtain rfl : k = n := by omega
      rw [List.getElem?_append_right (by rw [descL_length]; omega), descL_length, show k * 3 + i - k * 3 = i by omega]
      rw [dcs_eq] at hv
      unfold descOf at hv
      exact hv
/-- What ReadDescs keeps in memory, with j descriptors read. -/
structure QR (w0 : World) (g : GeoV) (X : Blk) (j : Nat) (v : Value) (w : World) : Prop where
  rg : RG w0 g X w
  own : w.ownsRow (w0.heap.size + 2) 48 3 v j (descL X j)
theorem QR.base {w0 w : World} {g : GeoV} {X : Blk} {j : Nat} {v : Value} (h : QR w0 g X j v w) : ∀ r, v.ownBlock = some r → w0.heap.size + 2 ≤ r ∧ r < w.heap.size := by
  intro r e
  rcases h.own.2 with ⟨rfl, _⟩ | ⟨b, _, _, rfl, hb, hg, _⟩
  · cases e
  · have : b = r := by simpa [Value.ownBlock] using e
    subst this
    exact ⟨hb, (Array.getElem?_eq_some_iff.1 hg).1⟩
theorem QR.below {w0 w w' : World} {g : GeoV} {X : Blk} {j : Nat} {v : Value} (h : QR w0 g X j v w) (hb : Below w.heap.size w w') : QR w0 g X j v w' := by
  refine ⟨h.rg.below hb, h.own.kept (row := none) ⟨hb.os, hb.tape, hb.output, hb.size, fun i hi _ => hb.block i hi⟩ ?_⟩
  rcases h.own.2 with ⟨rfl, _⟩ | ⟨_, _, _, rfl, _⟩ <;> simp [Value.ownBlock]
theorem QR.app {w0 w w' : World} {g : GeoV} {X : Blk} {j : Nat} {v v' : Value} (h : QR w0 g X j v w) (hown : w'.ownsRow (w0.heap.size + 2) 48 3 v' (j + 1) (descL X (j + 1))) (hg : w.grownBy w' v.ownBlock) : QR w0 g X (j + 1) v' w' := by
  refine ⟨⟨⟨hg.os.trans h.rg.low.os, hg.tape.trans h.rg.low.tape, hg.output.trans h.rg.low.output, Nat.le_trans h.rg.low.size hg.size, fun i hi => (hg.block i (Nat.lt_of_lt_of_le hi h.rg.low.size) (fun e => ?_)).trans (h.rg.low.block i hi)⟩, (hg.block _ h.rg.geo.lt (fun e => ?_)).trans h.rg.geo, (hg.block _ h.rg.blk.lt (fun e => ?_)).trans h.rg.blk⟩, hown⟩
  all_goals (have := (h.base _ e.symm).1; omega)
theorem QR.row {w0 w : World} {g : GeoV} {X : Blk} {j : Nat} {v : Value} (h : QR w0 g X j v w) (hj : j ≤ 1000) : ∃ A c, v = .slice A j c ∧ DRow w A (descsOf X j) := by
  rcases h.own.2 with ⟨rfl, rfl⟩ | ⟨b, c, cur, rfl, hb, hg, _, _, _, hx⟩
  · exact ⟨none, 0, rfl, DRow.nil _ _⟩
  · refine ⟨_, c, rfl, ⟨by rw [descsOf_length]; omega, fun d hd => (descsOf_fits X j d hd).1, fun _ => ⟨b, 0, rfl, (Array.getElem?_eq_some_iff.1 hg).1, fun k d hd => ?_⟩⟩⟩
    have hk : k < j := by
      rcases Nat.lt_or_ge k (descsOf X j).length with q | q
      · rwa [descsOf_length] at q
      · rw [List.getElem?_eq_none q] at hd; cases hd
    rw [descsOf_get hk] at hd
    injection hd with hd
    subst hd
    intro i u hu
    have h1 := descL_at X j k i u hk hu
    rw [← hx, List.getElem?_take] at h1
    rw [Nat.zero_add, cell_of_row w b _ _ _ _ hg]
    split at h1
    · simpa using h1
    · cases h1
theorem QR.drew {w0 w : World} {g : GeoV} {X : Blk} {j : Nat} {v : Value} (h : QR w0 g X j v w) : QR w0 g X j v w.drew :=
  ⟨⟨⟨h.rg.low.os, h.rg.low.tape, h.rg.low.output, h.rg.low.size, h.rg.low.block⟩, h.rg.geo, h.rg.blk⟩, h.own⟩
theorem desc_info : (Tryd.prog.info? 48).map (fun i => (i.zero, i.size, i.bytes)) = some (some (.agg #[.int .i64 0, .int .i64 0, .int .i64 0]), 3, 24) := by kernel_rfl
theorem desc_built (a b c : Int) : Tryd.prog.built 48 [(0, .int .i64 a), (1, .int .i64 b), (2, .int .i64 c)] = some #[.int .i64 a, .int .i64 b, .int .i64 c] := by kernel_rfl
/-- The values of the region that reads one of them. -/
def rvD (i : Nat) : Tmp := 17 + i
def rvV (X : Blk) (L : Value) (j s : Nat) : Nat → Value → World → Prop
  | 0, v, _ => v = L
  | 1, v, _ => v = .agg (arr X)
  | 2, v, _ => v = .int .i64 (j : Int)
  | 3, v, _ => v = .int .i64 (8 * (j : Int))
  | 4, v, _ => v = .int .i64 ((g16 X.f (8 * j) : Nat) : Int)
  | 5, v, _ => v = .agg (arr X)
  | 6, v, _ => v = .int .i64 (j : Int)
  | 7, v, _ => v = .int .i64 (8 * (j : Int))
  | 8, v, _ => v = .int .i64 (8 * (j : Int) + 2)
  | 9, v, _ => v = .int .i64 ((g16 X.f (8 * j + 2) : Nat) : Int)
  | 10, v, _ => v = .agg (arr X)
  | 11, v, _ => v = .int .i64 (j : Int)
  | 12, v, _ => v = .int .i64 (8 * (j : Int))
  | 13, v, _ => v = .int .i64 (8 * (j : Int) + 4)
  | 14, v, _ => v = .int .i64 ((g16 X.f (8 * j + 4) : Nat) : Int)
  | 15, v, _ => v = .agg ⟨d3 X j⟩
  | _, v, w => ∃ b, v = .slice (some ⟨b, 0, none⟩) 1 1 ∧ s ≤ b ∧ w.heap[b]? = some (.cells ⟨d3 X j⟩ 48 (0, 0))
theorem rvV_below (X : Blk) (L : Value) (j s : Nat) (i : Nat) (v : Value) (w w' : World) (h : rvV X L j s i v w) (hb : Below w.heap.size w w') : rvV X L j s i v w' := by
  unfold rvV at h ⊢
  split at h <;> first | exact h | (obtain ⟨b, h1, h2, h3⟩ := h; exact ⟨b, h1, h2, (hb.block b (Array.getElem?_eq_some_iff.1 h3).1).trans h3⟩)
set_option maxRecDepth 100000 in
set_option maxHeartbeats 8000000 in
theorem rReadD (g : GeoV) (X : Blk) (w : World) (hg : g.Fits) :
    Calls Tryd.prog 18 #[.agg (gcs g), .agg (arr X)] w fun e w' => ∃ A n c, e = .returned (.tuple #[.slice A n c, .int .i64 (readD g X).2]) ∧ n = (readD g X).1.length ∧ DRow w' A (readD g X).1 ∧ Below w.heap.size w w' := by
  have b1 := below_new w (.cells (gcs g) 23)
  have b2 := below_new (w.alloc (.cells (gcs g) 23)) (.cells (arr X) 29)
  have q1 : GVar (w.alloc (.cells (gcs g) 23)) w.heap.size g := heap_alloc_new w _
  have q2 : BVar ((w.alloc (.cells (gcs g) 23)).alloc (.cells (arr X) 29)) (w.heap.size + 1) X := heap_alloc2_new w _ _
  have R1 : Hid (RG w g X ((w.alloc (.cells (gcs g) 23)).alloc (.cells (arr X) 29))) := Lib.hid ⟨b1.trans (b2.mono (by simp)), q1.below b2, q2⟩
  clear b1 b2 q1 q2
  go_enter Tryd.func18, Tryd.ntmps18
  go_wp2_with (first | (refine load_geo rfl (.tmp 2) rfl w.heap.size 0 rfl g R1.out.geo.at ?_))
  generalize (w.alloc (.cells (gcs g) 23)).alloc (.cells (arr X) 29) = w1 at R1 ⊢
  refine (rMay g w1).mono ?_
  rintro e w2 ⟨rfl, hb⟩
  have R2 := Lib.hid (R1.out.below hb)
  clear hb R1
  by_cases hm : May g
  · rw [may_true hm]
    obtain ⟨n, hn⟩ := Int.eq_ofNat_of_zero_le (show 0 ≤ g.gr by have := hm.1; omega)
    have hn4 : 1 ≤ n ∧ n ≤ 4 := by have := hm.1; have := hm.2.1; omega
    have HNN := Lib.hid (show g.gr.toNat = n by omega)
    have CG := Lib.hid hn
    have M := Lib.hid hm
    have HG := Lib.hid hg
    obtain ⟨i0, hi0, hzz⟩ := Option.map_eq_some_iff.1 desc_info
    simp only [Prod.mk.injEq] at hzz
    obtain ⟨hz0, hz1, hz2⟩ := hzz
    have HZ0 := Lib.hid hz0
    have HZ1 := Lib.hid hz1
    have HZ2 := Lib.hid hz2
    have HI0 := Lib.hid hi0
    clear hm hn hz0 hz1 hz2 hi0 hg
    have Q2 : Hid (QR w g X 0 (.slice none 0 0) w2) := Lib.hid ⟨R2.out, rfl, .inl ⟨rfl, rfl⟩⟩
    clear R2
    go_wp2
    go_loopw [6, 7] (fun v i wr => ∃ j : Nat, j ≤ n ∧ i = .int .i64 j ∧ (∀ k, k < j → g16 X.f (8 * k + 6) = 0) ∧ QR w g X j v wr) (fun _ i _ => n - (intOf i).toNat)
    case atStart => exact ⟨0, Nat.zero_le _, rfl, fun k hk => by omega, Q2.out⟩
    case round =>
      obtain ⟨j, hj, rfl, hsix, hqr⟩ := hrel
      have QJ := Lib.hid hqr
      have SIX := Lib.hid hsix
      clear hsix hqr
      have cG := QJ.out.rg.geo.c0
      rw [CG.out] at cG
      by_cases hlt : j < n
      · have z1 : (0 : Int) ≤ j := by omega
        have z2 : (j : Int) < n := by omega
        have t1 : decide ((j : Int) < n) = true := decide_eq_true z2
        have hw : IntKind.i64.wrap (8 * (j : Int)) = 8 * (j : Int) := by rw [IntKind.wrap_i64]; omega
        have hw2 : IntKind.i64.wrap (8 * (j : Int) + 2) = 8 * (j : Int) + 2 := by rw [IntKind.wrap_i64]; omega
        have hl2 : -9223372036854775808 ≤ 8 * (j : Int) + 2 := by omega
        have hu2 : 8 * (j : Int) + 2 ≤ 9223372036854775807 := by omega
        have hw4 : IntKind.i64.wrap (8 * (j : Int) + 4) = 8 * (j : Int) + 4 := by rw [IntKind.wrap_i64]; omega
        have hl4 : -9223372036854775808 ≤ 8 * (j : Int) + 4 := by omega
        have hu4 : 8 * (j : Int) + 4 ≤ 9223372036854775807 := by omega
        have hw6 : IntKind.i64.wrap (8 * (j : Int) + 6) = 8 * (j : Int) + 6 := by rw [IntKind.wrap_i64]; omega
        have hl6 : -9223372036854775808 ≤ 8 * (j : Int) + 6 := by omega
        have hu6 : 8 * (j : Int) + 6 ≤ 9223372036854775807 := by omega
        have hl0 : -9223372036854775808 ≤ 8 * (j : Int) := by omega
        have hu0 : 8 * (j : Int) ≤ 9223372036854775807 := by omega
        have CS0 := Lib.hid (short_at X (8 * j) (8 * (j : Int)) (by omega) (by omega))
        have CS2 := Lib.hid (short_at X (8 * j + 2) (8 * (j : Int) + 2) (by omega) (by omega))
        have CS4 := Lib.hid (short_at X (8 * j + 4) (8 * (j : Int) + 4) (by omega) (by omega))
        go_upto_region 7 with fail
        refine wp_region_vals (n := 17) rvD (rvV X u6 j wr.heap.size) (by kernel_rfl) (by kernel_rfl) (by kernel_rfl) (by kernel_rfl) (by kernel_rfl) (rvV_below X u6 j wr.heap.size) ?_ ?_
        · intro i o a w5 hi ho hk hb hdep
          have Q5 := Lib.hid (QJ.out.drew.below hb)
          have p3 : a.eval (.tmp 3) = .pointer (some ⟨w.heap.size + 1, 0, none⟩) := (hk.eval (by decide)).trans rfl
          have p6 : a.eval (.tmp 6) = u6 := (hk.eval (by decide)).trans rfl
          have p7 : a.eval (.tmp 7) = .int .i64 (j : Int) := (hk.eval (by decide)).trans rfl
          have hsz : wr.heap.size ≤ w5.heap.size := hb.size
          match i, hi, ho with
          | 0, _, ho =>
            cases ho
            exact Go.BigFrame.wp_move _ rfl ⟨_, rfl, p6, Below.refl _ _⟩
          | 1, _, ho =>
            cases ho
            exact op_blk (.tmp 3) rfl (w.heap.size + 1) 0 p3 X Q5.out.rg.blk.at ⟨_, rfl, rfl, Below.refl _ _⟩
          | 2, _, ho =>
            cases ho
            exact Go.BigFrame.wp_move _ rfl ⟨_, rfl, p7, Below.refl _ _⟩
          | 3, _, ho =>
            cases ho
            have e1 : a.eval (.tmp 19) = .int .i64 (j : Int) := hdep ⟨2, .data⟩ (by simp) rfl
            have e2 : a.eval (.const (.int .i64 8)) = .int .i64 8 := rfl
            refine wp_value (v := .int .i64 (8 * (j : Int))) (w' := w5) ?_ ⟨_, rfl, rfl, Below.refl _ _⟩
            generalize a.eval = ev at e1 e2 ⊢
            go_simp
          | 4, _, ho =>
            cases ho
            have e1 : a.eval (.tmp 18) = .agg (arr X) := hdep ⟨1, .data⟩ (by simp) rfl
            have e2 : a.eval (.tmp 20) = .int .i64 (8 * (j : Int)) := hdep ⟨3, .data⟩ (by simp) rfl
            refine wp_enter (f := 35) (args := #[.agg (arr X), .int .i64 (8 * (j : Int))]) ?_ ((CS0.out w5).mono fun e y h => ⟨_, h.1, _, rfl, rfl, h.2⟩)
            have e3 : a.eval (.func 35) = .func (.func 35) #[] #[] := rfl
            generalize a.eval = ev at e1 e2 e3 ⊢
            go_simp
          | 5, _, ho =>
            cases ho
            exact op_blk (.tmp 3) rfl (w.heap.size + 1) 0 p3 X Q5.out.rg.blk.at ⟨_, rfl, rfl, Below.refl _ _⟩
          | 6, _, ho =>
            cases ho
            exact Go.BigFrame.wp_move _ rfl ⟨_, rfl, p7, Below.refl _ _⟩
          | 7, _, ho =>
            cases ho
            have e1 : a.eval (.tmp 23) = .int .i64 (j : Int) := hdep ⟨6, .data⟩ (by simp) rfl
            have e2 : a.eval (.const (.int .i64 8)) = .int .i64 8 := rfl
            refine wp_value (v := .int .i64 (8 * (j : Int))) (w' := w5) ?_ ⟨_, rfl, rfl, Below.refl _ _⟩
            generalize a.eval = ev at e1 e2 ⊢
            go_simp
          | 8, _, ho =>
            cases ho
            have e1 : a.eval (.tmp 24) = .int .i64 (8 * (j : Int)) := hdep ⟨7, .data⟩ (by simp) rfl
            have e2 : a.eval (.const (.int .i64 2)) = .int .i64 2 := rfl
            refine wp_value (v := .int .i64 (8 * (j : Int) + 2)) (w' := w5) ?_ ⟨_, rfl, rfl, Below.refl _ _⟩
            generalize a.eval = ev at e1 e2 ⊢
            go_simp
          | 9, _, ho =>
            cases ho
            have e1 : a.eval (.tmp 22) = .agg (arr X) := hdep ⟨5, .data⟩ (by simp) rfl
            have e2 : a.eval (.tmp 25) = .int .i64 (8 * (j : Int) + 2) := hdep ⟨8, .data⟩ (by simp) rfl
            refine wp_enter (f := 35) (args := #[.agg (arr X), .int .i64 (8 * (j : Int) + 2)]) ?_ ((CS2.out w5).mono fun e y h => ⟨_, h.1, _, rfl, rfl, h.2⟩)
            have e3 : a.eval (.func 35) = .func (.func 35) #[] #[] := rfl
            generalize a.eval = ev at e1 e2 e3 ⊢
            go_simp
          | 10, _, ho =>
            cases ho
            exact op_blk (.tmp 3) rfl (w.heap.size + 1) 0 p3 X Q5.out.rg.blk.at ⟨_, rfl, rfl, Below.refl _ _⟩
          | 11, _, ho =>
            cases ho
            exact Go.BigFrame.wp_move _ rfl ⟨_, rfl, p7, Below.refl _ _⟩
          | 12, _, ho =>
            cases ho
            have e1 : a.eval (.tmp 28) = .int .i64 (j : Int) := hdep ⟨11, .data⟩ (by simp) rfl
            have e2 : a.eval (.const (.int .i64 8)) = .int .i64 8 := rfl
            refine wp_value (v := .int .i64 (8 * (j : Int))) (w' := w5) ?_ ⟨_, rfl, rfl, Below.refl _ _⟩
            generalize a.eval = ev at e1 e2 ⊢
            go_simp
          | 13, _, ho =>
            cases ho
            have e1 : a.eval (.tmp 29) = .int .i64 (8 * (j : Int)) := hdep ⟨12, .data⟩ (by simp) rfl
            have e2 : a.eval (.const (.int .i64 4)) = .int .i64 4 := rfl
            refine wp_value (v := .int .i64 (8 * (j : Int) + 4)) (w' := w5) ?_ ⟨_, rfl, rfl, Below.refl _ _⟩
            generalize a.eval = ev at e1 e2 ⊢
            go_simp
          | 14, _, ho =>
            cases ho
            have e1 : a.eval (.tmp 27) = .agg (arr X) := hdep ⟨10, .data⟩ (by simp) rfl
            have e2 : a.eval (.tmp 30) = .int .i64 (8 * (j : Int) + 4) := hdep ⟨13, .data⟩ (by simp) rfl
            refine wp_enter (f := 35) (args := #[.agg (arr X), .int .i64 (8 * (j : Int) + 4)]) ?_ ((CS4.out w5).mono fun e y h => ⟨_, h.1, _, rfl, rfl, h.2⟩)
            have e3 : a.eval (.func 35) = .func (.func 35) #[] #[] := rfl
            generalize a.eval = ev at e1 e2 e3 ⊢
            go_simp
          | 15, _, ho =>
            cases ho
            have e1 : a.eval (.tmp 21) = .int .i64 ((g16 X.f (8 * j) : Nat) : Int) := hdep ⟨4, .data⟩ (by simp) rfl
            have e2 : a.eval (.tmp 26) = .int .i64 ((g16 X.f (8 * j + 2) : Nat) : Int) := hdep ⟨9, .data⟩ (by simp) rfl
            have e3 : a.eval (.tmp 31) = .int .i64 ((g16 X.f (8 * j + 4) : Nat) : Int) := hdep ⟨14, .data⟩ (by simp) rfl
            exact wp_build 48 #[(0, .tmp 21), (1, .tmp 26), (2, .tmp 31)] rfl (by simp [e1, e2, e3, desc_built]) ⟨_, rfl, by simp [e1, e2, e3, desc_built]; rfl, Below.refl _ _⟩
          | 16, _, ho =>
            cases ho
            have e1 : a.eval (.tmp 32) = .agg #[.int .i64 ((g16 X.f (8 * j) : Nat) : Int), .int .i64 ((g16 X.f (8 * j + 2) : Nat) : Int), .int .i64 ((g16 X.f (8 * j + 4) : Nat) : Int)] := hdep ⟨15, .data⟩ (by simp) rfl
            refine wp_value (v := .slice (some ⟨w5.heap.size, 0, none⟩) 1 1) (w' := w5.alloc (.cells #[.int .i64 ((g16 X.f (8 * j) : Nat) : Int), .int .i64 ((g16 X.f (8 * j + 2) : Nat) : Int), .int .i64 ((g16 X.f (8 * j + 4) : Nat) : Int)] 48)) ?_ ⟨_, rfl, ⟨_, rfl, hsz, heap_alloc_new w5 _⟩, below_new _ _⟩
            clear hdep p3 p6 p7 hk
            generalize a.eval = ev at e1 ⊢
            go_simp
          | k + 17, hi, _ => omega
        · intro a w5 hk hb hv
          obtain ⟨x, hx, ea⟩ := hk.lit2 61 rfl
          have Q5 := Lib.hid (QJ.out.drew.below hb)
          have h0 := hv 0 (by decide)
          rw [show rvD 0 = 17 from rfl, hx] at h0
          replace h0 : x 17 = u6 := h0
          have h1 := hv 1 (by decide)
          rw [show rvD 1 = 18 from rfl, hx] at h1
          replace h1 : x 18 = .agg (arr X) := h1
          have h2 := hv 2 (by decide)
          rw [show rvD 2 = 19 from rfl, hx] at h2
          replace h2 : x 19 = .int .i64 (j : Int) := h2
          have h3 := hv 3 (by decide)
          rw [show rvD 3 = 20 from rfl, hx] at h3
          replace h3 : x 20 = .int .i64 (8 * (j : Int)) := h3
          have h4 := hv 4 (by decide)
          rw [show rvD 4 = 21 from rfl, hx] at h4
          replace h4 : x 21 = .int .i64 ((g16 X.f (8 * j) : Nat) : Int) := h4
          have h5 := hv 5 (by decide)
          rw [show rvD 5 = 22 from rfl, hx] at h5
          replace h5 : x 22 = .agg (arr X) := h5
          have h6 := hv 6 (by decide)
          rw [show rvD 6 = 23 from rfl, hx] at h6
          replace h6 : x 23 = .int .i64 (j : Int) := h6
          have h7 := hv 7 (by decide)
          rw [show rvD 7 = 24 from rfl, hx] at h7
          replace h7 : x 24 = .int .i64 (8 * (j : Int)) := h7
          have h8 := hv 8 (by decide)
          rw [show rvD 8 = 25 from rfl, hx] at h8
          replace h8 : x 25 = .int .i64 (8 * (j : Int) + 2) := h8
          have h9 := hv 9 (by decide)
          rw [show rvD 9 = 26 from rfl, hx] at h9
          replace h9 : x 26 = .int .i64 ((g16 X.f (8 * j + 2) : Nat) : Int) := h9
          have h10 := hv 10 (by decide)
          rw [show rvD 10 = 27 from rfl, hx] at h10
          replace h10 : x 27 = .agg (arr X) := h10
          have h11 := hv 11 (by decide)
          rw [show rvD 11 = 28 from rfl, hx] at h11
          replace h11 : x 28 = .int .i64 (j : Int) := h11
          have h12 := hv 12 (by decide)
          rw [show rvD 12 = 29 from rfl, hx] at h12
          replace h12 : x 29 = .int .i64 (8 * (j : Int)) := h12
          have h13 := hv 13 (by decide)
          rw [show rvD 13 = 30 from rfl, hx] at h13
          replace h13 : x 30 = .int .i64 (8 * (j : Int) + 4) := h13
          have h14 := hv 14 (by decide)
          rw [show rvD 14 = 31 from rfl, hx] at h14
          replace h14 : x 31 = .int .i64 ((g16 X.f (8 * j + 4) : Nat) : Int) := h14
          have h15 := hv 15 (by decide)
          rw [show rvD 15 = 32 from rfl, hx] at h15
          replace h15 : x 32 = .agg ⟨d3 X j⟩ := h15
          obtain ⟨b, h16, _, hb16⟩ : ∃ b, a.eval (.tmp 33) = .slice (some ⟨b, 0, none⟩) 1 1 ∧ wr.heap.size ≤ b ∧ w5.heap[b]? = some (.cells ⟨d3 X j⟩ 48 (0, 0)) := hv 16 (by decide)
          rw [hx] at h16
          replace ea : a = { tmps := #[Value.agg (gcs g), Value.agg (arr X), Value.pointer (some ⟨w.heap.size, 0, none⟩), Value.pointer (some ⟨w.heap.size + 1, 0, none⟩), u4, u5, u6, Value.int IntKind.i64 (j : Int), Value.agg (gcs g), Value.bool true, Value.bool false, Value.int IntKind.i64 (j : Int), Value.pointer (some ⟨w.heap.size, 0, none⟩), Value.int IntKind.i64 (n : Int), Value.bool true, u15, u16, x 17, x 18, x 19, x 20, x 21, x 22, x 23, x 24, x 25, x 26, x 27, x 28, x 29, x 30, x 31, x 32, x 33, u34, u35, u36, u37, u38, u39, u40, undef, undef, undef, undef, undef, undef, undef, undef, undef, undef, undef, undef, undef, undef, undef, undef, undef, undef, undef, undef], defers := [] } := ea
          rw [h0, h1, h2, h3, h4, h5, h6, h7, h8, h9, h10, h11, h12, h13, h14, h15, h16] at ea
          subst ea
          have HB := Lib.hid hb16
          clear hk hb hv hx h0 h1 h2 h3 h4 h5 h6 h7 h8 h9 h10 h11 h12 h13 h14 h15 h16 hb16 x
          simp only [List.drop_succ_cons, List.drop_zero]
          go_wp2_with (first
            | (at_builtin; refine wpList_append_lies _ rfl (.tmp 17) (.tmp 33) 27 rfl (w.heap.size + 2) 48 i0 _ 3 24 Tryd.underlying27 HI0.out HZ0.out HZ1.out HZ2.out (by rfl) (by omega) u6 j (descL X j) (by rfl) Q5.out.own ⟨b, 0, none⟩ 1 1 (d3 X j) (by rfl) (by rfl) (World.news_of_block HB.out) (by simp [d3, Value.oneCell']) (by omega) (by simp only [maxLen]; omega) (by omega) (by have := Q5.out.rg.blk.lt; omega) w5.heap.size rfl ?_; intro gg cap w6 hown hgrow _ _; have Q6 := Lib.hid (Q5.out.app hown hgrow); clear hown hgrow)
            | (refine load_blk rfl (.tmp 3) rfl (w.heap.size + 1) 0 rfl X Q6.out.rg.blk.at ?_))
          refine (short_at X (8 * j + 6) (8 * (j : Int) + 6) (by omega) (by omega) w6).mono ?_
          rintro e w7 ⟨rfl, hb⟩
          have Q7 := Lib.hid (Q6.out.below hb)
          clear hb Q6 Q5 HB
          by_cases h6 : g16 X.f (8 * j + 6) = 0
          · rw [h6]
            have SX := Lib.hid h6
            clear h6
            go_wp2
            go_roundw
            case rel =>
              refine ⟨j + 1, by omega, by go_num, fun k hk => ?_, Q7.out⟩
              rcases Nat.lt_or_ge k j with q | q
              · exact SIX.out k q
              · obtain rfl : k = j := by omega
                exact SX.out
            case measure => simp [intOf]; omega
          · have t6 : (((g16 X.f (8 * j + 6) : Nat) : Int) != 0) = true := by simp; omega
            have EW := Lib.hid (readD_bad M.out (x := X) (fun q => h6 (q.1 j (by have := HNN.out; omega))))
            clear h6
            go_wp2
            go_ret2
            rw [EW.out]
            exact ⟨none, 0, 0, rfl, rfl, DRow.nil _ _, Q7.out.rg.low⟩
      · obtain rfl : j = n := by omega
        obtain ⟨A, c, rfl, hrow⟩ := QJ.out.row (by omega)
        have DR := Lib.hid hrow
        have RW := Lib.hid QJ.out.rg
        have MD := Lib.hid (fun W (hC : More wr W) => rmay_any g A j c (descsOf X j) W M.out (descsOf_length X j).symm (DR.out.below hC))
        have CL := Lib.hid (long_at X 252 252 rfl (by omega))
        have CM := Lib.hid (fun W (hC : More wr W) => sum_at X W (w.heap.size + 1) (RW.out.blk.below hC))
        have SIXJ := Lib.hid (show ∀ k, k < j → g16 X.f (8 * k + 6) = 0 from SIX.out)
        have DONE : Hid (∀ k, k < g.gr.toNat → g16 X.f (8 * k + 6) = 0) := Lib.hid (by rw [HNN.out]; exact SIX.out)
        clear hrow QJ Q2 hlt SIX SIXJ
        have h4 : j = 1 ∨ j = 2 ∨ j = 3 ∨ j = 4 := by omega
        clear hj hn4
        have tj : decide ((j : Int) < j) = false := decide_eq_false (by omega)
        go_upto_region 10 with fail
        clear tj
        rcases h4 with rfl | rfl | rfl | rfl
        · by_cases ha : g32 X.f 252 = sumB X
          · have ta : (((g32 X.f 252 : Nat) : Int) != ((sumB X : Nat) : Int)) = false := by simp; omega
            by_cases hz : ∀ i, i < 244 → X.f (8 + i) = 0
            · have CZ := Lib.hid (fun W (hC : More wr W) => zeros_at X W (w.heap.size + 1) 8 244 248 true (zb_yes2 hz) (by omega) (RW.out.blk.below hC))
              have OK3 := Lib.hid (show Sealed X ∧ ∀ i, 8 * g.gr.toNat ≤ i → i < 252 → X.f i = 0 from ⟨ha, fun i q1 q2 => by rw [HNN.out] at q1; have := hz (i - 8) (by omega); rwa [show 8 + (i - 8) = i by omega] at this⟩)
              clear ha hz
              by_cases ho : MayD g (descsOf X 1)
              · rw [mayDB_true ho] at MD
                have EW := Lib.hid (readD_may M.out (x := X) ⟨DONE.out, OK3.out.1, OK3.out.2, by rw [HNN.out]; exact ho⟩)
                rw [HNN.out] at EW
                clear ho
                go_wp2_with fail
                refine wp_region_class (More wr) (by kernel_rfl) (by kernel_rfl) (More.drew _) ?_
                repeat (first | go_big_quiet_skip | (go_big_quiet_want; first | (refine quiet_geo _ rfl _ _ (by rfl) g (by intro w' hw'; exact (RW.out.below hw').geo.at) ?_; simp only [Act.put, List.setIfInBounds_toArray, List.set_cons_zero, List.set_cons_succ]; go_big_quiet_on) | (refine quiet_int _ rfl _ (by rfl) 1 (by intro w' hw'; have := (RW.out.below hw').geo.c0; rw [CG.out] at this; exact this) ?_; simp only [Act.put, List.setIfInBounds_toArray, List.set_cons_zero, List.set_cons_succ]; go_big_quiet_on) | (refine quiet_load _ rfl _ _ (by rfl) X (by intro w' hw'; exact (RW.out.below hw').blk.at) ?_; simp only [Act.put, List.setIfInBounds_toArray, List.set_cons_zero, List.set_cons_succ]; go_big_quiet_on) | (go_big_quiet_op; first | go_big_quiet_on | (apply Exists.intro; refine ⟨fun _ _ => ?_, ?_⟩; (with_reducible exact rfl); go_big_quiet_on) | go_big_quiet_call ((intro hC; (first | (with_reducible refine (CL.out _).mono ?_) | (with_reducible refine (CM.out _ hC).mono ?_) | (with_reducible refine (CZ.out _ hC).mono ?_) | (with_reducible refine (MD.out _ hC).mono ?_)); exact fun e w' h => ⟨h.1, hC.on h.2⟩)))))
                refine wpQuiet_nil ?_
                intro w5 hw5
                have R5 := Lib.hid (RW.out.below hw5)
                have D5 := Lib.hid (DR.out.below hw5)
                clear hw5
                go_wp2
                go_ret2
                rw [EW.out]
                exact ⟨A, 1, c, rfl, (descsOf_length X 1).symm, D5.out, R5.out.low⟩
              · rw [mayDB_false ho] at MD
                have EW := Lib.hid (readD_bad M.out (x := X) (fun q => ho (by have := q.2.2.2; rwa [HNN.out] at this)))
                clear ho
                go_wp2_with fail
                refine wp_region_class (More wr) (by kernel_rfl) (by kernel_rfl) (More.drew _) ?_
                repeat (first | go_big_quiet_skip | (go_big_quiet_want; first | (refine quiet_geo _ rfl _ _ (by rfl) g (by intro w' hw'; exact (RW.out.below hw').geo.at) ?_; simp only [Act.put, List.setIfInBounds_toArray, List.set_cons_zero, List.set_cons_succ]; go_big_quiet_on) | (refine quiet_int _ rfl _ (by rfl) 1 (by intro w' hw'; have := (RW.out.below hw').geo.c0; rw [CG.out] at this; exact this) ?_; simp only [Act.put, List.setIfInBounds_toArray, List.set_cons_zero, List.set_cons_succ]; go_big_quiet_on) | (refine quiet_load _ rfl _ _ (by rfl) X (by intro w' hw'; exact (RW.out.below hw').blk.at) ?_; simp only [Act.put, List.setIfInBounds_toArray, List.set_cons_zero, List.set_cons_succ]; go_big_quiet_on) | (go_big_quiet_op; first | go_big_quiet_on | (apply Exists.intro; refine ⟨fun _ _ => ?_, ?_⟩; (with_reducible exact rfl); go_big_quiet_on) | go_big_quiet_call ((intro hC; (first | (with_reducible refine (CL.out _).mono ?_) | (with_reducible refine (CM.out _ hC).mono ?_) | (with_reducible refine (CZ.out _ hC).mono ?_) | (with_reducible refine (MD.out _ hC).mono ?_)); exact fun e w' h => ⟨h.1, hC.on h.2⟩)))))
                refine wpQuiet_nil ?_
                intro w5 hw5
                have R5 := Lib.hid (RW.out.below hw5)
                have D5 := Lib.hid (DR.out.below hw5)
                clear hw5
                go_wp2
                go_ret2
                rw [EW.out]
                exact ⟨none, 0, 0, rfl, rfl, DRow.nil _ _, R5.out.low⟩
            · have CZ := Lib.hid (fun W (hC : More wr W) => zeros_at X W (w.heap.size + 1) 8 244 248 false (zb_no hz) (by omega) (RW.out.blk.below hC))
              have EW := Lib.hid (readD_bad M.out (x := X) (fun q => hz fun i hi => q.2.2.1 (8 + i) (by rw [HNN.out]; omega) (by omega)))
              clear ha hz
              go_wp2_with fail
              refine wp_region_class (More wr) (by kernel_rfl) (by kernel_rfl) (More.drew _) ?_
              repeat (first | go_big_quiet_skip | (go_big_quiet_want; first | (refine quiet_geo _ rfl _ _ (by rfl) g (by intro w' hw'; exact (RW.out.below hw').geo.at) ?_; simp only [Act.put, List.setIfInBounds_toArray, List.set_cons_zero, List.set_cons_succ]; go_big_quiet_on) | (refine quiet_int _ rfl _ (by rfl) 1 (by intro w' hw'; have := (RW.out.below hw').geo.c0; rw [CG.out] at this; exact this) ?_; simp only [Act.put, List.setIfInBounds_toArray, List.set_cons_zero, List.set_cons_succ]; go_big_quiet_on) | (refine quiet_load _ rfl _ _ (by rfl) X (by intro w' hw'; exact (RW.out.below hw').blk.at) ?_; simp only [Act.put, List.setIfInBounds_toArray, List.set_cons_zero, List.set_cons_succ]; go_big_quiet_on) | (go_big_quiet_op; first | go_big_quiet_on | (apply Exists.intro; refine ⟨fun _ _ => ?_, ?_⟩; (with_reducible exact rfl); go_big_quiet_on) | go_big_quiet_call ((intro hC; (first | (with_reducible refine (CL.out _).mono ?_) | (with_reducible refine (CM.out _ hC).mono ?_) | (with_reducible refine (CZ.out _ hC).mono ?_)); exact fun e w' h => ⟨h.1, hC.on h.2⟩)))))
              refine wpQuiet_nil ?_
              intro w5 hw5
              have R5 := Lib.hid (RW.out.below hw5)
              have D5 := Lib.hid (DR.out.below hw5)
              clear hw5
              go_wp2
              go_ret2
              rw [EW.out]
              exact ⟨none, 0, 0, rfl, rfl, DRow.nil _ _, R5.out.low⟩
          · have ta : (((g32 X.f 252 : Nat) : Int) != ((sumB X : Nat) : Int)) = true := by simp; omega
            have EW := Lib.hid (readD_bad (g := g) M.out (x := X) (fun q => ha q.2.1))
            clear ha
            go_wp2_with fail
            refine wp_region_class (More wr) (by kernel_rfl) (by kernel_rfl) (More.drew _) ?_
            repeat (first | go_big_quiet_skip | (go_big_quiet_want; first | (refine quiet_geo _ rfl _ _ (by rfl) g (by intro w' hw'; exact (RW.out.below hw').geo.at) ?_; simp only [Act.put, List.setIfInBounds_toArray, List.set_cons_zero, List.set_cons_succ]; go_big_quiet_on) | (refine quiet_int _ rfl _ (by rfl) 1 (by intro w' hw'; have := (RW.out.below hw').geo.c0; rw [CG.out] at this; exact this) ?_; simp only [Act.put, List.setIfInBounds_toArray, List.set_cons_zero, List.set_cons_succ]; go_big_quiet_on) | (refine quiet_load _ rfl _ _ (by rfl) X (by intro w' hw'; exact (RW.out.below hw').blk.at) ?_; simp only [Act.put, List.setIfInBounds_toArray, List.set_cons_zero, List.set_cons_succ]; go_big_quiet_on) | (go_big_quiet_op; first | go_big_quiet_on | (apply Exists.intro; refine ⟨fun _ _ => ?_, ?_⟩; (with_reducible exact rfl); go_big_quiet_on) | go_big_quiet_call ((intro hC; (first | (with_reducible refine (CL.out _).mono ?_) | (with_reducible refine (CM.out _ hC).mono ?_)); exact fun e w' h => ⟨h.1, hC.on h.2⟩)))))
            refine wpQuiet_nil ?_
            intro w5 hw5
            have R5 := Lib.hid (RW.out.below hw5)
            have D5 := Lib.hid (DR.out.below hw5)
            clear hw5
            go_wp2
            go_ret2
            rw [EW.out]
            exact ⟨none, 0, 0, rfl, rfl, DRow.nil _ _, R5.out.low⟩
        · by_cases ha : g32 X.f 252 = sumB X
          · have ta : (((g32 X.f 252 : Nat) : Int) != ((sumB X : Nat) : Int)) = false := by simp; omega
            by_cases hz : ∀ i, i < 236 → X.f (16 + i) = 0
            · have CZ := Lib.hid (fun W (hC : More wr W) => zeros_at X W (w.heap.size + 1) 16 236 240 true (zb_yes2 hz) (by omega) (RW.out.blk.below hC))
              have OK3 := Lib.hid (show Sealed X ∧ ∀ i, 8 * g.gr.toNat ≤ i → i < 252 → X.f i = 0 from ⟨ha, fun i q1 q2 => by rw [HNN.out] at q1; have := hz (i - 16) (by omega); rwa [show 16 + (i - 16) = i by omega] at this⟩)
              clear ha hz
              by_cases ho : MayD g (descsOf X 2)
              · rw [mayDB_true ho] at MD
                have EW := Lib.hid (readD_may M.out (x := X) ⟨DONE.out, OK3.out.1, OK3.out.2, by rw [HNN.out]; exact ho⟩)
                rw [HNN.out] at EW
                clear ho
                go_wp2_with fail
                refine wp_region_class (More wr) (by kernel_rfl) (by kernel_rfl) (More.drew _) ?_
                repeat (first | go_big_quiet_skip | (go_big_quiet_want; first | (refine quiet_geo _ rfl _ _ (by rfl) g (by intro w' hw'; exact (RW.out.below hw').geo.at) ?_; simp only [Act.put, List.setIfInBounds_toArray, List.set_cons_zero, List.set_cons_succ]; go_big_quiet_on) | (refine quiet_int _ rfl _ (by rfl) 2 (by intro w' hw'; have := (RW.out.below hw').geo.c0; rw [CG.out] at this; exact this) ?_; simp only [Act.put, List.setIfInBounds_toArray, List.set_cons_zero, List.set_cons_succ]; go_big_quiet_on) | (refine quiet_load _ rfl _ _ (by rfl) X (by intro w' hw'; exact (RW.out.below hw').blk.at) ?_; simp only [Act.put, List.setIfInBounds_toArray, List.set_cons_zero, List.set_cons_succ]; go_big_quiet_on) | (go_big_quiet_op; first | go_big_quiet_on | (apply Exists.intro; refine ⟨fun _ _ => ?_, ?_⟩; (with_reducible exact rfl); go_big_quiet_on) | go_big_quiet_call ((intro hC; (first | (with_reducible refine (CL.out _).mono ?_) | (with_reducible refine (CM.out _ hC).mono ?_) | (with_reducible refine (CZ.out _ hC).mono ?_) | (with_reducible refine (MD.out _ hC).mono ?_)); exact fun e w' h => ⟨h.1, hC.on h.2⟩)))))
                refine wpQuiet_nil ?_
                intro w5 hw5
                have R5 := Lib.hid (RW.out.below hw5)
                have D5 := Lib.hid (DR.out.below hw5)
                clear hw5
                go_wp2
                go_ret2
                rw [EW.out]
                exact ⟨A, 2, c, rfl, (descsOf_length X 2).symm, D5.out, R5.out.low⟩
              · rw [mayDB_false ho] at MD
                have EW := Lib.hid (readD_bad M.out (x := X) (fun q => ho (by have := q.2.2.2; rwa [HNN.out] at this)))
                clear ho
                go_wp2_with fail
                refine wp_region_class (More wr) (by kernel_rfl) (by kernel_rfl) (More.drew _) ?_
                repeat (first | go_big_quiet_skip | (go_big_quiet_want; first | (refine quiet_geo _ rfl _ _ (by rfl) g (by intro w' hw'; exact (RW.out.below hw').geo.at) ?_; simp only [Act.put, List.setIfInBounds_toArray, List.set_cons_zero, List.set_cons_succ]; go_big_quiet_on) | (refine quiet_int _ rfl _ (by rfl) 2 (by intro w' hw'; have := (RW.out.below hw').geo.c0; rw [CG.out] at this; exact this) ?_; simp only [Act.put, List.setIfInBounds_toArray, List.set_cons_zero, List.set_cons_succ]; go_big_quiet_on) | (refine quiet_load _ rfl _ _ (by rfl) X (by intro w' hw'; exact (RW.out.below hw').blk.at) ?_; simp only [Act.put, List.setIfInBounds_toArray, List.set_cons_zero, List.set_cons_succ]; go_big_quiet_on) | (go_big_quiet_op; first | go_big_quiet_on | (apply Exists.intro; refine ⟨fun _ _ => ?_, ?_⟩; (with_reducible exact rfl); go_big_quiet_on) | go_big_quiet_call ((intro hC; (first | (with_reducible refine (CL.out _).mono ?_) | (with_reducible refine (CM.out _ hC).mono ?_) | (with_reducible refine (CZ.out _ hC).mono ?_) | (with_reducible refine (MD.out _ hC).mono ?_)); exact fun e w' h => ⟨h.1, hC.on h.2⟩)))))
                refine wpQuiet_nil ?_
                intro w5 hw5
                have R5 := Lib.hid (RW.out.below hw5)
                have D5 := Lib.hid (DR.out.below hw5)
                clear hw5
                go_wp2
                go_ret2
                rw [EW.out]
                exact ⟨none, 0, 0, rfl, rfl, DRow.nil _ _, R5.out.low⟩
            · have CZ := Lib.hid (fun W (hC : More wr W) => zeros_at X W (w.heap.size + 1) 16 236 240 false (zb_no hz) (by omega) (RW.out.blk.below hC))
              have EW := Lib.hid (readD_bad M.out (x := X) (fun q => hz fun i hi => q.2.2.1 (16 + i) (by rw [HNN.out]; omega) (by omega)))
              clear ha hz
              go_wp2_with fail
              refine wp_region_class (More wr) (by kernel_rfl) (by kernel_rfl) (More.drew _) ?_
              repeat (first | go_big_quiet_skip | (go_big_quiet_want; first | (refine quiet_geo _ rfl _ _ (by rfl) g (by intro w' hw'; exact (RW.out.below hw').geo.at) ?_; simp only [Act.put, List.setIfInBounds_toArray, List.set_cons_zero, List.set_cons_succ]; go_big_quiet_on) | (refine quiet_int _ rfl _ (by rfl) 2 (by intro w' hw'; have := (RW.out.below hw').geo.c0; rw [CG.out] at this; exact this) ?_; simp only [Act.put, List.setIfInBounds_toArray, List.set_cons_zero, List.set_cons_succ]; go_big_quiet_on) | (refine quiet_load _ rfl _ _ (by rfl) X (by intro w' hw'; exact (RW.out.below hw').blk.at) ?_; simp only [Act.put, List.setIfInBounds_toArray, List.set_cons_zero, List.set_cons_succ]; go_big_quiet_on) | (go_big_quiet_op; first | go_big_quiet_on | (apply Exists.intro; refine ⟨fun _ _ => ?_, ?_⟩; (with_reducible exact rfl); go_big_quiet_on) | go_big_quiet_call ((intro hC; (first | (with_reducible refine (CL.out _).mono ?_) | (with_reducible refine (CM.out _ hC).mono ?_) | (with_reducible refine (CZ.out _ hC).mono ?_)); exact fun e w' h => ⟨h.1, hC.on h.2⟩)))))
              refine wpQuiet_nil ?_
              intro w5 hw5
              have R5 := Lib.hid (RW.out.below hw5)
              have D5 := Lib.hid (DR.out.below hw5)
              clear hw5
              go_wp2
              go_ret2
              rw [EW.out]
              exact ⟨none, 0, 0, rfl, rfl, DRow.nil _ _, R5.out.low⟩
          · have ta : (((g32 X.f 252 : Nat) : Int) != ((sumB X : Nat) : Int)) = true := by simp; omega
            have EW := Lib.hid (readD_bad (g := g) M.out (x := X) (fun q => ha q.2.1))
            clear ha
            go_wp2_with fail
            refine wp_region_class (More wr) (by kernel_rfl) (by kernel_rfl) (More.drew _) ?_
            repeat (first | go_big_quiet_skip | (go_big_quiet_want; first | (refine quiet_geo _ rfl _ _ (by rfl) g (by intro w' hw'; exact (RW.out.below hw').geo.at) ?_; simp only [Act.put, List.setIfInBounds_toArray, List.set_cons_zero, List.set_cons_succ]; go_big_quiet_on) | (refine quiet_int _ rfl _ (by rfl) 2 (by intro w' hw'; have := (RW.out.below hw').geo.c0; rw [CG.out] at this; exact this) ?_; simp only [Act.put, List.setIfInBounds_toArray, List.set_cons_zero, List.set_cons_succ]; go_big_quiet_on) | (refine quiet_load _ rfl _ _ (by rfl) X (by intro w' hw'; exact (RW.out.below hw').blk.at) ?_; simp only [Act.put, List.setIfInBounds_toArray, List.set_cons_zero, List.set_cons_succ]; go_big_quiet_on) | (go_big_quiet_op; first | go_big_quiet_on | (apply Exists.intro; refine ⟨fun _ _ => ?_, ?_⟩; (with_reducible exact rfl); go_big_quiet_on) | go_big_quiet_call ((intro hC; (first | (with_reducible refine (CL.out _).mono ?_) | (with_reducible refine (CM.out _ hC).mono ?_)); exact fun e w' h => ⟨h.1, hC.on h.2⟩)))))
            refine wpQuiet_nil ?_
            intro w5 hw5
            have R5 := Lib.hid (RW.out.below hw5)
            have D5 := Lib.hid (DR.out.below hw5)
            clear hw5
            go_wp2
            go_ret2
            rw [EW.out]
            exact ⟨none, 0, 0, rfl, rfl, DRow.nil _ _, R5.out.low⟩
        · by_cases ha : g32 X.f 252 = sumB X
          · have ta : (((g32 X.f 252 : Nat) : Int) != ((sumB X : Nat) : Int)) = false := by simp; omega
            by_cases hz : ∀ i, i < 228 → X.f (24 + i) = 0
            · have CZ := Lib.hid (fun W (hC : More wr W) => zeros_at X W (w.heap.size + 1) 24 228 232 true (zb_yes2 hz) (by omega) (RW.out.blk.below hC))
              have OK3 := Lib.hid (show Sealed X ∧ ∀ i, 8 * g.gr.toNat ≤ i → i < 252 → X.f i = 0 from ⟨ha, fun i q1 q2 => by rw [HNN.out] at q1; have := hz (i - 24) (by omega); rwa [show 24 + (i - 24) = i by omega] at this⟩)
              clear ha hz
              by_cases ho : MayD g (descsOf X 3)
              · rw [mayDB_true ho] at MD
                have EW := Lib.hid (readD_may M.out (x := X) ⟨DONE.out, OK3.out.1, OK3.out.2, by rw [HNN.out]; exact ho⟩)
                rw [HNN.out] at EW
                clear ho
                go_wp2_with fail
                refine wp_region_class (More wr) (by kernel_rfl) (by kernel_rfl) (More.drew _) ?_
                repeat (first | go_big_quiet_skip | (go_big_quiet_want; first | (refine quiet_geo _ rfl _ _ (by rfl) g (by intro w' hw'; exact (RW.out.below hw').geo.at) ?_; simp only [Act.put, List.setIfInBounds_toArray, List.set_cons_zero, List.set_cons_succ]; go_big_quiet_on) | (refine quiet_int _ rfl _ (by rfl) 3 (by intro w' hw'; have := (RW.out.below hw').geo.c0; rw [CG.out] at this; exact this) ?_; simp only [Act.put, List.setIfInBounds_toArray, List.set_cons_zero, List.set_cons_succ]; go_big_quiet_on) | (refine quiet_load _ rfl _ _ (by rfl) X (by intro w' hw'; exact (RW.out.below hw').blk.at) ?_; simp only [Act.put, List.setIfInBounds_toArray, List.set_cons_zero, List.set_cons_succ]; go_big_quiet_on) | (go_big_quiet_op; first | go_big_quiet_on | (apply Exists.intro; refine ⟨fun _ _ => ?_, ?_⟩; (with_reducible exact rfl); go_big_quiet_on) | go_big_quiet_call ((intro hC; (first | (with_reducible refine (CL.out _).mono ?_) | (with_reducible refine (CM.out _ hC).mono ?_) | (with_reducible refine (CZ.out _ hC).mono ?_) | (with_reducible refine (MD.out _ hC).mono ?_)); exact fun e w' h => ⟨h.1, hC.on h.2⟩)))))
                refine wpQuiet_nil ?_
                intro w5 hw5
                have R5 := Lib.hid (RW.out.below hw5)
                have D5 := Lib.hid (DR.out.below hw5)
                clear hw5
                go_wp2
                go_ret2
                rw [EW.out]
                exact ⟨A, 3, c, rfl, (descsOf_length X 3).symm, D5.out, R5.out.low⟩
              · rw [mayDB_false ho] at MD
                have EW := Lib.hid (readD_bad M.out (x := X) (fun q => ho (by have := q.2.2.2; rwa [HNN.out] at this)))
                clear ho
                go_wp2_with fail
                refine wp_region_class (More wr) (by kernel_rfl) (by kernel_rfl) (More.drew _) ?_
                repeat (first | go_big_quiet_skip | (go_big_quiet_want; first | (refine quiet_geo _ rfl _ _ (by rfl) g (by intro w' hw'; exact (RW.out.below hw').geo.at) ?_; simp only [Act.put, List.setIfInBounds_toArray, List.set_cons_zero, List.set_cons_succ]; go_big_quiet_on) | (refine quiet_int _ rfl _ (by rfl) 3 (by intro w' hw'; have := (RW.out.below hw').geo.c0; rw [CG.out] at this; exact this) ?_; simp only [Act.put, List.setIfInBounds_toArray, List.set_cons_zero, List.set_cons_succ]; go_big_quiet_on) | (refine quiet_load _ rfl _ _ (by rfl) X (by intro w' hw'; exact (RW.out.below hw').blk.at) ?_; simp only [Act.put, List.setIfInBounds_toArray, List.set_cons_zero, List.set_cons_succ]; go_big_quiet_on) | (go_big_quiet_op; first | go_big_quiet_on | (apply Exists.intro; refine ⟨fun _ _ => ?_, ?_⟩; (with_reducible exact rfl); go_big_quiet_on) | go_big_quiet_call ((intro hC; (first | (with_reducible refine (CL.out _).mono ?_) | (with_reducible refine (CM.out _ hC).mono ?_) | (with_reducible refine (CZ.out _ hC).mono ?_) | (with_reducible refine (MD.out _ hC).mono ?_)); exact fun e w' h => ⟨h.1, hC.on h.2⟩)))))
                refine wpQuiet_nil ?_
                intro w5 hw5
                have R5 := Lib.hid (RW.out.below hw5)
                have D5 := Lib.hid (DR.out.below hw5)
                clear hw5
                go_wp2
                go_ret2
                rw [EW.out]
                exact ⟨none, 0, 0, rfl, rfl, DRow.nil _ _, R5.out.low⟩
            · have CZ := Lib.hid (fun W (hC : More wr W) => zeros_at X W (w.heap.size + 1) 24 228 232 false (zb_no hz) (by omega) (RW.out.blk.below hC))
              have EW := Lib.hid (readD_bad M.out (x := X) (fun q => hz fun i hi => q.2.2.1 (24 + i) (by rw [HNN.out]; omega) (by omega)))
              clear ha hz
              go_wp2_with fail
              refine wp_region_class (More wr) (by kernel_rfl) (by kernel_rfl) (More.drew _) ?_
              repeat (first | go_big_quiet_skip | (go_big_quiet_want; first | (refine quiet_geo _ rfl _ _ (by rfl) g (by intro w' hw'; exact (RW.out.below hw').geo.at) ?_; simp only [Act.put, List.setIfInBounds_toArray, List.set_cons_zero, List.set_cons_succ]; go_big_quiet_on) | (refine quiet_int _ rfl _ (by rfl) 3 (by intro w' hw'; have := (RW.out.below hw').geo.c0; rw [CG.out] at this; exact this) ?_; simp only [Act.put, List.setIfInBounds_toArray, List.set_cons_zero, List.set_cons_succ]; go_big_quiet_on) | (refine quiet_load _ rfl _ _ (by rfl) X (by intro w' hw'; exact (RW.out.below hw').blk.at) ?_; simp only [Act.put, List.setIfInBounds_toArray, List.set_cons_zero, List.set_cons_succ]; go_big_quiet_on) | (go_big_quiet_op; first | go_big_quiet_on | (apply Exists.intro; refine ⟨fun _ _ => ?_, ?_⟩; (with_reducible exact rfl); go_big_quiet_on) | go_big_quiet_call ((intro hC; (first | (with_reducible refine (CL.out _).mono ?_) | (with_reducible refine (CM.out _ hC).mono ?_) | (with_reducible refine (CZ.out _ hC).mono ?_)); exact fun e w' h => ⟨h.1, hC.on h.2⟩)))))
              refine wpQuiet_nil ?_
              intro w5 hw5
              have R5 := Lib.hid (RW.out.below hw5)
              have D5 := Lib.hid (DR.out.below hw5)
              clear hw5
              go_wp2
              go_ret2
              rw [EW.out]
              exact ⟨none, 0, 0, rfl, rfl, DRow.nil _ _, R5.out.low⟩
          · have ta : (((g32 X.f 252 : Nat) : Int) != ((sumB X : Nat) : Int)) = true := by simp; omega
            have EW := Lib.hid (readD_bad (g := g) M.out (x := X) (fun q => ha q.2.1))
            clear ha
            go_wp2_with fail
            refine wp_region_class (More wr) (by kernel_rfl) (by kernel_rfl) (More.drew _) ?_
            repeat (first | go_big_quiet_skip | (go_big_quiet_want; first | (refine quiet_geo _ rfl _ _ (by rfl) g (by intro w' hw'; exact (RW.out.below hw').geo.at) ?_; simp only [Act.put, List.setIfInBounds_toArray, List.set_cons_zero, List.set_cons_succ]; go_big_quiet_on) | (refine quiet_int _ rfl _ (by rfl) 3 (by intro w' hw'; have := (RW.out.below hw').geo.c0; rw [CG.out] at this; exact this) ?_; simp only [Act.put, List.setIfInBounds_toArray, List.set_cons_zero, List.set_cons_succ]; go_big_quiet_on) | (refine quiet_load _ rfl _ _ (by rfl) X (by intro w' hw'; exact (RW.out.below hw').blk.at) ?_; simp only [Act.put, List.setIfInBounds_toArray, List.set_cons_zero, List.set_cons_succ]; go_big_quiet_on) | (go_big_quiet_op; first | go_big_quiet_on | (apply Exists.intro; refine ⟨fun _ _ => ?_, ?_⟩; (with_reducible exact rfl); go_big_quiet_on) | go_big_quiet_call ((intro hC; (first | (with_reducible refine (CL.out _).mono ?_) | (with_reducible refine (CM.out _ hC).mono ?_)); exact fun e w' h => ⟨h.1, hC.on h.2⟩)))))
            refine wpQuiet_nil ?_
            intro w5 hw5
            have R5 := Lib.hid (RW.out.below hw5)
            have D5 := Lib.hid (DR.out.below hw5)
            clear hw5
            go_wp2
            go_ret2
            rw [EW.out]
            exact ⟨none, 0, 0, rfl, rfl, DRow.nil _ _, R5.out.low⟩
        · by_cases ha : g32 X.f 252 = sumB X
          · have ta : (((g32 X.f 252 : Nat) : Int) != ((sumB X : Nat) : Int)) = false := by simp; omega
            by_cases hz : ∀ i, i < 220 → X.f (32 + i) = 0
            · have CZ := Lib.hid (fun W (hC : More wr W) => zeros_at X W (w.heap.size + 1) 32 220 224 true (zb_yes2 hz) (by omega) (RW.out.blk.below hC))
              have OK3 := Lib.hid (show Sealed X ∧ ∀ i, 8 * g.gr.toNat ≤ i → i < 252 → X.f i = 0 from ⟨ha, fun i q1 q2 => by rw [HNN.out] at q1; have := hz (i - 32) (by omega); rwa [show 32 + (i - 32) = i by omega] at this⟩)
              clear ha hz
              by_cases ho : MayD g (descsOf X 4)
              · rw [mayDB_true ho] at MD
                have EW := Lib.hid (readD_may M.out (x := X) ⟨DONE.out, OK3.out.1, OK3.out.2, by rw [HNN.out]; exact ho⟩)
                rw [HNN.out] at EW
                clear ho
                go_wp2_with fail
                refine wp_region_class (More wr) (by kernel_rfl) (by kernel_rfl) (More.drew _) ?_
                repeat (first | go_big_quiet_skip | (go_big_quiet_want; first | (refine quiet_geo _ rfl _ _ (by rfl) g (by intro w' hw'; exact (RW.out.below hw').geo.at) ?_; simp only [Act.put, List.setIfInBounds_toArray, List.set_cons_zero, List.set_cons_succ]; go_big_quiet_on) | (refine quiet_int _ rfl _ (by rfl) 4 (by intro w' hw'; have := (RW.out.below hw').geo.c0; rw [CG.out] at this; exact this) ?_; simp only [Act.put, List.setIfInBounds_toArray, List.set_cons_zero, List.set_cons_succ]; go_big_quiet_on) | (refine quiet_load _ rfl _ _ (by rfl) X (by intro w' hw'; exact (RW.out.below hw').blk.at) ?_; simp only [Act.put, List.setIfInBounds_toArray, List.set_cons_zero, List.set_cons_succ]; go_big_quiet_on) | (go_big_quiet_op; first | go_big_quiet_on | (apply Exists.intro; refine ⟨fun _ _ => ?_, ?_⟩; (with_reducible exact rfl); go_big_quiet_on) | go_big_quiet_call ((intro hC; (first | (with_reducible refine (CL.out _).mono ?_) | (with_reducible refine (CM.out _ hC).mono ?_) | (with_reducible refine (CZ.out _ hC).mono ?_) | (with_reducible refine (MD.out _ hC).mono ?_)); exact fun e w' h => ⟨h.1, hC.on h.2⟩)))))
                refine wpQuiet_nil ?_
                intro w5 hw5
                have R5 := Lib.hid (RW.out.below hw5)
                have D5 := Lib.hid (DR.out.below hw5)
                clear hw5
                go_wp2
                go_ret2
                rw [EW.out]
                exact ⟨A, 4, c, rfl, (descsOf_length X 4).symm, D5.out, R5.out.low⟩
              · rw [mayDB_false ho] at MD
                have EW := Lib.hid (readD_bad M.out (x := X) (fun q => ho (by have := q.2.2.2; rwa [HNN.out] at this)))
                clear ho
                go_wp2_with fail
                refine wp_region_class (More wr) (by kernel_rfl) (by kernel_rfl) (More.drew _) ?_
                repeat (first | go_big_quiet_skip | (go_big_quiet_want; first | (refine quiet_geo _ rfl _ _ (by rfl) g (by intro w' hw'; exact (RW.out.below hw').geo.at) ?_; simp only [Act.put, List.setIfInBounds_toArray, List.set_cons_zero, List.set_cons_succ]; go_big_quiet_on) | (refine quiet_int _ rfl _ (by rfl) 4 (by intro w' hw'; have := (RW.out.below hw').geo.c0; rw [CG.out] at this; exact this) ?_; simp only [Act.put, List.setIfInBounds_toArray, List.set_cons_zero, List.set_cons_succ]; go_big_quiet_on) | (refine quiet_load _ rfl _ _ (by rfl) X (by intro w' hw'; exact (RW.out.below hw').blk.at) ?_; simp only [Act.put, List.setIfInBounds_toArray, List.set_cons_zero, List.set_cons_succ]; go_big_quiet_on) | (go_big_quiet_op; first | go_big_quiet_on | (apply Exists.intro; refine ⟨fun _ _ => ?_, ?_⟩; (with_reducible exact rfl); go_big_quiet_on) | go_big_quiet_call ((intro hC; (first | (with_reducible refine (CL.out _).mono ?_) | (with_reducible refine (CM.out _ hC).mono ?_) | (with_reducible refine (CZ.out _ hC).mono ?_) | (with_reducible refine (MD.out _ hC).mono ?_)); exact fun e w' h => ⟨h.1, hC.on h.2⟩)))))
                refine wpQuiet_nil ?_
                intro w5 hw5
                have R5 := Lib.hid (RW.out.below hw5)
                have D5 := Lib.hid (DR.out.below hw5)
                clear hw5
                go_wp2
                go_ret2
                rw [EW.out]
                exact ⟨none, 0, 0, rfl, rfl, DRow.nil _ _, R5.out.low⟩
            · have CZ := Lib.hid (fun W (hC : More wr W) => zeros_at X W (w.heap.size + 1) 32 220 224 false (zb_no hz) (by omega) (RW.out.blk.below hC))
              have EW := Lib.hid (readD_bad M.out (x := X) (fun q => hz fun i hi => q.2.2.1 (32 + i) (by rw [HNN.out]; omega) (by omega)))
              clear ha hz
              go_wp2_with fail
              refine wp_region_class (More wr) (by kernel_rfl) (by kernel_rfl) (More.drew _) ?_
              repeat (first | go_big_quiet_skip | (go_big_quiet_want; first | (refine quiet_geo _ rfl _ _ (by rfl) g (by intro w' hw'; exact (RW.out.below hw').geo.at) ?_; simp only [Act.put, List.setIfInBounds_toArray, List.set_cons_zero, List.set_cons_succ]; go_big_quiet_on) | (refine quiet_int _ rfl _ (by rfl) 4 (by intro w' hw'; have := (RW.out.below hw').geo.c0; rw [CG.out] at this; exact this) ?_; simp only [Act.put, List.setIfInBounds_toArray, List.set_cons_zero, List.set_cons_succ]; go_big_quiet_on) | (refine quiet_load _ rfl _ _ (by rfl) X (by intro w' hw'; exact (RW.out.below hw').blk.at) ?_; simp only [Act.put, List.setIfInBounds_toArray, List.set_cons_zero, List.set_cons_succ]; go_big_quiet_on) | (go_big_quiet_op; first | go_big_quiet_on | (apply Exists.intro; refine ⟨fun _ _ => ?_, ?_⟩; (with_reducible exact rfl); go_big_quiet_on) | go_big_quiet_call ((intro hC; (first | (with_reducible refine (CL.out _).mono ?_) | (with_reducible refine (CM.out _ hC).mono ?_) | (with_reducible refine (CZ.out _ hC).mono ?_)); exact fun e w' h => ⟨h.1, hC.on h.2⟩)))))
              refine wpQuiet_nil ?_
              intro w5 hw5
              have R5 := Lib.hid (RW.out.below hw5)
              have D5 := Lib.hid (DR.out.below hw5)
              clear hw5
              go_wp2
              go_ret2
              rw [EW.out]
              exact ⟨none, 0, 0, rfl, rfl, DRow.nil _ _, R5.out.low⟩
          · have ta : (((g32 X.f 252 : Nat) : Int) != ((sumB X : Nat) : Int)) = true := by simp; omega
            have EW := Lib.hid (readD_bad (g := g) M.out (x := X) (fun q => ha q.2.1))
            clear ha
            go_wp2_with fail
            refine wp_region_class (More wr) (by kernel_rfl) (by kernel_rfl) (More.drew _) ?_
            repeat (first | go_big_quiet_skip | (go_big_quiet_want; first | (refine quiet_geo _ rfl _ _ (by rfl) g (by intro w' hw'; exact (RW.out.below hw').geo.at) ?_; simp only [Act.put, List.setIfInBounds_toArray, List.set_cons_zero, List.set_cons_succ]; go_big_quiet_on) | (refine quiet_int _ rfl _ (by rfl) 4 (by intro w' hw'; have := (RW.out.below hw').geo.c0; rw [CG.out] at this; exact this) ?_; simp only [Act.put, List.setIfInBounds_toArray, List.set_cons_zero, List.set_cons_succ]; go_big_quiet_on) | (refine quiet_load _ rfl _ _ (by rfl) X (by intro w' hw'; exact (RW.out.below hw').blk.at) ?_; simp only [Act.put, List.setIfInBounds_toArray, List.set_cons_zero, List.set_cons_succ]; go_big_quiet_on) | (go_big_quiet_op; first | go_big_quiet_on | (apply Exists.intro; refine ⟨fun _ _ => ?_, ?_⟩; (with_reducible exact rfl); go_big_quiet_on) | go_big_quiet_call ((intro hC; (first | (with_reducible refine (CL.out _).mono ?_) | (with_reducible refine (CM.out _ hC).mono ?_)); exact fun e w' h => ⟨h.1, hC.on h.2⟩)))))
            refine wpQuiet_nil ?_
            intro w5 hw5
            have R5 := Lib.hid (RW.out.below hw5)
            have D5 := Lib.hid (DR.out.below hw5)
            clear hw5
            go_wp2
            go_ret2
            rw [EW.out]
            exact ⟨none, 0, 0, rfl, rfl, DRow.nil _ _, R5.out.low⟩
  · rw [may_false hm]
    have EW := Lib.hid (readD_geo (x := X) hm)
    clear hm
    go_wp2
    go_ret2
    rw [EW.out]
    exact ⟨none, 0, 0, rfl, rfl, DRow.nil _ _, R2.out.low⟩
end Go.Proofs.YtmlmpflfejbbcaaDoor
