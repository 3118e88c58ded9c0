import Derived.Test.YtjiooadakklmlaaJbQ5
import Derived.BigQuiet
namespace Go.Proofs.Ytjiooadakklmlaa
open Go.RowKit

/-! The document's own WriteRevoke. -/
def RiseTo (l : List Nat) (k : Nat) : Prop := ∀ j, j + 1 < k → l.getD j 0 < l.getD (j + 1) 0
theorem RiseTo.all {l : List Nat} (h : RiseTo l l.length) : Rise l := h
theorem RiseTo.next {l : List Nat} {m : Nat} (h : RiseTo l (m + 1)) (h1 : l.getD m 0 < l.getD (m + 1) 0) : RiseTo l (m + 1 + 1) := fun j hj => by
  by_cases e : j = m
  · subst e; exact h1
  · exact h j (by omega)
theorem block_own {w : World} {base n cap : Nat} {A : Option Addr} {xs : List Value} (h : w.ownsRow base 22 1 (.slice A n cap) n xs) (L : List Nat) (hx : xs = nC L) (hn : n = L.length) (h64 : L.length ≤ 64) (hs : Small32 L) : Calls Try.prog 40 #[.slice A n cap] w fun e w' => e = .returned (.agg (arr (listB L))) ∧ Below w.heap.size w w' := by
  subst hx hn
  obtain ⟨A', c', e, _, hN⟩ := own_nums h
  injection e with e1 _ e3
  subst e1 e3
  exact rBlock _ _ L w h64 hs hN
theorem news_of {w : World} {b o : Nat} {l : List Nat} {o' : Obj} (h : ∀ i v, l[i]? = some v → w.cell? ⟨b, o + i, none⟩ = some (.int .u32 ((v : Nat) : Int))) (hb : b < w.heap.size) (j : Nat) (u : Value) (hj : (nC l)[j]? = some u) : (w.alloc o').cell? ((⟨b, o, none⟩ : Addr).add j) = some u := by
  unfold nC at hj
  rw [List.getElem?_map] at hj
  obtain ⟨v, hv, rfl⟩ := Option.map_eq_some_iff.1 hj
  rw [show (⟨b, o, none⟩ : Addr).add j = ⟨b, o + j, none⟩ by unfold Addr.add; split <;> simp_all]
  exact ((below_new w o').cell (p := ⟨b, o + j, none⟩) hb).trans (h j v hv)
theorem app_frame {w0 wr w8 : World} {o : Obj} {X : Blk} {r : Nat} (hB : Below w0.heap.size w0 wr) (hR : BVar wr r X) (hg : (wr.alloc o).grownBy w8 (some wr.heap.size)) : Below w0.heap.size w0 w8 ∧ BVar w8 r X := by
  have hb := low_go hB (below_new wr o)
  have hr := hR.below (below_new wr o)
  refine ⟨hb.grown hg hb.size (fun k e => ?_), (hg.block r hr.lt (fun e => ?_)).trans hr⟩
  · injection e with e
    rw [← e]; exact hB.size
  · injection e with e
    have := hR.lt
    omega
set_option maxRecDepth 100000 in
set_option maxHeartbeats 4000000 in
theorem rWriteRevoke (s : Nat) (A : Option Addr) (c : Nat) (l : List Nat) (w : World) (hl : l.length ≤ 1000) (hs : Small32 l) (hN : NumsAt w A l) : Calls Try.prog 16 #[.int .u32 (s : Int), .slice A l.length c] w fun e w' => e = .returned (.tuple #[.agg (arr (writeJR s l).1), .int .i64 (writeJR s l).2]) ∧ Below w.heap.size w w' := by
  have hz := fun W => zero_blk W
  have R := Lib.hid (show BVar (w.alloc (.cells (arr .zero) 28)) w.heap.size .zero from heap_alloc_new w _)
  have B := Lib.hid (below_new w (.cells (arr .zero) 28))
  have CS := Lib.hid fun W => rSeq s W
  have H := Lib.hid hN
  have HS := Lib.hid hs
  clear hN hs
  by_cases h1 : MaySeq s
  rotate_left
  · have E := Lib.hid (writeJR_no fun q : MayR s l => h1 q.seq)
    rw [decide_eq_false h1] at CS
    clear h1
    go_enter Try.func16, Try.ntmps16
    go_upto_region 1 with fail
    generalize w.alloc (.cells (arr .zero) 28) = w1 at R B ⊢
    clear hz
    go_wp2_with (first
      | (go_at_call 39; with_reducible refine (CS.out _).mono ?_; rintro e w2 ⟨rfl, rfl⟩)
      | (refine build_zeroB rfl rfl ?_)
      | (refine store_row rfl (.tmp 4) (.tmp 20) rfl w.heap.size .zero .zero 28 rfl rfl R.out ?_))
    exact bodyPost_ret (res_blk2 Try.results16 _ _ w.heap.size .zero (.int .i64 2) _ rfl rfl (row_heap _ _ _ _ R.out)) rfl ⟨by rw [E.out], row_low B.out (Nat.le_refl _) _⟩
  rw [decide_eq_true h1] at CS
  by_cases h2 : 1 ≤ l.length
  rotate_left
  · have E := Lib.hid (writeJR_no fun q : MayR s l => h2 q.lo)
    have d2 : decide ((l.length : Int) < 1) = true := by simp; omega
    have e2 : (l.length : Int) < 1 := by omega
    clear h1 h2
    go_enter Try.func16, Try.ntmps16
    go_upto_region 1 with fail
    generalize w.alloc (.cells (arr .zero) 28) = w1 at R B ⊢
    clear hz
    go_wp2_with (first
      | (go_at_call 39; with_reducible refine (CS.out _).mono ?_; rintro e w2 ⟨rfl, rfl⟩)
      | (refine build_zeroB rfl rfl ?_)
      | (refine store_row rfl (.tmp 4) (.tmp 20) rfl w.heap.size .zero .zero 28 rfl rfl R.out ?_))
    exact bodyPost_ret (res_blk2 Try.results16 _ _ w.heap.size .zero (.int .i64 2) _ rfl rfl (row_heap _ _ _ _ R.out)) rfl ⟨by rw [E.out], row_low B.out (Nat.le_refl _) _⟩
  have d2 : decide ((l.length : Int) < 1) = false := by simp; omega
  have e2 : ¬ (l.length : Int) < 1 := by omega
  by_cases h3 : l.length ≤ 60
  rotate_left
  · have E := Lib.hid (writeJR_no fun q : MayR s l => h3 q.hi)
    have d3 : decide ((60 : Int) < (l.length : Int)) = true := by simp; omega
    have e3 : (60 : Int) < (l.length : Int) := by omega
    clear h1 h2 h3
    go_enter Try.func16, Try.ntmps16
    go_upto_region 1 with fail
    generalize w.alloc (.cells (arr .zero) 28) = w1 at R B ⊢
    clear hz
    go_wp2_with (first
      | (go_at_call 39; with_reducible refine (CS.out _).mono ?_; rintro e w2 ⟨rfl, rfl⟩)
      | (refine build_zeroB rfl rfl ?_)
      | (refine store_row rfl (.tmp 4) (.tmp 20) rfl w.heap.size .zero .zero 28 rfl rfl R.out ?_))
    exact bodyPost_ret (res_blk2 Try.results16 _ _ w.heap.size .zero (.int .i64 2) _ rfl rfl (row_heap _ _ _ _ R.out)) rfl ⟨by rw [E.out], row_low B.out (Nat.le_refl _) _⟩
  have d3 : decide ((60 : Int) < (l.length : Int)) = false := by simp; omega
  have e3 : ¬ (60 : Int) < (l.length : Int) := by omega
  have MR : Hid (Rise l → MayR s l) := Lib.hid fun q => ⟨h1, h2, h3, q⟩
  have S1 := Lib.hid h1
  have L1 := Lib.hid h2
  have L60 := Lib.hid h3
  clear h1
  obtain ⟨i0, hi0, hzz⟩ := Option.map_eq_some_iff.1 u32_info
  simp only [Prod.mk.injEq] at hzz
  obtain ⟨hz0, hz1, hz2⟩ := hzz
  have HZ0 := Lib.hid hz0
  have HZ1 := Lib.hid hz1
  have HZ2 := Lib.hid hz2
  have HI0 := Lib.hid hi0
  clear hz0 hz1 hz2 hi0
  go_enter Try.func16, Try.ntmps16
  go_upto_region 1 with fail
  generalize w.alloc (.cells (arr .zero) 28) = w1 at R B ⊢
  clear hz
  go_upto_region 3 with (go_at_call 39; with_reducible refine (CS.out _).mono ?_; rintro e w2 ⟨rfl, rfl⟩)
  clear CS d2 d3
  go_wp2_with fail
  go_loopw [6] (fun kv wr => ∃ k : Nat, 1 ≤ k ∧ k ≤ l.length ∧ kv = .int .i64 k ∧ Hid (BVar wr w.heap.size .zero) ∧ Hid (Below w.heap.size w wr) ∧ Hid (RiseTo l k)) (fun kv _ => l.length - (intOf kv).toNat)
  case atStart => exact ⟨1, by omega, by omega, rfl, R, B, Lib.hid fun j h => by omega⟩
  case round =>
    obtain ⟨k, k1, hk, rfl, R2, B2, RT⟩ := hrel
    clear R B
    by_cases hlt : k < l.length
    · obtain ⟨m, hm⟩ : ∃ m, k = m + 1 := ⟨k - 1, by omega⟩
      obtain ⟨b, o, rfl, hb, hc⟩ := (H.out.below B2.out) (by omega)
      obtain ⟨v, hv⟩ : ∃ v, l[k]? = some v := ⟨l[k], List.getElem?_eq_getElem hlt⟩
      obtain ⟨u, hu⟩ : ∃ u, l[m]? = some u := ⟨l[m]'(by omega), List.getElem?_eq_getElem (by omega)⟩
      have dv := hc k v hv
      have du := hc m u hu
      have gv : l.getD (m + 1) 0 = v := by rw [← hm, List.getD_eq_getElem?_getD, hv]; rfl
      have gu : l.getD m 0 = u := by rw [List.getD_eq_getElem?_getD, hu]; rfl
      have w1 : IntKind.i64.wrap ((k : Int) - 1) = (m : Int) := by rw [IntKind.wrap_i64]; omega
      have m0 : (0 : Int) ≤ (m : Int) := by omega
      have m1 : (m : Int) < (l.length : Int) := by omega
      have k0 : (0 : Int) ≤ (k : Int) := by omega
      have kl : (k : Int) < (l.length : Int) := by omega
      by_cases q : v ≤ u
      · have t1 : decide ((v : Int) ≤ (u : Int)) = true := by simp; omega
        have t2 : (v : Int) ≤ (u : Int) := by omega
        have E := Lib.hid (writeJR_no fun r : MayR s l => by have := r.rise m (by omega); rw [gv, gu] at this; omega)
        clear hc hv hu gv gu q hm
        go_wp2_with fail
        go_quiet (fail)
        go_wp2_with (first
          | (refine build_zeroB rfl rfl ?_)
          | (refine store_row rfl (.tmp 4) (.tmp 37) rfl w.heap.size .zero .zero 28 rfl rfl (R2.out.drewN _) ?_))
        exact bodyPost_ret (res_blk2 Try.results16 _ _ w.heap.size .zero (.int .i64 2) _ rfl rfl (row_heap _ _ _ _ (R2.out.drewN _))) rfl ⟨by rw [E.out], row_low (low_drewN B2.out _) (Nat.le_refl _) _⟩
      · have t1 : decide ((v : Int) ≤ (u : Int)) = false := by simp; omega
        have t2 : ¬ (v : Int) ≤ (u : Int) := by omega
        have RT2 : Hid (RiseTo l (k + 1)) := Lib.hid (by
          have := RT.out
          rw [hm] at this ⊢
          exact this.next (by rw [gv, gu]; omega))
        have l1000 : k < 1000 := by omega
        clear hc hv hu gv gu q hm
        go_wp2_with fail
        go_quiet (fail)
        go_wp2_with fail
        go_roundw
        case rel => exact ⟨k + 1, by omega, by omega, by congr 1, Lib.hid (R2.out.drewN _), Lib.hid (low_drewN B2.out _), RT2⟩
        case measure => simp [intOf]; omega
    · obtain rfl : k = l.length := by omega
      have kl : ¬ (l.length : Int) < (l.length : Int) := by omega
      have hmr := MR.out RT.out
      have E := Lib.hid (writeJR_yes hmr)
      have SL := Lib.hid (revokeL_lt hmr HS.out)
      have w32 : IntKind.u32.wrap (l.length : Int) = (l.length : Int) := by rw [IntKind.wrap_u32]; omega
      obtain ⟨b, o, rfl, hb, hc⟩ := (H.out.below B2.out) (by omega)
      have HC := Lib.hid hc
      have HB := Lib.hid hb
      have l60 := L60.out
      clear hmr hc hb hlt hk k1
      go_wp2_with (first
        | (refine build_nums4 rfl (.const (.int .u32 1280199249)) (.const (.int .u32 3)) (.tmp 38) (.tmp 41) rfl 1280199249 3 s l.length rfl rfl rfl rfl ?_)
        | (at_builtin; refine wpList_append_lies _ rfl (.tmp 42) (.tmp 43) 26 rfl wr.heap.size 22 i0 _ 1 4 Try.underlying26 HI0.out HZ0.out HZ1.out HZ2.out (by rfl) (by omega) _ 4 (nC [magic, 3, s, l.length]) (by rfl) (nums_own [magic, 3, s, l.length] _ rfl (Nat.le_refl _) (by simp only [maxLen]; show 4 ≤ _; omega)) ⟨b, o, none⟩ l.length c (nC l) (by rfl) (nC_length l) (fun j u hj => news_of HC.out HB.out j u hj) (nC_one l) L1.out (by simp only [maxLen]; omega) (by omega) (by simp) (wr.heap.size + 1) (by simp) ?_; intro gg cap w8 hown hgrow hat hlt2; have CB := Lib.hid (block_own hown (revokeL s l) (by rw [← nC_append]; rfl) (by unfold revokeL; rw [List.length_append]; rfl) (by unfold revokeL; rw [List.length_append]; show 4 + l.length ≤ 64; omega) SL.out); have F8 := Lib.hid (app_frame B2.out R2.out hgrow); clear hgrow hat hlt2 hown)
        | (go_at_call 40; with_reducible refine (CB.out).mono ?_; rintro e w9 ⟨rfl, hb⟩; have R9 := Lib.hid (F8.out.2.below hb))
        | (refine store_row rfl (.tmp 4) (.tmp 45) rfl w.heap.size (listB (revokeL s l)) .zero 28 rfl rfl R9.out ?_))
      exact bodyPost_ret (res_blk2 Try.results16 _ _ w.heap.size (listB (revokeL s l)) (.int .i64 0) _ rfl rfl (row_heap _ _ _ _ R9.out)) rfl ⟨by rw [E.out], row_low (low_go F8.out.1 hb) (Nat.le_refl _) _⟩
end Go.Proofs.Ytjiooadakklmlaa
