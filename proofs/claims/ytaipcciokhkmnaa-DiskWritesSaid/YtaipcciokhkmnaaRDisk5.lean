import Derived.Test.YtaipcciokhkmnaaRDisk4
namespace Go.Proofs.Ytaipcciokhkmnaa
open Go.RowKit

/-! Lists of blocks as rows of their cells. -/
def bcells (l : List Blk) : List Value := l.flatMap fun x => (arr x).toList
theorem bcells_length (l : List Blk) : (bcells l).length = l.length * 256 := by
  induction l with
  | nil => rfl
  | cons x l ih => unfold bcells at *; rw [List.flatMap_cons, List.length_append, ih, arr_length, List.length_cons]; omega
theorem bcells_get {l : List Blk} {i j : Nat} {x : Blk} (h : l[i]? = some x) (hj : j < 256) : (bcells l)[i * 256 + j]? = some (.int .u8 ((x.f j : Nat) : Int)) := by
  unfold bcells
  rw [flat_get (fun x : Blk => (arr x).toList) 256 (fun x => arr_length x) l i j x h hj, arr_list]
  exact bytesOf_get hj
theorem bcells_one (l : List Blk) : ∀ u ∈ bcells l, u.oneCell' = true := by
  intro u hu
  unfold bcells at hu
  obtain ⟨x, _, hx⟩ := List.mem_flatMap.1 hu
  have := arr_one x
  rw [Array.all_eq_true_iff_forall_mem] at this
  exact this u (by simpa using hx)
/-- The news of an append: what an image's blocks are. -/
theorem bcells_news {w : World} {g o : Nat} {l : List Blk} (h : ∀ i x, l[i]? = some x → At w g (o + i * 256) x) : ∀ j u, (bcells l)[j]? = some u → w.cell? ((⟨g, o, none⟩ : Addr).add j) = some u := by
  intro j u hu
  have hadd : (⟨g, o, none⟩ : Addr).add j = ⟨g, o + j, none⟩ := by unfold Addr.add; split <;> simp_all
  have hj : j < l.length * 256 := by
    rcases Nat.lt_or_ge j (l.length * 256) with q | q
    · exact q
    · rw [List.getElem?_eq_none (by rw [bcells_length]; exact q)] at hu; cases hu
  have e1 : j = j / 256 * 256 + j % 256 := by omega
  have hx := List.getElem?_eq_getElem (l := l) (i := j / 256) (by omega)
  have h2 := bcells_get hx (show j % 256 < 256 by omega)
  rw [← e1, hu] at h2
  have h3 := (h _ _ hx).cell (show j % 256 < 256 by omega)
  rw [hadd, h2, ← h3]
  congr 2
  omega
/-- A row of the call's own is an image that may be written. -/
theorem oimg_of_row {w : World} {base gg n cap : Nat} {l : List Blk} (h : w.ownsRow base 26 256 (.slice (some ⟨gg, 0, none⟩) n cap) n (bcells l)) : OImg w gg 0 l ∧ base ≤ gg ∧ gg < w.heap.size := by
  obtain ⟨h1, h2 | ⟨g, c, cur, e, hb, hg, _, _, hc, ht⟩⟩ := h
  · cases h2.1
  · injection e with e e2 e3
    injection e with e
    injection e with e
    subst e
    refine ⟨⟨_, cur, hg, fun i x hx j hj => ?_⟩, hb, ?_⟩
    · have := bcells_get hx hj
      rw [← ht] at this
      rw [Nat.zero_add, ← Array.getElem?_toList]
      have hlt : i * 256 + j < n * 256 := by
        rcases Nat.lt_or_ge (i * 256 + j) (n * 256) with q | q
        · exact q
        · rw [List.getElem?_eq_none (by rw [List.length_take]; omega)] at this; cases this
      rw [List.getElem?_take_of_lt hlt] at this
      exact this
    · rcases Nat.lt_or_ge gg w.heap.size with q | q
      · exact q
      · rw [Array.getElem?_eq_none q] at hg; cases hg
set_option maxRecDepth 100000 in
set_option maxHeartbeats 1000000 in
theorem rImage_any (w : World) (b : Nat) (s : DS) (av : Av) (h : RD w b s av) :
    Calls Try.prog 33 #[.pointer (some ⟨b, 0, none⟩)] w fun e w' => (∃ gg cap, e = .returned (.slice (some ⟨gg, 0, none⟩) s.safe.length cap) ∧ OImg w' gg 0 s.now ∧ w.heap.size ≤ gg) ∧ Below w.heap.size w w' := by
  obtain ⟨g, o, n, c, v, h⟩ := h
  obtain ⟨A, cv, rfl⟩ := h.wait.shape
  have c0 := (cell_of_row w b 0 _ _ (0, 0) h.cells).trans (by rfl : _ = some (Value.slice (some ⟨g, o, none⟩) n c))
  have c1 := (cell_of_row w b 1 _ _ (0, 0) h.cells).trans (by rfl : _ = some (Value.slice A s.wait.length cv))
  have hWl : s.wait.length ≤ 1000000 := by have := h.ok.2.2.2; omega
  have HN := Lib.hid h.len
  have H := Lib.hid h
  clear h
  have c0' := alloc1_cell c0 (.cells #[] 26)
  have B1 : Hid (Below w.heap.size w (w.alloc (.cells #[] 26))) := Lib.hid ((Below.refl _ _).alloc (Nat.le_refl _) _)
  have O1 : Hid ((w.alloc (.cells #[] 26)).ownsRow w.heap.size 26 256 (.slice (some ⟨w.heap.size, 0, none⟩) 0 0) 0 []) := Lib.hid ⟨rfl, .inr ⟨w.heap.size, 0, #[], rfl, Nat.le_refl _, heap_alloc_new w _, Nat.le_refl _, Nat.zero_le _, rfl, rfl⟩⟩
  have N1 := Lib.hid (bcells_news (w := w.alloc (.cells #[] 26)) (g := g) (o := o) fun i x hx => (H.out.img.at hx).alloc (.cells #[] 26))
  have HL : Hid (1 ≤ n ∧ n ≤ 2048) := Lib.hid (by have := H.out.ok; have := H.out.len; omega)
  obtain ⟨i0, hi0, hzz⟩ := Option.map_eq_some_iff.1 blk_row
  simp only [Prod.mk.injEq] at hzz
  obtain ⟨hz0, hz1, hz2⟩ := hzz
  have HZ0 := Lib.hid hz0
  have HZ1 := Lib.hid hz1
  have HZ2 := Lib.hid hz2
  have HI0 := Lib.hid hi0
  clear hz0 hz1 hz2 hi0
  have tok0 : True := trivial
  go_enter Try.func33, Try.ntmps33
  go_wp2_with (at_builtin; have _t := tok0; refine wpList_append_lies _ rfl (.tmp 5) (.tmp 9) 24 rfl w.heap.size 26 i0 _ 256 256 Try.underlying24 HI0.out HZ0.out HZ1.out HZ2.out (by show (bytesOf (fun _ => 0) 256).length = 256; exact bytesOf_length _ _) (by omega) _ 0 [] rfl O1.out ⟨g, o, none⟩ n c (bcells s.safe) rfl (by rw [bcells_length, HN.out]) N1.out (bcells_one _) (by have := HL.out; omega) (by have := HL.out; simp only [maxLen]; omega) (by have := HL.out; omega) (by simp) (w.heap.size + 1) (by simp) ?_; intro gg cap w5 hown1 hgrow hat hltg; clear tok0)
  rw [List.nil_append, Nat.zero_add] at hown1
  have hrow := oimg_of_row hown1
  have I1 : Hid (OImg w5 gg 0 (over s.safe (s.wait.take 0))) := Lib.hid hrow.1
  have G1 : Hid (w.heap.size ≤ gg) := Lib.hid hrow.2.1
  have B5 : Hid (Below w.heap.size w w5) := Lib.hid (B1.out.grown hgrow B1.out.size (by intro g e; cases e; exact Nat.le_refl _))
  clear hown1 hgrow hat hltg hrow
  go_loopw [4] (fun i wr => ∃ k : Nat, k ≤ s.wait.length ∧ i = .int .i64 k ∧ Hid (OImg wr gg 0 (over s.safe (s.wait.take k))) ∧ Hid (Below w.heap.size w wr)) (fun i _ => s.wait.length - (intOf i).toNat)
  case atStart => exact ⟨0, Nat.zero_le _, rfl, I1, B5⟩
  case round =>
    obtain ⟨k, hk, rfl, I, B⟩ := hrel
    have LB := H.out.lt
    have c1' : wr.cell? ⟨b, 1, none⟩ = some (Value.slice A s.wait.length cv) := (B.out.cell (p := ⟨b, 1, none⟩) LB).trans c1
    by_cases hlt : k < s.wait.length
    · have hW := List.getElem?_eq_getElem hlt
      have KT : Hid (over s.safe (s.wait.take (k + 1)) = (over s.safe (s.wait.take k)).set s.wait[k].1 s.wait[k].2) := Lib.hid (by rw [List.take_succ_eq_append_getElem hlt, over_append]; rfl)
      generalize s.wait[k] = wr2 at hW KT
      obtain ⟨qb, X⟩ := wr2
      dsimp only at KT
      obtain ⟨gw, rfl⟩ : ∃ gw, A = some ⟨gw, 0, none⟩ := by
        rcases H.out.wait.2 with ⟨h1, h2⟩ | ⟨g', cap, cur, h1, _⟩
        · omega
        · injection h1 with h1; exact ⟨g', h1⟩
      have LG := (H.out.wait.base_le gw rfl).2
      have wq := H.out.wait.cell (g := gw) rfl hW
      have wc1 : wr.cell? ⟨gw, k * 257, none⟩ = some (.int .i64 (qb : Int)) := (B.out.cell (p := ⟨gw, k * 257, none⟩) LG).trans wq.1
      have hqn : qb < n := by rw [HN.out]; exact H.out.ok.2.2.1 _ (List.mem_of_getElem? hW)
      have THERE : wr.there gg (qb * 256) 256 := by have := I.out.there (i := qb) (by rw [over_length, ← HN.out]; exact hqn); rw [Nat.zero_add] at this; exact this
      obtain ⟨cl, hcl⟩ : ∃ cl : List Value, arr X = cl.toArray := ⟨(arr X).toList, by simp⟩
      have hcl2 : (arr X).toList = cl := by rw [hcl]
      have wc2 : wr.rangeAt gw (k * 257 + 1) cl := by have := wq.2.keep (B.out.block gw LG); unfold At at this; rw [hcl2] at this; exact this
      have hcll : cl.length = 256 := by have := arr_length X; rw [hcl2] at this; exact this
      have hc1 : ∀ v ∈ cl, v.oneCell' = true := by
        have := arr_one X
        rw [Array.all_eq_true_iff_forall_mem] at this
        intro v hv
        exact this v (by rw [hcl]; simpa using hv)
      have hu := Try.underlying26
      have hi : (Try.prog.info? 26).map (·.size) = some cl.length := by rw [hcll]; exact blk_size
      have HCL := Lib.hid hcl2
      have THW : gw ≠ gg := by have := G1.out; omega
      have THB : b ≠ gg := by have := G1.out; omega
      have j1 : (0 : Int) ≤ k := by omega
      have j2 : (k : Int) < s.wait.length := by omega
      have j4 : (0 : Int) ≤ qb := by omega
      have j5 : (qb : Int) < n := by omega
      clear hcl hcl2 wq hW
      go_wp2_with fail
      go_region_held3 (fun w' => w'.cell? ⟨b, 1, none⟩ = some (Value.slice (some ⟨gw, 0, none⟩) s.wait.length cv) ∧ w'.cell? ⟨gw, k * 257, none⟩ = some (.int .i64 (qb : Int)) ∧ w'.rangeAt gw (k * 257 + 1) cl ∧ w'.there gg (qb * 256) 256)
        (first
          | go_keep_ranges
          | (go_split_ands; exact ⟨(cell_out THB).trans (by assumption), (cell_out THW).trans (by assumption), World.rangeAt_setCells_apart (by assumption) _ _ _ (.inl THW), World.there_setCells (by assumption) _ _ _⟩))
        (fail)
      have I2 : Hid (OImg (wr.drew.setCells gg (qb * 256) cl) gg 0 (over s.safe (s.wait.take (k + 1)))) := Lib.hid (by
        have h := OImg.set (w := wr.drew) (I.out.keep rfl) (i := qb) (by rw [over_length, ← HN.out]; exact hqn) X
        rw [HCL.out, Nat.zero_add] at h
        rw [KT.out]
        exact h)
      have B2 : Hid (Below w.heap.size w (wr.drew.setCells gg (qb * 256) cl)) := Lib.hid (below_cells (B.out.drew) G1.out _ _)
      generalize wr.drew.setCells gg (qb * 256) cl = w3 at I2 B2 ⊢
      clear I B
      go_wp2_with fail
      go_roundw
      case rel => exact ⟨k + 1, by omega, by go_num, I2, B2⟩
      case measure => simp [intOf]; omega
    · obtain rfl : k = s.wait.length := by omega
      rw [List.take_length] at I
      go_wp2_with fail
      go_ret
      exact ⟨⟨gg, cap, by rw [HN.out]; rfl, I.out, G1.out⟩, B.out⟩
end Go.Proofs.Ytaipcciokhkmnaa
