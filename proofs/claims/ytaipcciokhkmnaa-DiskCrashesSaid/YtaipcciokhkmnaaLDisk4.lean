import Derived.Test.YtaipcciokhkmnaaLDisk3
import Derived.RegionTactic
namespace Go.Proofs.Ytaipcciokhkmnaa
open Go.RowKit

structure NewAt (w : World) (b g g2 n base : Nat) : Prop where
  cells : w.heap[b]? = some (.cells #[.slice (some ⟨g, 0, none⟩) n n, .slice (some ⟨g2, 0, none⟩) n n, .slice none 0 0, .int .i64 0, .int .i64 (-1)] 45 (0, 0))
  r1 : w.heap[g]? = some (.cells (madeBlks n) 26 (0, 0))
  r2 : w.heap[g2]? = some (.cells (madeBlks n) 26 (0, 0))
  ne : b ≠ g ∧ b ≠ g2 ∧ g ≠ g2
  lo : base ≤ b ∧ base ≤ g ∧ base ≤ g2
  hi : b < w.heap.size ∧ g < w.heap.size ∧ g2 < w.heap.size
theorem lNew_no (n : Int) (w : World) (h : n < 1 ∨ 2048 < n) : Calls Try.prog 27 #[.int .i64 n] w fun e w' => e = .returned (.tuple #[.pointer none, .int .i64 2]) ∧ w' = w := by
  by_cases h0 : n < 1
  · have t0 : decide (n < 1) = true := by simp; omega
    go_enter Try.func27, Try.ntmps27
    go_wp2
    refine bodyPost_ret (results_tmp2 Try.results27 _ _ _) rfl ?_
    exact ⟨rfl, rfl⟩
  · have t0 : decide (n < 1) = false := by simp; omega
    have t1 : decide (2048 < n) = true := by simp; omega
    go_enter Try.func27, Try.ntmps27
    go_wp2
    refine bodyPost_ret (results_tmp2 Try.results27 _ _ _) rfl ?_
    exact ⟨rfl, rfl⟩
theorem NewAt.drew {w : World} {b g g2 n base : Nat} (h : NewAt w b g g2 n base) : NewAt w.drew b g g2 n base := ⟨h.cells, h.r1, h.r2, h.ne, h.lo, h.hi⟩
theorem newAt_a {w : World} {n : Nat} (o1 o2 o3 : Obj) (h1 : o1 = .cells (madeBlks n) 26 (0, 0)) (h2 : o2 = .cells (madeBlks n) 26 (0, 0)) (h3 : o3 = .cells #[.slice (some ⟨w.heap.size, 0, none⟩) n n, .slice (some ⟨w.heap.size + 1, 0, none⟩) n n, .slice none 0 0, .int .i64 0, .int .i64 (-1)] 45 (0, 0)) : NewAt (((w.alloc o1).alloc o2).alloc o3) (w.heap.size + 2) w.heap.size (w.heap.size + 1) n w.heap.size := by
  have e2 : ((w.alloc o1).alloc o2).heap.size = w.heap.size + 2 := by simp
  have e1 : (w.alloc o1).heap.size = w.heap.size + 1 := by simp
  refine ⟨?_, ?_, ?_, ⟨by omega, by omega, by omega⟩, ⟨by omega, by omega, by omega⟩, ⟨by simp, by simp; omega, by simp⟩⟩
  · rw [← e2, heap_alloc_new, h3]
  · rw [heap_alloc_old _ _ (by omega), heap_alloc_old _ _ (by omega), heap_alloc_new, h1]
  · rw [heap_alloc_old _ _ (by omega), ← e1, heap_alloc_new, h2]
theorem newAt_b {w : World} {n : Nat} (o1 o2 o3 : Obj) (h1 : o1 = .cells (madeBlks n) 26 (0, 0)) (h2 : o2 = .cells (madeBlks n) 26 (0, 0)) (h3 : o3 = .cells #[.slice (some ⟨w.heap.size + 1, 0, none⟩) n n, .slice (some ⟨w.heap.size, 0, none⟩) n n, .slice none 0 0, .int .i64 0, .int .i64 (-1)] 45 (0, 0)) : NewAt (((w.alloc o1).alloc o2).alloc o3) (w.heap.size + 2) (w.heap.size + 1) w.heap.size n w.heap.size := by
  have e2 : ((w.alloc o1).alloc o2).heap.size = w.heap.size + 2 := by simp
  have e1 : (w.alloc o1).heap.size = w.heap.size + 1 := by simp
  refine ⟨?_, ?_, ?_, ⟨by omega, by omega, by omega⟩, ⟨by omega, by omega, by omega⟩, ⟨by simp, by simp, by simp; omega⟩⟩
  · rw [← e2, heap_alloc_new, h3]
  · rw [heap_alloc_old _ _ (by omega), ← e1, heap_alloc_new, h2]
  · rw [heap_alloc_old _ _ (by omega), heap_alloc_old _ _ (by omega), heap_alloc_new, h1]
set_option maxRecDepth 100000 in
theorem lNew_yes (n : Nat) (w : World) (h1 : 1 ≤ n) (h2 : n ≤ 2048) : Calls Try.prog 27 #[.int .i64 (n : Int)] w fun e w' => (∃ b g g2, e = .returned (.tuple #[.pointer (some ⟨b, 0, none⟩), .int .i64 0]) ∧ NewAt w' b g g2 n w.heap.size) ∧ Below w.heap.size w w' := by
  have t0 : decide ((n : Int) < 1) = false := by simp; omega
  have t1 : decide (2048 < (n : Int)) = false := by simp; omega
  have t2 : decide (n < 1) = false := by simp; omega
  have t3 : decide (2048 < n) = false := by simp; omega
  have hmk := fun W => make_blks .i64 .i64 n (by omega) W
  go_enter Try.func27, Try.ntmps27
  go_wp2
  go_region
  all_goals go_wp2
  · exact bodyPost_ret (results_tmp2 Try.results27 _ _ _) rfl ⟨⟨w.heap.size + 2, w.heap.size, w.heap.size + 1, rfl, (newAt_a _ _ _ rfl rfl rfl).drew⟩, ((((Below.refl _ w).alloc (Nat.le_refl _) _).alloc (by simp) _).alloc (by simp; omega) _).drew⟩
  · exact bodyPost_ret (results_tmp2 Try.results27 _ _ _) rfl ⟨⟨w.heap.size + 2, w.heap.size + 1, w.heap.size, rfl, (newAt_b _ _ _ rfl rfl rfl).drew⟩, ((((Below.refl _ w).alloc (Nat.le_refl _) _).alloc (by simp) _).alloc (by simp; omega) _).drew⟩
/-- The struct as it was made, or with images copied in. -/
theorem NewAt.disk {w0 w w' : World} {b g g2 n : Nat} {l l2 : List Blk} (h : NewAt w b g g2 n w0.heap.size) (hs : w'.heap.size = w.heap.size) (hc : w'.heap[b]? = w.heap[b]?) (h1 : OImg w' g 0 l) (h2 : OImg w' g2 0 l2) (hl : n = l.length) (hl2 : n = l2.length) (hn : 1 ≤ n) (hm : n ≤ 2048) (av : Av) (hav : ∀ i, av i → i < w0.heap.size) (hw : w0.heap.size ≤ w.heap.size) : LDAt w' b ⟨l, l2, [], 0, none⟩ g 0 g2 0 n n n (.slice none 0 0) av := by
  obtain ⟨n1, n2, n3⟩ := h.ne
  obtain ⟨l1, l2', l3⟩ := h.lo
  have hout : ∀ i, w0.heap.size ≤ i → ¬ av i := fun i hi q => by have := hav i q; omega
  exact ⟨hc.trans h.cells, hl, hl2, h1, h2, LOwn.nil _ _, ⟨n1, n2, n3, by simp [Value.ownBlock], by simp [Value.ownBlock], by simp [Value.ownBlock]⟩, ⟨hout b l1, hout g l2', hout g2 l3, by simp [Value.ownBlock]⟩, fun i hi => by have := hav i hi; omega, ⟨hn, hm, by simp, by simp, by simp⟩, by simp⟩
theorem lLoad_no (A : Option Addr) (n c : Nat) (w : World) (h : n < 1 ∨ 2048 < n) (_ : n ≤ 140737488355328) :
    Calls Try.prog 11 #[.slice A n c] w fun e w' => e = .returned (.tuple #[.pointer none, .int .i64 2]) ∧ w' = w := by
  have P := Lib.hid (lNew_no (n : Int) w (by omega))
  clear h
  go_enter Try.func11, Try.ntmps11
  go_wp2_with fail
  refine P.out.mono ?_
  rintro e w1 ⟨rfl, rfl⟩
  go_wp2_with fail
  refine bodyPost_ret (results_tmp2 Try.results11 _ _ _) rfl ?_
  exact ⟨rfl, rfl⟩
set_option maxRecDepth 100000 in
theorem lLoad_yes (A : Option Addr) (n c : Nat) (l : List Blk) (w : World) (hn : n = l.length) (hA : Img w A l) (h1 : 1 ≤ n) (h2 : n ≤ 2048) :
    Calls Try.prog 11 #[.slice A n c] w fun e w' => (∃ b g g2, e = .returned (.tuple #[.pointer (some ⟨b, 0, none⟩), .int .i64 0]) ∧ LDAt w' b ⟨l, l, [], 0, none⟩ g 0 g2 0 n n n (.slice none 0 0) (· < w.heap.size)) ∧ Below w.heap.size w w' := by
  have P := Lib.hid (lNew_yes n w h1 h2)
  obtain ⟨sg, so, rfl, hlt, hc⟩ := hA (by omega)
  have HC := Lib.hid hc
  have HN := Lib.hid hn
  clear hc hA hn
  go_enter Try.func11, Try.ntmps11
  go_wp2_with fail
  refine P.out.mono ?_
  rintro e w1 ⟨⟨b, g, g2, rfl, hN⟩, hB⟩
  have NA := Lib.hid hN
  have B1 := Lib.hid hB
  clear hN hB
  have c0 := (cell_of_row w1 b 0 _ _ (0, 0) NA.out.cells).trans (by rfl : _ = some (Value.slice (some ⟨g, 0, none⟩) n n))
  have c1 := (cell_of_row w1 b 1 _ _ (0, 0) NA.out.cells).trans (by rfl : _ = some (Value.slice (some ⟨g2, 0, none⟩) n n))
  go_wp2_with (first
    | (refine wpList_copy_blks rfl (.tmp 18) (.tmp 19) rfl g n n sg so c rfl rfl (madeBlks n) 26 NA.out.r1 (madeBlks_size n) l HN.out.symm (fun i x hx => (HC.out i x hx).keep (B1.out.block sg hlt)) w.heap.size w B1.out NA.out.lo.2.1 ?_; intro w2 hs2 ho2 hi2 hb2; have S2 := Lib.hid hs2; have O2 := Lib.hid ho2; have I2 := Lib.hid hi2.out; have B2 := Lib.hid hb2; have c1' : w2.cell? ⟨b, 1, none⟩ = some (Value.slice (some ⟨g2, 0, none⟩) n n) := (cell_of_row w2 b 1 _ _ (0, 0) ((ho2 b NA.out.ne.1).trans NA.out.cells)).trans (by rfl); clear hs2 ho2 hi2 hb2 c0 c1)
    | (refine wpList_copy_blks rfl (.tmp 24) (.tmp 25) rfl g2 n n sg so c rfl rfl (madeBlks n) 26 ((O2.out g2 (Ne.symm NA.out.ne.2.2)).trans NA.out.r2) (madeBlks_size n) l HN.out.symm (fun i x hx => (HC.out i x hx).keep (B2.out.block sg hlt)) w.heap.size w B2.out NA.out.lo.2.2 ?_; intro w3 hs3 ho3 hi3 hb3; have S3 := Lib.hid hs3; have O3 := Lib.hid ho3; have I3 := Lib.hid hi3.out; have B3 := Lib.hid hb3; clear hs3 ho3 hi3 hb3 c1'))
  refine bodyPost_ret (results_tmp2 Try.results11 _ _ _) rfl ⟨⟨b, g, g2, rfl, ?_⟩, B3.out⟩
  exact NA.out.disk (S3.out.trans S2.out) ((O3.out b NA.out.ne.2.1).trans (O2.out b NA.out.ne.1)) (I2.out.keep (O3.out g NA.out.ne.2.2)) I3.out HN.out HN.out h1 h2 _ (fun _ h => h) B1.out.size
end Go.Proofs.Ytaipcciokhkmnaa
