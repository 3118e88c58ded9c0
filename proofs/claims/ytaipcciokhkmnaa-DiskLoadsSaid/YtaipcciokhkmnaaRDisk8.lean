import Derived.Test.YtaipcciokhkmnaaRDisk7
namespace Go.Proofs.Ytaipcciokhkmnaa
open Go.RowKit

theorem rLoad_no (A : Option Addr) (n c : Nat) (w : World) (h : n < 1 ∨ 2048 < n) (_ : n ≤ 140737488355328) :
    Calls Try.prog 12 #[.slice A n c] w fun e w' => e = .returned (.tuple #[.pointer none, .int .i64 2]) ∧ w' = w := by
  by_cases h0 : n = 0
  · subst h0
    go_enter Try.func12, Try.ntmps12
    go_wp2
    refine bodyPost_ret (results_tmp2 Try.results12 _ _ _) rfl ?_
    exact ⟨rfl, rfl⟩
  · have t0 : ((n : Int) == 0) = false := by rw [beq_eq_false_iff_ne]; omega
    have t1 : decide ((2048 : Int) < n) = true := by simp; omega
    have t2 : decide (2048 < n) = true := by simp; omega
    go_enter Try.func12, Try.ntmps12
    go_wp2
    refine bodyPost_ret (results_tmp2 Try.results12 _ _ _) rfl ?_
    exact ⟨rfl, rfl⟩
set_option maxRecDepth 100000 in
set_option maxHeartbeats 1000000 in
theorem rLoad_yes (A : Option Addr) (n c : Nat) (l : List Blk) (w : World) (hn : n = l.length) (hA : Img w A l) (h1 : 1 ≤ n) (h2 : n ≤ 2048) :
    Calls Try.prog 12 #[.slice A n c] w fun e w' => (∃ b, e = .returned (.tuple #[.pointer (some ⟨b, 0, none⟩), .int .i64 0]) ∧ RD w' b ⟨l, [], 0, none⟩ (· < w.heap.size)) ∧ Below w.heap.size w w' := by
  have t0 : ((n : Int) == 0) = false := by rw [beq_eq_false_iff_ne]; omega
  have t1 : decide ((2048 : Int) < n) = false := by simp; omega
  have t2 : decide (2048 < n) = false := by simp; omega
  have t3 : (n == 0) = false := by rw [beq_eq_false_iff_ne]; omega
  obtain ⟨g, o, rfl, hlt, hc⟩ := hA (by omega)
  have HN := Lib.hid hn
  have B1 : Hid (Below w.heap.size w (w.alloc (.cells #[] 26))) := Lib.hid ((Below.refl _ _).alloc (Nat.le_refl _) _)
  have O1 : Hid ((w.alloc (.cells #[] 26)).ownsRow w.heap.size 26 256 (.slice (some ⟨w.heap.size, 0, none⟩) 0 0) 0 []) := Lib.hid ⟨rfl, .inr ⟨w.heap.size, 0, #[], rfl, Nat.le_refl _, heap_alloc_new w _, Nat.le_refl _, Nat.zero_le _, rfl, rfl⟩⟩
  have N1 := Lib.hid (bcells_news (w := w.alloc (.cells #[] 26)) (g := g) (o := o) (l := l) fun i x hx => (hc i x hx).alloc (.cells #[] 26))
  obtain ⟨i0, hi0, hzz⟩ := Option.map_eq_some_iff.1 blk_row
  simp only [Prod.mk.injEq] at hzz
  obtain ⟨hz0, hz1, hz2⟩ := hzz
  have HZ0 := Lib.hid hz0
  have HZ1 := Lib.hid hz1
  have HZ2 := Lib.hid hz2
  have HI0 := Lib.hid hi0
  clear hz0 hz1 hz2 hi0 hc hA hn
  have tok0 : True := trivial
  go_enter Try.func12, Try.ntmps12
  go_wp2_with (at_builtin; have _t := tok0; refine wpList_append_lies _ rfl (.tmp 12) (.tmp 13) 24 rfl w.heap.size 26 i0 _ 256 256 Try.underlying24 HI0.out HZ0.out HZ1.out HZ2.out (by show (bytesOf (fun _ => 0) 256).length = 256; exact bytesOf_length _ _) (by omega) _ 0 [] rfl O1.out ⟨g, o, none⟩ n c (bcells l) rfl (by rw [bcells_length, HN.out]) N1.out (bcells_one _) (by omega) (by simp only [maxLen]; omega) (by omega) (by simp) (w.heap.size + 1) (by simp) ?_; intro gg cap w5 hown1 hgrow hat hltg; clear tok0)
  rw [List.nil_append, Nat.zero_add] at hown1
  have hrow := oimg_of_row hown1
  have B5 : Below w.heap.size w w5 := B1.out.grown hgrow B1.out.size (by intro g e; cases e; exact Nat.le_refl _)
  refine bodyPost_ret (results_tmp2 Try.results12 _ _ _) rfl ⟨⟨w5.heap.size, rfl, gg, 0, n, cap, .slice none 0 0, heap_alloc_new w5 _, HN.out, hrow.1.keep (heap_alloc_old w5 _ hrow.2.2), WOwn.nil _ _, ⟨by have := hrow.2.2; omega, by simp [Value.ownBlock], by simp [Value.ownBlock], ?_, ?_, by simp [Value.ownBlock]⟩, fun i hi => ?_, ⟨by have := HN.out; show 1 ≤ l.length; omega, by have := HN.out; show l.length ≤ 2048; omega, by simp, by simp, by simp⟩, by simp⟩, B5.alloc B5.size _⟩
  · have := B5.size; show ¬ w5.heap.size < w.heap.size; omega
  · have := hrow.2.1; show ¬ gg < w.heap.size; omega
  · have := B5.size; have hi' : i < w.heap.size := hi; rw [World.size_alloc]; omega
end Go.Proofs.Ytaipcciokhkmnaa
