import Derived.Test.YtaipcciokhkmnaaWritten
namespace Go.Proofs.Ytaipcciokhkmnaa
open Go.RowKit

def flushed (N : Nat) (W : Waits) : DS := ⟨over (List.replicate N .zero) W, [], W.length + 1, none⟩
theorem put_flush (N : Nat) (W : Waits) : (put N W).flush = flushed N W := rfl
theorem put_err0 (N : Nat) (W : Waits) (h : 1 ≤ N) : (put N W).err 0 = 0 := by rw [put_err]; simp [inside]; omega
theorem flushed_crash (N : Nat) (W : Waits) (l : List Bool) : (flushed N W).crash l = ⟨over (List.replicate N .zero) W, [], W.length + 1, none⟩ := rfl
theorem flushed_now (N : Nat) (W : Waits) : (flushed N W).now = over (List.replicate N .zero) W := rfl
theorem over_rep (N : Nat) (W : Waits) : (over (List.replicate N Blk.zero) W).length = N := by rw [over_length, List.length_replicate]
theorem same_true (A B : Option Addr) (c d n : Nat) (l : List Blk) (w : World) (hn : n = l.length) (hl : n ≤ 1000000) (hA : Img w A l) (hB : Img w B l) :
    Calls Try.prog 28 #[.slice A n c, .slice B n d] w fun e w' => e = .returned (.bool true) ∧ ∃ n, w' = w.drewN n :=
  (same_all A B c d n n l l w hn hn hl hl hA hB).mono fun _ _ ⟨he, h⟩ => ⟨by rw [he, decide_eq_true rfl], h⟩

section
variable {D : World → Addr → DS → Av → Prop}
set_option maxRecDepth 100000 in
set_option maxHeartbeats 2000000 in
theorem diskFlushed_any (hD : DiskSays D) (n : Int) (A : Option Addr) (c m : Nat) (l : Puts) (K : Option Addr) (kc km : Nat) (kl : List Bool) (w : World) (hm : m = l.length) (hA : PutsAt w A l) (hkm : km = kl.length) (hK : Bools w K kl) (hk8 : km ≤ 140737488355328) (hm8 : m ≤ 140737488355328) (hKb : 0 < kl.length → ∀ g o, K = some ⟨g, o, none⟩ → g < w.heap.size) :
    Calls Try.prog 7 #[.int .i64 n, .slice A m c, .slice K km kc] w fun e w' => e = .returned (.bool true) ∧ Below w.heap.size w w' := by
  have HD := Lib.hid hD
  have HM := Lib.hid hm
  have HA := Lib.hid hA
  have HKM := Lib.hid hkm
  have HK := Lib.hid hK
  have HKB := Lib.hid hKb
  have HC := Lib.hid (count_range n)
  clear hD hm hA hkm hK hKb
  by_cases hg : 300 < m
  · have t1 : decide ((300 : Int) < m) = true := by simp; omega
    go_enter Try.func7, Try.ntmps7
    go_wp2_with fail
    go_ret
    exact ⟨rfl, Below.refl _ _⟩
  have t1 : decide ((300 : Int) < m) = false := by simp; omega
  have hl3 : m ≤ 300 := by omega
  clear hg
  go_enter Try.func7, Try.ntmps7
  go_wp2_with fail
  refine (written_any HD.out n A c m l _ HM.out hl3 HA.out).mono ?_
  rintro e w1 ⟨⟨a, g, c', rfl, hd, hgs, hom⟩, hb⟩
  have HN := Lib.hid (over_rep (count n) (ws (count n) l))
  have hN := HC.out.1
  have hN2 := HC.out.2
  generalize count n = N at hd hom hN hN2 HN ⊢
  have hwl : (ws N l).length ≤ 300 := by have := ws_len N l; have := HM.out; omega
  generalize ws N l = W at hd hom hwl HN ⊢
  have F0 := Lib.hid (put_err0 N W hN)
  have D1 := Lib.hid hd
  have B1 := Lib.hid hb
  have O1 := Lib.hid hom
  clear hd hb hom
  go_wp2_with fail
  refine (HD.out.flush a _ _ _ D1.out (by show W.length < 1000000; omega)).mono ?_
  rintro e w2 ⟨rfl, hd, hk⟩
  rw [put_flush] at hd
  have D2 := Lib.hid hd
  have B2 := Lib.hid (B1.out.trans (hk.below fun i h => .inl h))
  have O2 := Lib.hid (hk.oimg (.inr rfl) O1.out)
  clear hd hk B1 O1 D1
  rw [F0.out]
  go_wp2_with fail
  refine (HD.out.waiting a _ _ _ D2.out).mono ?_
  rintro e w3 ⟨rfl, hd, hk⟩
  have D3 := Lib.hid hd
  have B3 := Lib.hid (B2.out.trans (hk.below fun i h => .inl h))
  have O3 := Lib.hid (hk.oimg (.inr rfl) O2.out)
  clear hd hk B2 O2 D2
  rw [show ((flushed N W).wait.length : Int) = 0 from rfl]
  go_wp2_with fail
  refine (HD.out.safe a _ _ _ D3.out).mono ?_
  rintro e w4 ⟨⟨g4, o4, c4, rfl, ho4, hs4, hd⟩, hk⟩
  have D4 := Lib.hid hd
  have B4 := Lib.hid (B3.out.trans (hk.below fun i h => .inl h))
  have O4 := Lib.hid (hk.oimg (.inr rfl) O3.out)
  have I4 := Lib.hid ho4
  clear hd hk B3 O3 D3 ho4
  rw [show (flushed N W).safe.length = N from HN.out]
  go_wp2_with fail
  refine (same_true _ _ _ _ _ (over (List.replicate N .zero) W) _ HN.out.symm (by omega) I4.out.img O4.out.img).mono ?_
  rintro e w5 ⟨rfl, q5, rfl⟩
  have D5 : Hid (D (w4.drewN q5) a (flushed N W) (fun i => i < w.heap.size ∨ i = g)) := Lib.hid (HD.out.frame D4.out (Nat.le_refl _) (fun _ _ _ => rfl) fun i h => .inl (.inl h))
  have B5 : Hid (Below w.heap.size w (w4.drewN q5)) := Lib.hid ⟨B4.out.os, B4.out.tape, B4.out.output, B4.out.size, B4.out.block⟩
  have O5 : Hid (OImg (w4.drewN q5) g 0 (over (List.replicate N .zero) W)) := O4
  generalize w4.drewN q5 = w5 at D5 B5 O5 ⊢
  clear D4 B4 O4 I4
  go_wp2_with fail
  have K5 : Hid (Bools w5 K kl) := Lib.hid fun h0 => by
    obtain ⟨b, o, e, hb, hc⟩ := HK.out h0
    exact ⟨b, o, e, Nat.lt_of_lt_of_le hb B5.out.size, fun i x hx => (B5.out.cell (p := ⟨b, o + i, none⟩) hb).trans (hc i x hx)⟩
  refine (HD.out.crash a _ _ K km kc kl _ D5.out HKM.out K5.out (fun h0 g o e => .inl (HKB.out h0 g o e)) hk8).mono ?_
  rintro e w6 ⟨rfl, hd, hk⟩
  rw [flushed_crash] at hd
  have D6 := Lib.hid hd
  have B6 := Lib.hid (B5.out.trans (hk.below fun i h => .inl h))
  have O6 := Lib.hid (hk.oimg (.inr rfl) O5.out)
  clear hd hk B5 O5 D5 K5
  go_wp2_with fail
  refine (HD.out.image a _ _ _ D6.out).mono ?_
  rintro e w7 ⟨⟨g7, o7, c7, rfl, ho7, hs7, hd⟩, hk⟩
  have D7 := Lib.hid hd
  have B7 := Lib.hid (B6.out.trans (hk.below fun i h => .inl h))
  have O7 := Lib.hid (hk.oimg (.inr rfl) O6.out)
  have I7 := Lib.hid ho7
  clear hd hk B6 O6 D6 ho7
  dsimp only
  rw [HN.out]
  go_wp2_with fail
  refine (same_true _ _ _ _ _ (over (List.replicate N .zero) W) _ HN.out.symm (by omega) I7.out.img O7.out.img).mono ?_
  rintro e w8 ⟨rfl, q8, rfl⟩
  have D8 : Hid (D (w7.drewN q8) a _ (fun i => i < w.heap.size ∨ i = g)) := Lib.hid (HD.out.frame D7.out (Nat.le_refl _) (fun _ _ _ => rfl) fun i h => .inl (.inl h))
  have B8 : Hid (Below w.heap.size w (w7.drewN q8)) := Lib.hid ⟨B7.out.os, B7.out.tape, B7.out.output, B7.out.size, B7.out.block⟩
  have O8 : Hid (OImg (w7.drewN q8) g 0 (over (List.replicate N .zero) W)) := O7
  generalize w7.drewN q8 = w8 at D8 B8 O8 ⊢
  clear D7 B7 O7 I7
  go_wp2_with fail
  refine (HD.out.safe a _ _ _ D8.out).mono ?_
  rintro e w9 ⟨⟨g9, o9, c9, rfl, ho9, hs9, hd⟩, hk⟩
  have D9 := Lib.hid hd
  have B9 := Lib.hid (B8.out.trans (hk.below fun i h => .inl h))
  have O9 := Lib.hid (hk.oimg (.inr rfl) O8.out)
  have I9 := Lib.hid ho9
  clear hd hk B8 O8 D8 ho9
  dsimp only
  rw [HN.out]
  go_wp2_with fail
  refine (same_true _ _ _ _ _ (over (List.replicate N .zero) W) _ HN.out.symm (by omega) I9.out.img O9.out.img).mono ?_
  rintro e w10 ⟨rfl, q10, rfl⟩
  have D10 : Hid (D (w9.drewN q10) a _ (fun i => i < w.heap.size ∨ i = g)) := Lib.hid (HD.out.frame D9.out (Nat.le_refl _) (fun _ _ _ => rfl) fun i h => .inl (.inl h))
  have B10 : Hid (Below w.heap.size w (w9.drewN q10)) := Lib.hid ⟨B9.out.os, B9.out.tape, B9.out.output, B9.out.size, B9.out.block⟩
  generalize w9.drewN q10 = w10 at D10 B10 ⊢
  clear D9 B9 O9 I9
  go_wp2_with fail
  refine (HD.out.waiting a _ _ _ D10.out).mono ?_
  rintro e w11 ⟨rfl, hd, hk⟩
  have B11 := Lib.hid (B10.out.trans (hk.below fun i h => .inl h))
  clear hd hk B10 D10
  dsimp only
  go_wp2_with fail
  go_ret
  exact ⟨rfl, B11.out⟩
end
end Go.Proofs.Ytaipcciokhkmnaa
