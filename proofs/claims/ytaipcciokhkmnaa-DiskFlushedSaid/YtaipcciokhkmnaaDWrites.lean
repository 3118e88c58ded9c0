import Derived.Test.YtaipcciokhkmnaaDFlushed
namespace Go.Proofs.Ytaipcciokhkmnaa
open Go.RowKit

theorem put_now (N : Nat) (W : Waits) : (put N W).now = over (List.replicate N .zero) W := rfl
theorem put_read {N : Nat} {W : Waits} {i : Nat} (h : i < N) : (put N W).read (i : Int) = (over (List.replicate N .zero) W).getD i .zero := by
  unfold DS.read
  rw [put_err, put_now]
  have : inside N (i : Int) = true := by simp [inside]; omega
  rw [this]
  simp
theorem put_errI {N : Nat} {W : Waits} {i : Nat} (h : i < N) : (put N W).err (i : Int) = 0 := by
  rw [put_err]
  have : inside N (i : Int) = true := by simp [inside]; omega
  rw [this]; rfl
/-- Three facts that go on through draws. -/
theorem three_drewN {D : World → Addr → DS → Av → Prop} (hD : DiskSays D) {w0 w : World} {a : Addr} {s : DS} {g : Nat} {M : List Blk} {av : Av} (hd : D w a s av) (hv : ∀ i, (i < w0.heap.size ∨ i = g) → av i) (hb : Below w0.heap.size w0 w) (ho : OImg w g 0 M) (q : Nat) :
    D (w.drewN q) a s (fun i => i < w0.heap.size ∨ i = g) ∧ Below w0.heap.size w0 (w.drewN q) ∧ OImg (w.drewN q) g 0 M :=
  ⟨hD.frame hd (Nat.le_refl _) (fun _ _ _ => rfl) fun i h => .inl (hv i h), ⟨hb.os, hb.tape, hb.output, hb.size, hb.block⟩, ho⟩

theorem safe_first {D : World → Addr → DS → Av → Prop} (hD : DiskSays D) {w0 w : World} {a : Addr} {s : DS} {g g' o' : Nat} {M Z : List Blk} (hd : D w a s (fun i => (i < w0.heap.size ∨ i = g) ∨ i = g')) {B : Nat} (_ : B ≤ g') (hb : Below w0.heap.size w0 w) (ho : OImg w g 0 M) (hi : OImg w g' o' Z) (n : Nat) (t : TypeId) :
    OImg (w.alloc (.cells (madeBlks n) t)) g' o' Z ∧ OImg (w.alloc (.cells (madeBlks n) t)) w.heap.size 0 (List.replicate n .zero) ∧ D (w.alloc (.cells (madeBlks n) t)) a s (fun i => (i < w0.heap.size ∨ i = g) ∨ i = g') ∧ Below w0.heap.size w0 (w.alloc (.cells (madeBlks n) t)) ∧ OImg (w.alloc (.cells (madeBlks n) t)) g 0 M := by
  have ha : Below w.heap.size w (w.alloc (.cells (madeBlks n) t)) := (Below.refl _ _).alloc (Nat.le_refl _) _
  exact ⟨hi.keep (ha.block _ hi.lt), OImg.made w n t, hD.below hd ha, hb.trans (ha.mono hb.size), ho.keep (ha.block _ ho.lt)⟩
theorem safe_last {D : World → Addr → DS → Av → Prop} (_ : DiskSays D) {w0 w w' : World} {a : Addr} {s : DS} {g g' o' n : Nat} {t : TypeId} {M Z : List Blk} (hd : D w' a s (fun i => ((i < w0.heap.size ∨ i = g) ∨ (w.heap.size ≤ i ∧ i < (w.alloc (.cells (madeBlks n) t)).heap.size)) ∨ i = g')) (hk : Keep (fun i => (i < w0.heap.size ∨ i = g) ∨ (w.heap.size ≤ i ∧ i < (w.alloc (.cells (madeBlks n) t)).heap.size)) (w.alloc (.cells (madeBlks n) t)) w')
    (hb : Below w0.heap.size w0 w) (ho : OImg w g 0 M) (hi : OImg w' g' o' Z) :
    OImg w' g' o' Z ∧ OImg w' w.heap.size 0 (List.replicate n .zero) ∧ D w' a s (fun i => ((i < w0.heap.size ∨ i = g) ∨ (w.heap.size ≤ i ∧ i < (w.alloc (.cells (madeBlks n) t)).heap.size)) ∨ i = g') ∧ Below w0.heap.size w0 w' ∧ OImg w' g 0 M := by
  have ha : Below w.heap.size w (w.alloc (.cells (madeBlks n) t)) := (Below.refl _ _).alloc (Nat.le_refl _) _
  exact ⟨hi, hk.oimg (.inr ⟨Nat.le_refl _, by simp⟩) (OImg.made w n t), hd, (hb.trans (ha.mono hb.size)).trans (hk.below fun i h => .inl (.inl h)), hk.oimg (.inl (.inr rfl)) (ho.keep (ha.block _ ho.lt))⟩

section
variable {D : World → Addr → DS → Av → Prop}
set_option maxRecDepth 100000 in
set_option maxHeartbeats 4000000 in
theorem diskWrites_any (hD : DiskSays D) (n : Int) (A : Option Addr) (c m : Nat) (l : Puts) (w : World) (hm : m = l.length) (hA : PutsAt w A l) (hm8 : m ≤ 140737488355328) :
    Calls Try.prog 6 #[.int .i64 n, .slice A m c] w fun e w' => e = .returned (.bool true) ∧ Below w.heap.size w w' := by
  have HD := Lib.hid hD
  have HM := Lib.hid hm
  have HA := Lib.hid hA
  have HC := Lib.hid (count_range n)
  clear hD hm hA
  by_cases hg : 300 < m
  · have t1 : decide ((300 : Int) < m) = true := by simp; omega
    go_enter Try.func6, Try.ntmps6
    go_wp2_with fail
    go_ret
    exact ⟨rfl, Below.refl _ _⟩
  have t1 : decide ((300 : Int) < m) = false := by simp; omega
  have hl3 : m ≤ 300 := by omega
  clear hg
  go_enter Try.func6, Try.ntmps6
  go_wp2_with fail
  refine (written_any HD.out n A c m l _ HM.out hl3 HA.out).mono ?_
  rintro e w1 ⟨⟨a, g, c', rfl, hd, hgs, hom⟩, hb⟩
  have HN := Lib.hid (over_rep (count n) (ws (count n) l))
  have hN := HC.out.1
  have hN2 := HC.out.2
  generalize count n = N at hd hom hN hN2 HN ⊢
  have hwl : (ws N l).length ≤ 300 := by have := ws_len N l; have := HM.out; omega
  generalize ws N l = W at hd hom hwl HN ⊢
  have D1 := Lib.hid hd
  have B1 := Lib.hid hb
  have O1 := Lib.hid hom
  have HZ := Lib.hid (List.length_replicate (n := N) (a := Blk.zero))
  have hmk := fun W => make_blks .i64 .i64 N (by omega) W
  have tok1 : True := trivial
  have tok2 : True := trivial
  have tok3 : True := trivial
  have tok4 : True := trivial
  clear hd hb hom
  go_wp2_with fail
  go_region_held3 (fun _ => True) (exact trivial) (first
    | (go_at_call 24; refine (HD.out.waiting a _ _ _ (HD.out.drew D1.out)).mono ?_; rintro e w2 ⟨rfl, hd, hk⟩; have D2 := Lib.hid hd; have B2 : Hid (Below w.heap.size w w2) := Lib.hid (B1.out.drew.trans (hk.below fun i h => .inl h)); have O2 : Hid (OImg w2 g 0 (over (List.replicate N .zero) W)) := Lib.hid (hk.oimg (.inr rfl) O1.out); clear hd hk; rw [show ((put N W).wait.length : Int) = (W.length : Int) from rfl])
    | (go_at_call 25; refine (HD.out.acts a _ _ _ D2.out).mono ?_; rintro e w3 ⟨rfl, hd, hk⟩; have D3 := Lib.hid hd; have B3 := Lib.hid (B2.out.trans (hk.below fun i h => .inl h)); have O3 := Lib.hid (hk.oimg (.inr rfl) O2.out); clear hd hk; rw [show ((put N W).acts : Int) = (W.length : Int) from rfl])
    | (go_at_call 23; refine (HD.out.blocks a _ _ _ D3.out).mono ?_; rintro e w4 ⟨rfl, hd, hk⟩; have D4 := Lib.hid hd; have B4 := Lib.hid (B3.out.trans (hk.below fun i h => .inl h)); have O4 := Lib.hid (hk.oimg (.inr rfl) O3.out); clear hd hk; rw [show (put N W).safe.length = N from HZ.out])
    | (go_at_call 13; refine (HD.out.image a _ _ _ D4.out).mono ?_; rintro e w5 ⟨⟨g5, o5, c5, rfl, ho5, hs5, hd⟩, hk⟩; have D5 := Lib.hid hd; have B5 := Lib.hid (B4.out.trans (hk.below fun i h => .inl h)); have O5 := Lib.hid (hk.oimg (.inr rfl) O4.out); have I5 := Lib.hid ho5; clear hd hk ho5; rw [show (put N W).safe.length = N from HZ.out])
    | (go_at_call 28; have _t := tok1; refine (same_true _ _ _ _ _ (over (List.replicate N .zero) W) _ HN.out.symm (by omega) I5.out.img O5.out.img).mono ?_; rintro e w6 ⟨rfl, q6, hw6⟩; have X6 := Lib.hid (three_drewN HD.out D5.out (fun i h => .inl h) B5.out O5.out q6); rw [← hw6] at X6; clear hw6 tok1)
    | (go_at_call 14; (with_reducible refine (HD.out.safe a _ _ w6 X6.out.1).mono ?_); rintro e w7 ⟨⟨g7, o7, c7, rfl, ho7, hs7, hd⟩, hk⟩; have Y := Lib.hid (safe_first HD.out hd hs7 (X6.out.2.1.trans (hk.below fun i h => .inl h)) (hk.oimg (.inr rfl) X6.out.2.2) ho7 N 26); clear hd hk ho7; rw [show (put N W).safe.length = N from HZ.out])
    | (go_at_call 14; (with_reducible refine (HD.out.safe a _ (fun i => (i < w.heap.size ∨ i = g) ∨ (w6.heap.size ≤ i ∧ i < (w6.alloc (.cells (madeBlks N) 26)).heap.size)) (w6.alloc (.cells (madeBlks N) 26)) (HD.out.new' X6.out.1 ((Below.refl _ _).alloc (Nat.le_refl _) _))).mono ?_); rintro e w7 ⟨⟨g7, o7, c7, rfl, ho7, hs7, hd⟩, hk⟩; have Y := Lib.hid (safe_last HD.out hd hk X6.out.2.1 X6.out.2.2 ho7); clear hd hk ho7; rw [show (put N W).safe.length = N from HZ.out])
    | (go_at_call 28; refine (same_true _ _ _ _ N (List.replicate N .zero) _ HZ.out.symm (by omega) Y.out.1.img Y.out.2.1.img).mono ?_; rintro e w8 ⟨rfl, q8, hw8⟩; have X8 := Lib.hid (three_drewN HD.out Y.out.2.2.1 (by intro i h; first | exact .inl h | exact .inl (.inl h)) Y.out.2.2.2.1 Y.out.2.2.2.2 q8); rw [← hw8] at X8; clear hw8))
  all_goals
    have D9 := Lib.hid X8.out.1
    have B9 := Lib.hid X8.out.2.1
    have O9 := Lib.hid X8.out.2.2
    clear X8 Y X6 I5 O5 B5 D5 O4 B4 D4 O3 B3 D3 O2 B2 D2 O1 B1 D1
    go_wp2_with fail
    go_loopw [9] (fun i wr => ∃ k : Nat, k ≤ N ∧ i = .int .i64 k ∧ Hid (D wr a (put N W) (fun i => i < w.heap.size ∨ i = g)) ∧ Hid (Below w.heap.size w wr) ∧ Hid (OImg wr g 0 (over (List.replicate N .zero) W))) (fun i _ => N - (intOf i).toNat)
    case atStart => exact ⟨0, Nat.zero_le _, rfl, D9, B9, O9⟩
    case round =>
      obtain ⟨k, hk, rfl, HDk, HBk, HOk⟩ := hrel
      by_cases hlt : k < N
      · have j1 : (0 : Int) ≤ k := by omega
        have j2 : (k : Int) < N := by omega
        have RE := Lib.hid (put_errI (W := W) hlt)
        have RR := Lib.hid (put_read (W := W) hlt)
        have hz := fun W => zero_blk W
        go_wp2_with fail
        refine (HD.out.read a _ _ (k : Int) _ HDk.out).mono ?_
        rintro e w9 ⟨rfl, hd, hk9⟩
        rw [RE.out, RR.out]
        have DA := Lib.hid hd
        have BA := Lib.hid (HBk.out.trans (hk9.below fun i h => .inl h))
        have OA := Lib.hid (hk9.oimg (.inr rfl) HOk.out)
        have hkl : k < (over (List.replicate N Blk.zero) W).length := by have := HN.out; omega
        have hx : (over (List.replicate N Blk.zero) W)[k]? = some ((over (List.replicate N Blk.zero) W).getD k .zero) := by rw [List.getElem?_eq_getElem hkl, List.getD_eq_getElem?_getD, List.getElem?_eq_getElem hkl]; rfl
        generalize (over (List.replicate N Blk.zero) W).getD k .zero = X at hx ⊢
        have HX := Lib.hid hx
        clear hd hk9 hx hkl HDk HBk HOk
        go_wp2_with (refine store_row rfl (.tmp 10) (.tmp 70) rfl w9.heap.size X .zero 26 rfl rfl (heap_alloc_new w9 _) ?_; rw [World.setRow_alloc_new])
        have DB := Lib.hid (HD.out.below DA.out ((Below.refl _ _).alloc (Nat.le_refl _) (.cells (arr X) 26)))
        have BB := Lib.hid (BA.out.alloc BA.out.size (.cells (arr X) 26))
        have OB := Lib.hid (OA.out.keep (((Below.refl _ _).alloc (Nat.le_refl _) (.cells (arr X) 26)).block g OA.out.lt))
        have hX : At (w9.alloc (.cells (arr X) 26)) w9.heap.size 0 X := At.row (heap_alloc_new w9 _)
        have hY : At (w9.alloc (.cells (arr X) 26)) g (k * 256) X := by have := OB.out.at HX.out; simpa using this
        generalize w9.alloc (.cells (arr X) 26) = w10 at DB BB OB hX hY ⊢
        generalize w9.heap.size = g10 at hX ⊢
        have heq := fun W => equalIn_blk X X W
        have hgd := blk_guard
        have hdec : decide (X = X) = true := decide_eq_true rfl
        clear DA BA OA
        go_wp2_with fail
        refine wp_region_quiet_lit (by kernel_rfl) (by kernel_rfl) ?_
        repeat (first | go_big_quiet_skip | (go_big_quiet_want; first | (refine quiet_load _ rfl _ _ rfl X (by rintro w' ⟨m, rfl⟩; first | exact hX | exact hY) ?_; simp only [Act.put, List.setIfInBounds_toArray, List.set_cons_zero, List.set_cons_succ]; go_big_quiet_on) | (go_big_quiet_op; go_big_quiet_on)))
        refine wpQuiet_nil ?_
        intro _ hw'
        obtain ⟨nq, hw''⟩ := hw'
        have Z := Lib.hid (three_drewN HD.out DB.out (fun i h => h) BB.out OB.out nq)
        rw [← hw''] at Z
        clear hw'' hX hY
        go_wp2
        go_roundw
        case rel => exact ⟨k + 1, by omega, by go_num, Lib.hid Z.out.1, Lib.hid Z.out.2.1, Lib.hid Z.out.2.2⟩
        case measure => simp [intOf]; omega
      · obtain rfl : k = N := by omega
        go_wp2_with fail
        go_ret
        exact ⟨rfl, HBk.out⟩
end
end Go.Proofs.Ytaipcciokhkmnaa
