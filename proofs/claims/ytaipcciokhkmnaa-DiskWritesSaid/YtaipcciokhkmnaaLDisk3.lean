import Derived.Test.YtaipcciokhkmnaaLDisk2
namespace Go.Proofs.Ytaipcciokhkmnaa
open Go.RowKit

theorem madeBlks_size (n : Nat) : (madeBlks n).size = n * 256 := by unfold madeBlks; exact size_madeCells _ _
theorem wpList_copy_blks {w : World} {ops : Array Oper} {rest : List Oper} {op : Oper} {a : Act} {Q : Exit → Act → World → Prop} (hgd : op.guard = none) (d s : Operand)
    (ho : op.op = .call { callee := .builtin .copy, args := #[d, s], argTypes := #[24, 24] })
    (g n dCap sg so sCap : Nat) (hd : a.eval d = .slice (some ⟨g, 0, none⟩) n dCap) (hs : a.eval s = .slice (some ⟨sg, so, none⟩) n sCap)
    (cur : Array Value) (t : TypeId) (hg : w.heap[g]? = some (.cells cur t (0, 0))) (hc : cur.size = n * 256) (l : List Blk) (hn : l.length = n) (hsrc : ∀ i x, l[i]? = some x → At w sg (so + i * 256) x)
    (B : Nat) (w0 : World) (hb : Below B w0 w) (hBg : B ≤ g)
    (h : ∀ w', w'.heap.size = w.heap.size → (∀ k, k ≠ g → w'.heap[k]? = w.heap[k]?) → Hid (OImg w' g 0 l) → Below B w0 w' → wpList Try.prog ops Q rest (a.put op.dst (goInt n)) w') : wpList Try.prog ops Q (op :: rest) a w := by
  refine wpList_plain hgd fun K hK => ?_
  obtain ⟨cur', hrun, himg⟩ := run_copy_blks w 24 24 op.type 26 g n dCap sg so sCap cur t l Try.underlying24 blk_size hg hc hn hsrc
  unfold Oper.wp
  simp [execOp, ho, resolve, invoke, builtin, hd, hs, hrun, Result.andThen]
  exact hK _ _ (h _ (by simp [World.setRow]) (fun k hk => setRow_other w g k _ hk) himg (below_setRow hb hBg _))
set_option maxRecDepth 100000 in
theorem lCopied_any (w : World) (g o n c : Nat) (l : List Blk) (hl : l.length = n) (h1 : 1 ≤ n) (h2 : n ≤ 2048) (hi : OImg w g o l) :
    Calls Try.prog 31 #[.slice (some ⟨g, o, none⟩) n c] w fun e w' => e = .returned (.slice (some ⟨w.heap.size, 0, none⟩) n n) ∧ OImg w' w.heap.size 0 l ∧ Below w.heap.size w w' := by
  have HI := Lib.hid hi
  have HL := Lib.hid hl
  clear hi hl
  have hmk := fun W => make_blks .i64 .i64 n (by omega) W
  go_enter Try.func31, Try.ntmps31
  go_wp2_with (first
    | (refine wpList_copy_blks rfl (.tmp 7) (.tmp 8) rfl w.heap.size n n g o c rfl rfl (madeBlks n) 26 (heap_alloc_new w _) (madeBlks_size n) l HL.out (fun i x hx => (HI.out.at hx).alloc _) w.heap.size w ((Below.refl _ _).alloc (Nat.le_refl _) _) (Nat.le_refl _) ?_; intro w' hs' ho' hi' hb'; have HB := Lib.hid hb'; clear hs' ho' hb'))
  go_ret
  exact ⟨rfl, hi'.out, HB.out⟩
section
variable (w : World) (b : Nat) (s : LS) (g o g2 o2 n c c2 : Nat) (v : Value) (av : Av)
theorem lImage_any (h : LDAt w b s g o g2 o2 n c c2 v av) :
    Calls Try.prog 13 #[.pointer (some ⟨b, 0, none⟩)] w fun e w' => e = .returned (.slice (some ⟨w.heap.size, 0, none⟩) n n) ∧ OImg w' w.heap.size 0 s.now ∧ Below w.heap.size w w' := by
  have H := Lib.hid h
  have c1 := h.c1
  clear h
  go_enter Try.func13, Try.ntmps13
  go_wp2_with fail
  refine (lMade_any w b s g o g2 o2 n c c2 v av H.out).mono ?_
  rintro e w1 ⟨rfl, rfl⟩
  go_wp2_with fail
  refine (lCopied_any w1 g2 o2 n c2 s.now H.out.len2.symm H.out.ok.1 H.out.ok.2.1 H.out.img2).mono ?_
  rintro e w2 ⟨rfl, hi, hb⟩
  have HI := Lib.hid hi
  have HB := Lib.hid hb
  clear hi hb
  go_wp2_with fail
  go_ret
  exact ⟨rfl, HI.out, HB.out⟩
theorem lSafe_any (h : LDAt w b s g o g2 o2 n c c2 v av) :
    Calls Try.prog 14 #[.pointer (some ⟨b, 0, none⟩)] w fun e w' => e = .returned (.slice (some ⟨w.heap.size, 0, none⟩) n n) ∧ OImg w' w.heap.size 0 s.safe ∧ Below w.heap.size w w' := by
  have H := Lib.hid h
  have c0 := h.c0
  clear h
  go_enter Try.func14, Try.ntmps14
  go_wp2_with fail
  refine (lMade_any w b s g o g2 o2 n c c2 v av H.out).mono ?_
  rintro e w1 ⟨rfl, rfl⟩
  go_wp2_with fail
  refine (lCopied_any w1 g o n c s.safe H.out.len.symm H.out.ok.1 H.out.ok.2.1 H.out.img).mono ?_
  rintro e w2 ⟨rfl, hi, hb⟩
  have HI := Lib.hid hi
  have HB := Lib.hid hb
  clear hi hb
  go_wp2_with fail
  go_ret
  exact ⟨rfl, HI.out, HB.out⟩
noncomputable def readOf (s : LS) (p : Int) : Blk := if errOf s p = 0 then s.now.getD p.toNat .zero else .zero
set_option maxRecDepth 100000 in
theorem lRead_any (p : Int) (h : LDAt w b s g o g2 o2 n c c2 v av) :
    Calls Try.prog 17 #[.pointer (some ⟨b, 0, none⟩), .int .i64 p] w fun e w' => e = .returned (.tuple #[.agg (arr (readOf s p)), .int .i64 (errOf s p)]) ∧ Below w.heap.size w w' := by
  have hz := fun W => zero_blk W
  have B0 := (Below.refl w.heap.size w).alloc (Nat.le_refl _) (.cells (arr .zero) 26)
  have H1 := Lib.hid (h.below B0)
  have B1 := Lib.hid B0
  clear h B0
  have c1 := H1.out.c1
  have R := Lib.hid (lRefusal_any _ b s g o g2 o2 n c c2 v av p H1.out)
  by_cases he : errOf s p = 0
  · have hp : s.left ≠ some 0 ∧ 0 ≤ p ∧ p < n := by
      have := H1.out.len
      unfold errOf at he
      split at he
      · omega
      · split at he
        · omega
        · exact ⟨by assumption, by omega, by omega⟩
    obtain ⟨k, rfl⟩ := Int.eq_ofNat_of_zero_le hp.2.1
    have hk : k < n := by omega
    have j1 : (0 : Int) ≤ k := by omega
    have j2 : (k : Int) < n := by omega
    obtain ⟨X, hX⟩ : ∃ X, s.now[k]? = some X := ⟨_, List.getElem?_eq_getElem (by rw [← H1.out.len2]; exact hk)⟩
    have hr : Hid (readOf s k = X) := Lib.hid (by unfold readOf; rw [if_pos he, Int.toNat_natCast, List.getD_eq_getElem?_getD, hX]; rfl)
    have hat := H1.out.img2.at hX
    rw [he] at R
    have HE := Lib.hid he
    clear he hX hp
    go_enter Try.func17, Try.ntmps17
    go_wp2_with fail
    refine R.out.mono ?_
    rintro e w1 ⟨rfl, rfl⟩
    go_wp2_with (first
      | (refine load_blk rfl (.tmp 19) rfl g2 (o2 + k * 256) rfl X hat ?_)
      | (refine store_row rfl (.tmp 4) (.tmp 20) rfl w.heap.size X .zero 26 rfl rfl (heap_alloc_new w _) ?_))
    exact bodyPost_ret (v := .tuple #[.agg (arr X), .int .i64 0]) (results_blk_tmp Try.results17 _ _ w.heap.size X _ rfl (setRow_heap _ _ _ _ _ _ (heap_alloc_new w _))) rfl ⟨by rw [HE.out, hr.out], below_setRow B1.out (Nat.le_refl _) _⟩
  · have hr : Hid (readOf s p = .zero) := Lib.hid (by unfold readOf; rw [if_neg he])
    obtain ⟨q, hq⟩ : ∃ q, errOf s p = q := ⟨_, rfl⟩
    rw [hq] at R he
    have t0 : (q != 0) = true := by rw [bne_iff_ne]; exact he
    have t1 : (q == 0) = false := by rw [beq_eq_false_iff_ne]; exact he
    have HE := Lib.hid hq
    clear he hq
    go_enter Try.func17, Try.ntmps17
    go_wp2_with fail
    refine R.out.mono ?_
    rintro e w1 ⟨rfl, rfl⟩
    go_wp2_with (first
      | (refine build_zero_w rfl rfl ?_)
      | (refine store_row rfl (.tmp 4) (.tmp 12) rfl w.heap.size .zero .zero 26 rfl rfl (heap_alloc_new w _) ?_))
    exact bodyPost_ret (v := .tuple #[.agg (arr .zero), .int .i64 q]) (results_blk_tmp Try.results17 _ _ w.heap.size .zero _ rfl (setRow_heap _ _ _ _ _ _ (heap_alloc_new w _))) rfl ⟨by rw [HE.out, hr.out], below_setRow B1.out (Nat.le_refl _) _⟩
end
end Go.Proofs.Ytaipcciokhkmnaa
