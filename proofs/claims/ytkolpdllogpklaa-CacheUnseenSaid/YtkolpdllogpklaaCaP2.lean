import Derived.Test.YtkolpdllogpklaaCaP1
namespace Go.Proofs.Ytkolpdllogpklaa
open Go.RowKit Go.Maps

/-! What the cache has is gone through, in whatever order, and sorted. -/
theorem below_grown {w w' : World} (h : Below w.heap.size w w') : w.grownBy w' none := ⟨h.os, h.tape, h.output, h.size, fun i hi _ => h.block i hi⟩
theorem grown_below {w w' : World} {B : Nat} {row : Option Nat} (h : w.grownBy w' row) (hr : ∀ j, row = some j → B ≤ j) (hB : B ≤ w.heap.size) : Below B w w' :=
  ⟨h.os, h.tape, h.output, h.size, fun i hi => h.block i (by omega) fun e => by have := hr i e.symm; omega⟩
def wants (m : Int → Option Ent) (P : Int → Ent → Bool) (b : Int) : Bool := match m b with | some e => P b e | none => false
/-- What was met: no number twice; those that are wanted and are no longer to come. -/
def Got (m : Int → Option Ent) (P : Int → Ent → Bool) (left : Lit → Bool) (zs : List Int) : Prop := zs.Nodup ∧ ∀ b, b ∈ zs ↔ (wants m P b = true ∧ left (.int .i64 b) = false)
theorem same_int {a b : Int} (ha : I64 a) : (Lit.int .i64 a).sameKey (.int .i64 b) = decide (a = b) := by
  by_cases e : a = b
  · subst e; rw [WideAt.sameKey_self (key_lit ha)]; simp
  · rw [sameKey_ne (key_ne e)]; simp [e]
section
variable {m : Int → Option Ent} {P : Int → Ent → Bool} {left : Lit → Bool} {zs : List Int} {D : DataW Value} {N : Nat}
theorem got_entry (hr : Reads D N encH m) {x : Int} {X : Blk} {d : Bool} (hx : I64 x) (hat : ∀ zd, D.atKey (.int .i64 x) zd = .held (.agg (hcell X d))) : m x = some (X, d) := by
  have h1 := has_true_of_atKey hat
  rw [hr.has x hx] at h1
  obtain ⟨e, he⟩ := Option.isSome_iff_exists.1 h1
  have h2 := (hr.at_ x e hx he .nil).symm.trans (hat .nil)
  unfold encH at h2
  injection h2 with h2
  injection h2 with h2
  obtain ⟨h3, h4⟩ := hcell_inj h2
  rw [he, ← h3, ← h4]
theorem Got.start (hr : Reads D N encH m) (P : Int → Ent → Bool) (hN : N ≤ 2048) : Got m P (Maps.has D) [] := by
  refine ⟨List.nodup_nil, fun b => ⟨fun h => (by cases h), fun ⟨h1, h2⟩ => ?_⟩⟩
  unfold wants at h1
  cases he : m b with
  | none => rw [he] at h1; cases h1
  | some e =>
    have := hr.lo b e he
    rw [hr.has b (by unfold I64; omega), he] at h2
    cases h2
theorem Got.yes (h : Got m P left zs) {x : Int} {e : Ent} (hx : I64 x) (hm : m x = some e) (hP : P x e = true) (hl : left (.int .i64 x) = true) : Got m P (fun z => left z && !z.sameKey (.int .i64 x)) (zs ++ [x]) := by
  have hn : x ∉ zs := fun q => by have := ((h.2 x).1 q).2; rw [hl] at this; cases this
  refine ⟨List.nodup_append.2 ⟨h.1, by simp, fun a ha b hb e => by rw [List.mem_singleton] at hb; subst hb; exact hn (e ▸ ha)⟩, fun b => ?_⟩
  rw [List.mem_append, List.mem_singleton, h.2 b]
  by_cases q : b = x
  · subst q
    refine ⟨fun _ => ⟨by unfold wants; rw [hm]; exact hP, ?_⟩, fun _ => .inr rfl⟩
    show (left _ && !Lit.sameKey _ _) = false
    rw [same_int hx]; simp
  · have e1 : ((left (.int .i64 b)) && !(Lit.int .i64 b).sameKey (.int .i64 x)) = left (.int .i64 b) := by rw [sameKey_ne (key_ne q)]; simp
    simp only [e1]
    constructor
    · rintro (h | h)
      · exact h
      · exact absurd h q
    · exact .inl
theorem Got.no (h : Got m P left zs) {x : Int} {e : Ent} (hm : m x = some e) (hP : P x e = false) : Got m P (fun z => left z && !z.sameKey (.int .i64 x)) zs := by
  refine ⟨h.1, fun b => ?_⟩
  rw [h.2 b]
  by_cases q : b = x
  · subst q
    have : wants m P b = false := by unfold wants; rw [hm]; exact hP
    rw [this]
    simp
  · have e1 : ((left (.int .i64 b)) && !(Lit.int .i64 b).sameKey (.int .i64 x)) = left (.int .i64 b) := by rw [sameKey_ne (key_ne q)]; simp
    simp only [e1]
theorem Got.done (h : Got m P left zs) (hr : Reads D N encH m) (hl : ∀ k, left k = false) : zs.mergeSort leI = pickL N (wants m P) := by
  refine sort_eq h.1 (pickL_rise _ _) fun b => ?_
  rw [h.2 b, mem_pickL]
  constructor
  · rintro ⟨h1, _⟩
    refine ⟨?_, h1⟩
    unfold wants at h1
    cases he : m b with
    | none => rw [he] at h1; cases h1
    | some e => exact hr.lo b e he
  · rintro ⟨_, h1⟩
    exact ⟨h1, hl _⟩
end
section
variable (w : World) (cb bm pm : Nat) (c : CS) (av : Av)
set_option maxRecDepth 100000 in
set_option maxHeartbeats 2000000 in
theorem cRising (fid : Nat) (caps : Array Value) (P : Int → Ent → Bool) (hE : ∀ args W, (callFunc fid args).run Try.prog W = .ok (.enter fid args) W) (h : CAt w cb bm pm c av)
    (hT : ∀ (k : Int) (X : Blk) (d : Bool) (w' : World), I64 k → Below w.heap.size w w' → Calls Try.prog fid (#[.int .i64 k, .agg (hcell X d)] ++ caps) w' fun e w'' => e = .returned (.bool (P k (X, d))) ∧ Below w'.heap.size w' w'') :
    Calls Try.prog 36 #[.pointer (some ⟨cb, 0, none⟩), .func (.func fid) #[] caps] w fun e w' => (∃ v, e = .returned v ∧ w'.ownsRow w.heap.size 3 1 v (pickL c.n (wants c.m P)).length (iC (pickL c.n (wants c.m P)))) ∧ Below w.heap.size w w' := by
  have HT := Lib.hid hT
  have M := Lib.hid (cMade w cb bm pm c av h)
  have c1 := h.c1
  obtain ⟨D, hown, hr⟩ := h.has
  have HO := Lib.hid hown
  have HR := Lib.hid hr
  have HN : Hid (c.n ≤ 2048) := Lib.hid (dk_ok h.disk).2.1
  have HS : Hid (Maps.size D ≤ c.n) := Lib.hid (reads_size hown hr)
  have B0 := Lib.hid (Below.refl w.heap.size w)
  have LB := Lib.hid h.has.lt
  obtain ⟨i0, hi0, hzz⟩ := Option.map_eq_some_iff.1 int_info3
  simp only [Prod.mk.injEq] at hzz
  obtain ⟨hz0, hz1, hz2⟩ := hzz
  have HZ0 := Lib.hid hz0
  have HZ1 := Lib.hid hz1
  have HZ2 := Lib.hid hz2
  have HI0 := Lib.hid hi0
  clear hT h hown hr hz0 hz1 hz2 hi0
  generalize c.n = N at *
  generalize c.m = m at *
  have hz := fun W => zero_held W
  go_enter Try.func36, Try.ntmps36
  go_wp2_with (first | (go_at_call 34; refine M.out.mono ?_; rintro e w1 ⟨rfl, hw1⟩; obtain rfl := hw1.symm; clear M) | (at_range; refine wpList_range_own _ rfl (.tmp 14) 35 rfl 3 75 int_law Try.underlying35 heldR bm N D rfl HO.out ?_; intro w0 hrg0 hg0 hs0))
  go_frame
  have G0 : Hid (w0.ranges Try.prog 3 heldR bm w.heap.size N D (Maps.has D) (Maps.size D)) := Lib.hid hrg0
  have BW0 : Hid (Below w.heap.size w w0) := Lib.hid (grown_below hg0 (fun j e => by cases e) (Nat.le_refl _))
  have Z0 : Hid (w0.heap.size = w.heap.size + 1) := Lib.hid hs0
  clear hrg0 hg0 hs0 c1
  go_loopw [5] (fun v wr => ∃ (left : Lit → Bool) (cnt : Nat) (zs : List Int), Hid (wr.ranges Try.prog 3 heldR bm w.heap.size N D left cnt) ∧ Hid (wr.ownsRow w.heap.size 3 1 v zs.length (iC zs)) ∧ Hid (Below w.heap.size w wr) ∧ Hid (Got m P left zs) ∧ Hid (zs.length + cnt ≤ 2048) ∧ Hid (w.heap.size < wr.heap.size)) (fun _ wr => wr.rangeLeft bm w.heap.size)
  case atStart => exact ⟨_, _, [], G0, Lib.hid (World.ownsRow_nil _ _ _ _), BW0, Lib.hid (Got.start HR.out P HN.out), Lib.hid (by have := HS.out; have := HN.out; simp; omega), Lib.hid (by have := Z0.out; omega)⟩
  case round =>
    clear G0 BW0 Z0 B0 HO
    obtain ⟨left, cnt, zs, RG, OW, BW, GT, LN, SZ⟩ := hrel
    go_wp2_with (first | (at_next; refine wpList_next_ranges (α := Int) (β := Ent) _ rfl (.tmp 15) rfl 3 int_law heldR (Value.int .i64) (fun e => .agg (hcell e.1 e.2)) (fun key kl hk => by obtain ⟨x, rfl, _⟩ := keyOf_int_inv Try.underlying3 hk; exact ⟨x, rfl⟩) (fun v y hv => by obtain ⟨X, d, rfl, _⟩ := heldR_inv hv; exact ⟨(X, d), rfl⟩) bm w.heap.size N D left cnt rfl RG.out ?_ ?_; intro _ hl0; rotate_left; intro x e kl y w1 cnt1 hkey hlk hv hat hrg1 hlt hg1 hs1 hen; obtain ⟨X, d⟩ := e; dsimp only at hv hen; have HKEY := Lib.hid hkey; have HLK := Lib.hid hlk; have HV := Lib.hid hv; have HAT := Lib.hid hat; have RG1 := Lib.hid hrg1; have HLT := Lib.hid hlt; have HG1 := Lib.hid hg1; have HS1 := Lib.hid hs1; clear hkey hlk hv hat hrg1 hlt hg1 hs1; rotate_left) | (refine store_held rfl (.tmp 7) (.tmp 20) rfl X d rfl rfl ?_) | (refine load_held rfl (.tmp 7) rfl _ rfl X d (HVar.new _ X d) ?_))
    · have OW1 : Hid (wr.ownsRow w.heap.size 3 1 u5 zs.length (iC zs)) := OW
      refine (sort_own wr w.heap.size u5 zs OW.out (by have := LN.out; omega)).mono ?_
      rintro e w2 ⟨rfl, ho2, hg2⟩
      have B2 : Hid (Below w.heap.size w w2) := Lib.hid (BW.out.trans (grown_below hg2 (fun j e => (OW.out.lt j e).1) BW.out.size))
      have O2 := Lib.hid ho2
      have GD := Lib.hid (GT.out.done HR.out hl0)
      clear ho2 hg2 OW OW1 BW GT RG hl0
      go_wp2_with fail
      refine bodyPost_ret (results_tmp Try.results36 _ _ _) rfl ⟨⟨_, rfl, ?_⟩, B2.out⟩
      have h := O2.out
      have hl : zs.length = (pickL N (wants m P)).length := by rw [← GD.out]; simp
      rw [GD.out, hl] at h
      exact h
    · obtain ⟨x', ex, rfl, hwf⟩ := keyOf_int_inv Try.underlying3 HKEY.out
      injection ex with _ ex
      subst ex
      have HX : Hid (I64 x) := Lib.hid (by simp [Lit.wf, IntKind.min, IntKind.max, IntKind.signed, IntKind.bits] at hwf; unfold I64; omega)
      have ME : Hid (m x = some (X, d)) := Lib.hid (by
        have h1 := HV.out
        rw [heldR_mk] at h1
        injection h1 with h1
        subst h1
        exact got_entry HR.out HX.out HAT.out)
      have BW1 : Hid (Below w.heap.size w w1) := Lib.hid (BW.out.trans (grown_below HG1.out (fun j e => by cases e; exact Nat.le_refl _) BW.out.size))
      have BA := Lib.hid (BW1.out.alloc BW1.out.size (.cells (hcell X d) 75))
      have OW1 : Hid (w1.ownsRow w.heap.size 3 1 u5 zs.length (iC zs)) := Lib.hid (OW.out.kept HG1.out (.inr (row_ne_iter OW.out RG.out).symm))
      have OA : Hid ((w1.alloc (.cells (hcell X d) 75)).ownsRow w.heap.size 3 1 u5 zs.length (iC zs)) := Lib.hid (OW1.out.alloc _)
      have RA := Lib.hid (RG1.out.alloc (.cells (hcell X d) 75))
      have SA : Hid (w.heap.size < (w1.alloc (.cells (hcell X d) 75)).heap.size) := Lib.hid (by have := SZ.out; have := HS1.out; simp; omega)
      have T := Lib.hid (HT.out x X d _ HX.out BA.out)
      clear hen hwf HKEY HV HAT BW BW1 OW OW1 RG1 HG1 HS1 SZ
      generalize w1.alloc (.cells (hcell X d) 75) = wa at BA OA RA SA T ⊢
      obtain ⟨pv, hpv⟩ : ∃ pv, P x (X, d) = pv := ⟨_, rfl⟩
      rw [hpv] at T
      have HPV := Lib.hid hpv
      clear hpv
      refine T.out.mono ?_
      rintro e w3 ⟨rfl, hb3⟩
      have B3 := Lib.hid (BA.out.trans (hb3.mono BA.out.size))
      have O3 := Lib.hid (own_keepI OA.out hb3)
      have R3 := Lib.hid (RA.out.kept (below_grown hb3) (by simp) (by simp))
      have S3 : Hid (w.heap.size < w3.heap.size) := Lib.hid (Nat.lt_of_lt_of_le SA.out hb3.size)
      clear hb3 BA OA RA SA T
      cases pv
      · go_wp2_with fail
        go_roundw
        case rel => exact ⟨_, cnt1, zs, R3, O3, B3, Lib.hid (GT.out.no ME.out HPV.out), Lib.hid (by have := LN.out; have := HLT.out; omega), S3⟩
        case measure => rw [R3.out.left_eq, RG.out.left_eq]; exact HLT.out
      · go_wp2_with (first
          | (refine build_int1 rfl (.tmp 26) rfl x rfl ?_)
          | (at_builtin; refine wpList_append_lies _ rfl (.tmp 25) (.tmp 27) 50 rfl w.heap.size 3 i0 _ 1 8 Try.underlying50 HI0.out HZ0.out HZ1.out HZ2.out rfl (by omega) _ zs.length _ rfl (own_keepI O3.out (below_newI w3 _)) ⟨w3.heap.size, 0, none⟩ 1 1 (iC [x]) rfl rfl (World.news_of_block (heap_alloc_new w3 _)) (iC_one _) (by omega) (by have := LN.out; simp only [maxLen]; omega) (by have := LN.out; omega) (by have := S3.out; simp; omega) _ rfl ?_; intro gg cap w5 hown1 hgrow hat2 hltg))
        have OA := own_keepI O3.out (below_newI w3 (.cells (iC [x]).toArray 3))
        have B5 : Hid (Below w.heap.size w w5) := Lib.hid ((B3.out.alloc B3.out.size _).trans (grown_below hgrow (fun j e => (OA.lt j e).1) (by have := S3.out; simp; omega)))
        have R5 := Lib.hid ((R3.out.alloc (.cells (iC [x]).toArray 3)).kept hgrow (row_ne_low OA LB.out) (row_ne_iter OA (R3.out.alloc _)))
        have O5 : Hid (w5.ownsRow w.heap.size 3 1 (.slice (some ⟨gg, 0, none⟩) (zs.length + 1) cap) (zs ++ [x]).length (iC (zs ++ [x]))) := Lib.hid (by rw [List.length_append, show iC (zs ++ [x]) = iC zs ++ iC [x] by simp [iC]]; exact hown1)
        have S5 : Hid (w.heap.size < w5.heap.size) := Lib.hid (by have := S3.out; have := hgrow.size; simp at this; omega)
        clear hown1 hgrow hat2 hltg OA
        go_roundw
        case rel => exact ⟨_, cnt1, zs ++ [x], R5, O5, B5, Lib.hid (GT.out.yes HX.out ME.out HPV.out HLK.out), Lib.hid (by have := LN.out; have := HLT.out; simp; omega), S5⟩
        case measure => rw [R5.out.left_eq, RG.out.left_eq]; exact HLT.out
end
section
variable (w : World) (cb bm pm : Nat) (c : CS) (av : Av)
theorem dirty_wants : c.dirty = pickL c.n (wants c.m fun _ e => e.2) := pickL_congr fun _ _ _ => rfl
theorem clean_wants : c.clean = pickL c.n (wants c.m fun b e => !e.2 && !c.pin b) := pickL_congr fun _ _ _ => rfl
theorem dirty_enters : ∀ (args : Array Value) (w : World), (callFunc 37 args).run Try.prog w = .ok (.enter 37 args) w := enters_of Try.func37 (by kernel_rfl) rfl
theorem clean_enters : ∀ (args : Array Value) (w : World), (callFunc 38 args).run Try.prog w = .ok (.enter 38 args) w := enters_of Try.func38 (by kernel_rfl) rfl
/-- A told list of the call's own. -/
def ToldI (base : Nat) (l : List Int) (e : Ending) (w : World) : Prop := ∃ v, e = .returned v ∧ w.ownsRow base 3 1 v l.length (iC l)
theorem cDirty (h : CAt w cb bm pm c av) : Calls Try.prog 15 #[.pointer (some ⟨cb, 0, none⟩)] w fun e w' => ToldI w.heap.size c.dirty e w' ∧ Below w.heap.size w w' := by
  have R := Lib.hid (cRising w cb bm pm c av 37 #[] (fun _ e => e.2) dirty_enters h (fun k X d w' _ _ => cDirty1 w' k X d))
  rw [← dirty_wants] at R
  clear h
  generalize c.dirty = l at R ⊢
  go_enter Try.func15, Try.ntmps15
  go_wp2_with (go_at_call 36; refine R.out.mono ?_; rintro e w1 ⟨⟨v, rfl, ho⟩, hb⟩)
  refine bodyPost_ret (results_tmp Try.results15 _ _ _) rfl ⟨⟨v, rfl, ho⟩, hb⟩
theorem cClean (h : CAt w cb bm pm c av) : Calls Try.prog 16 #[.pointer (some ⟨cb, 0, none⟩)] w fun e w' => ToldI w.heap.size c.clean e w' ∧ Below w.heap.size w w' := by
  have B0 := below_newI w (.cells #[.pointer (some ⟨cb, 0, none⟩)] 26)
  have c0 : (w.alloc (.cells #[.pointer (some ⟨cb, 0, none⟩)] 26)).cell? ⟨w.heap.size, 0, none⟩ = some (.pointer (some ⟨cb, 0, none⟩)) := (cell_of_row _ w.heap.size 0 _ _ (0, 0) (heap_alloc_new w _)).trans rfl
  have LT : w.heap.size < (w.alloc (.cells #[.pointer (some ⟨cb, 0, none⟩)] 26)).heap.size := by simp
  have hA := h.below B0
  have R := Lib.hid (cRising _ cb bm pm c av 38 #[.pointer (some ⟨w.heap.size, 0, none⟩)] (fun b e => !e.2 && !c.pin b) clean_enters hA (fun k X d w' hk hb => cClean1 w' cb bm pm c av w.heap.size k X d hk (hA.below hb) (by rw [hb.cell LT]; exact c0)))
  rw [← clean_wants] at R
  have B1 := Lib.hid B0
  clear h hA B0 LT
  generalize c.clean = l at R ⊢
  go_enter Try.func16, Try.ntmps16
  go_wp2_with (go_at_call 36; refine R.out.mono ?_; rintro e w1 ⟨⟨v, rfl, ho⟩, hb⟩)
  refine bodyPost_ret (results_tmp Try.results16 _ _ _) rfl ⟨⟨v, rfl, own_monoI ho B1.out.size⟩, B1.out.trans (hb.mono B1.out.size)⟩
end
end Go.Proofs.Ytkolpdllogpklaa
