import Derived.Test.YtoopoemkickpkaaDoorCrcLaw6
import Derived.Deep.AppendLies
import Derived.OwnWalk
import Derived.Test.YtoopoemkickpkaaDoorAnyOrder
import Derived.BigFrame
namespace Go.Proofs.YtoopoemkickpkaaDoor
open Go.RowKit CrcM

theorem vals8_succ (f : Nat → Nat) (n : Nat) : vals8 f (n + 1) = vals8 f n ++ [.int .u8 ((f n : Nat) : Int)] := by
  unfold vals8
  rw [List.range_succ, List.map_append]
  rfl
theorem own_base {w : World} {base : Nat} {e : TypeId} {v : Value} {n : Nat} {xs : List Value} (h : w.ownsRow base e 1 v n xs) {b : Nat} (hb : b < base) : v.ownBlock ≠ some b := by
  rcases h.2 with ⟨rfl, _⟩ | ⟨g, cap, cur, rfl, hg, _⟩
  · simp [Value.ownBlock]
  · intro he
    have : g = b := by simpa [Value.ownBlock] using he
    omega
theorem run_min_three {P : Program} (ts : Array TypeId) (t : TypeId) (x y z : Nat) (w : World) : (Builtin.min_ ts t #[.int .i64 (x : Int), .int .i64 (y : Int), .int .i64 (z : Int)]).run P w = .ok (.int .i64 ((min x (min y z) : Nat) : Int)) w := by
  simp [Builtin.min_, Builtin.min2]
  split <;> split <;> omega
theorem xor_three {x y z : Nat} (hx : x < 256) (hy : y < 256) (hz : z < 256) : bits .xor .u8 (bits .xor .u8 (x : Int) (y : Int)) (z : Int) = ((x ^^^ y ^^^ z : Nat) : Int) := by
  rw [u8_xor_nat x y hx hy, u8_xor_nat _ z (Nat.xor_lt_two_pow (n := 8) hx hy) hz]
/-- The block at G holds one slice, however many blocks were made since. -/
def Has (W : World) (G : Nat) (v : Value) : Prop := W.cell? ⟨G, 0, none⟩ = some v ∧ G < W.heap.size
theorem Has.new (W : World) (v : Value) (t : TypeId) {G : Nat} (h : G = W.heap.size) : Has (W.alloc (.cells #[v] t)) G v := by
  subst h
  refine ⟨?_, by simp⟩
  rw [cell_of_row _ _ 0 _ t (0, 0) (heap_alloc_new W _)]
  rfl
theorem Has.below {W W' : World} {G : Nat} {v : Value} (hb : Below W.heap.size W W') (h : Has W G v) : Has W' G v :=
  ⟨(hb.cell (p := ⟨G, 0, none⟩) h.2).trans h.1, Nat.lt_of_lt_of_le h.2 hb.size⟩
theorem Has.alloc {W : World} {G : Nat} {v : Value} {o : Obj} (h : Has W G v) : Has (W.alloc o) G v := h.below ((Below.refl _ _).alloc (Nat.le_refl _) o)
theorem Has.drew {W : World} {G : Nat} {v : Value} (h : Has W G v) : Has W.drew G v := h
theorem Has.one {W : World} {G k c : Nat} {A : Option Addr} {f : Nat → Nat} (hE : Env W) (h : Has W G (.slice A k c)) (hr : Row W A k f) (hk : k ≤ 100000) : Pcs W (some ⟨G, 0, none⟩) [(k, f)] := by
  refine ⟨hE, by simp [hk], fun _ => ⟨G, 0, rfl, h.2, fun i p hp => ?_⟩⟩
  match i, hp with
  | 0, hp => cases hp; exact ⟨A, c, h.1, hr⟩
theorem belowAlloc {w W : World} {o : Obj} (h : Below w.heap.size w W) : Below w.heap.size w (W.alloc o) := h.alloc h.size o
theorem belowDrew {B : Nat} {w W : World} (h : Below B w W) : Below B w W.drew := h.drew
theorem belowTrans {w W W' : World} (hb : Below W.heap.size W W') (h : Below w.heap.size w W) : Below w.heap.size w W' := h.trans (hb.mono h.size)
theorem u8_info7 : (Tryd.prog.info? 5).map (fun i => (i.zero, i.size, i.bytes)) = some (some (.int .u8 0), 1, 1) := by kernel_rfl

/-! The last statement's region: what each operation leaves in its slot, whatever came before. -/
def dstOf (i : Nat) : Nat := if i = 21 then 6 else 43 + i
theorem dstOf_inj {i j : Nat} (hi : i < 22) (hj : j < 22) (h : dstOf i = dstOf j) : i = j := by
  unfold dstOf at h
  split at h <;> split at h <;> omega
structure MixV where
  A : Option Addr
  B : Option Addr
  C : Option Addr
  A' : Option Addr
  na : Nat
  ca : Nat
  nb : Nat
  cb : Nat
  nc : Nat
  cc : Nat
  k : Nat
  c' : Nat
  f : Nat → Nat
  g : Nat → Nat
  h : Nat → Nat
def mixS (m : MixV) : Nat → World → Value → Prop
  | 0, _, v => v = .slice m.A' m.k m.c'
  | 1, W, v => ∃ G, v = .slice (some ⟨G, 0, none⟩) 1 1 ∧ Has W G (.slice m.A' m.k m.c')
  | 2, _, v => v = .int .u32 ((sums [(m.k, fun i => m.f i ^^^ m.g i ^^^ m.h i)] : Nat) : Int)
  | 3, _, v => v = .slice m.A m.na m.ca
  | 4, _, v => v = .int .i64 (m.k : Nat)
  | 5, _, v => v = .slice m.A m.k m.ca
  | 6, W, v => ∃ G, v = .slice (some ⟨G, 0, none⟩) 1 1 ∧ Has W G (.slice m.A m.k m.ca)
  | 7, _, v => v = .int .u32 ((sums [(m.k, m.f)] : Nat) : Int)
  | 8, _, v => v = .slice m.B m.nb m.cb
  | 9, _, v => v = .int .i64 (m.k : Nat)
  | 10, _, v => v = .slice m.B m.k m.cb
  | 11, W, v => ∃ G, v = .slice (some ⟨G, 0, none⟩) 1 1 ∧ Has W G (.slice m.B m.k m.cb)
  | 12, _, v => v = .int .u32 ((sums [(m.k, m.g)] : Nat) : Int)
  | 13, _, v => v = .int .u32 ((sums [(m.k, m.f)] ^^^ sums [(m.k, m.g)] : Nat) : Int)
  | 14, _, v => v = .slice m.C m.nc m.cc
  | 15, _, v => v = .int .i64 (m.k : Nat)
  | 16, _, v => v = .slice m.C m.k m.cc
  | 17, W, v => ∃ G, v = .slice (some ⟨G, 0, none⟩) 1 1 ∧ Has W G (.slice m.C m.k m.cc)
  | 18, _, v => v = .int .u32 ((sums [(m.k, m.h)] : Nat) : Int)
  | 19, _, v => v = .int .u32 ((sums [(m.k, fun i => m.f i ^^^ m.g i ^^^ m.h i)] : Nat) : Int)
  | 20, _, v => v = .bool true
  | 21, _, v => v = .bool true
  | _, _, _ => True
theorem mixS_below {m : MixV} {W W' : World} (hb : Below W.heap.size W W') {v : Value} : ∀ {i : Nat}, mixS m i W v → mixS m i W' v := by
  intro i h
  unfold mixS at h ⊢
  split at h <;> first
    | exact h
    | (obtain ⟨G, e, hh⟩ := h; exact ⟨G, e, hh.below hb⟩)
/-- The slots that the region reads and does not write. -/
def mixFix (m : MixV) (a : Act) : Prop :=
  a.tmps.size = 64 ∧ a.defers = [] ∧ a.eval (.tmp 0) = .slice m.A m.na m.ca ∧ a.eval (.tmp 1) = .slice m.B m.nb m.cb ∧ a.eval (.tmp 2) = .slice m.C m.nc m.cc ∧ a.eval (.tmp 7) = .int .i64 (m.k : Nat) ∧ a.eval (.tmp 8) = .slice m.A' m.k m.c'
def mixI (m : MixV) (w : World) (listed : Array Bool) (a : Act) (w' : World) : Prop :=
  Below w.heap.size w w' ∧ mixFix m a ∧ ∀ i, i < 22 → listed.getD i false = true → mixS m i w' (a.eval (.tmp (dstOf i)))
theorem eval_put_same {a : Act} {d : Nat} {v : Value} (h : d < a.tmps.size) : (a.put (some d) v).eval (.tmp d) = v := by
  simp [Act.put, Act.eval, Array.getD_eq_getD_getElem?, h]
theorem eval_put_ne {a : Act} {d t : Nat} {v : Value} (h : d ≠ t) : (a.put (some d) v).eval (.tmp t) = a.eval (.tmp t) := Act.eval_put (fun d' e q => by cases e; cases q; exact h rfl)
theorem mixFix.put {m : MixV} {a : Act} (h : mixFix m a) (i : Nat) (v : Value) : mixFix m (a.put (some (dstOf i)) v) := by
  obtain ⟨h1, h2, h3, h4, h5, h6, h7⟩ := h
  have hd : ∀ t, t ∈ [0, 1, 2, 7, 8] → dstOf i ≠ t := by
    intro t ht
    unfold dstOf
    simp only [List.mem_cons, List.not_mem_nil, or_false] at ht
    split <;> omega
  refine ⟨by simp [Act.put, h1], h2, ?_, ?_, ?_, ?_, ?_⟩
  · rw [eval_put_ne (hd 0 (by decide))]; exact h3
  · rw [eval_put_ne (hd 1 (by decide))]; exact h4
  · rw [eval_put_ne (hd 2 (by decide))]; exact h5
  · rw [eval_put_ne (hd 7 (by decide))]; exact h6
  · rw [eval_put_ne (hd 8 (by decide))]; exact h7
theorem mix_step {m : MixV} {w w' : World} {ops : Array Oper} {Q : Exit → Act → World → Prop} {listed : Array Bool} {a : Act} {i : Nat} {o : Oper} (ho : ops[i]? = some o) (hi : i < 22) (hil : i < listed.size) (hg : o.guard = none)
    (hI : mixI m w listed a w') (hw : o.wp Tryd.prog a w' (fun a' w'' => ∃ v, a' = a.put (some (dstOf i)) v ∧ mixS m i w'' v ∧ Below w'.heap.size w' w'') Q) :
    wpOp Tryd.prog ops Q i (mixI m w (listed.setIfInBounds i true)) a w' := by
  unfold wpOp
  rw [ho]
  have hwant : Region.wanted o (yielded ops a.tmps) = true := by simp [Region.wanted, hg]
  simp only [hwant, if_true]
  refine .inl (Oper.wp_mono ?_ hw)
  rintro a' w'' ⟨v, rfl, hS, hB⟩
  obtain ⟨h1, h2, h3⟩ := hI
  refine ⟨belowTrans hB h1, h2.put i v, fun j hj hlj => ?_⟩
  rw [getD_set hil] at hlj
  have hsz : dstOf i < a.tmps.size := by rw [h2.1]; unfold dstOf; split <;> omega
  by_cases hij : i = j
  · subst hij
    rw [eval_put_same hsz]
    exact hS
  · rw [if_neg hij] at hlj
    rw [eval_put_ne (fun e => hij (dstOf_inj hi hj e))]
    exact mixS_below hB (h3 j hj hlj)
theorem act64 {a : Act} (h : a.tmps.size = 64) (hd : a.defers = []) : ∃ x : Nat → Value, x = (fun t => a.eval (.tmp t)) ∧ a = ⟨#[x 0, x 1, x 2, x 3, x 4, x 5, x 6, x 7, x 8, x 9, x 10, x 11, x 12, x 13, x 14, x 15, x 16, x 17, x 18, x 19, x 20, x 21, x 22, x 23, x 24, x 25, x 26, x 27, x 28, x 29, x 30, x 31, x 32, x 33, x 34, x 35, x 36, x 37, x 38, x 39, x 40, x 41, x 42, x 43, x 44, x 45, x 46, x 47, x 48, x 49, x 50, x 51, x 52, x 53, x 54, x 55, x 56, x 57, x 58, x 59, x 60, x 61, x 62, x 63], []⟩ := by
  refine ⟨_, rfl, ?_⟩
  obtain ⟨⟨l⟩, ds⟩ := a
  have hd' : ds = [] := hd
  subst hd'
  have hl : l.length = 64 := h
  have e : l = (List.range 64).map fun t => (Act.mk ⟨l⟩ []).eval (.tmp t) := by
    refine List.ext_getElem (by simp [hl]) fun i h1 h2 => ?_
    simp [Act.eval, Array.getD_eq_getD_getElem?, h1]
  exact congrArg (fun l => Act.mk ⟨l⟩ []) e
theorem wp_value {P : Program} {o : Oper} {a : Act} {w w' : World} {v : Value} {K : Act → World → Prop} {Q : Exit → Act → World → Prop} (hrun : (execOp a.eval o).run P w = .ok (.value v) w') (hk : K (a.put o.dst v) w') : o.wp P a w K Q := by
  unfold Oper.wp
  rw [hrun]
  exact hk
theorem wp_enter {P : Program} {o : Oper} {a : Act} {w w' : World} {f : FuncId} {args : Array Value} {K : Act → World → Prop} {Q : Exit → Act → World → Prop} (hrun : (execOp a.eval o).run P w = .ok (.enter f args) w') (hk : Calls P f args w' fun e w'' => ∃ v, e = .returned v ∧ K (a.put o.dst v) w'') : o.wp P a w K Q := by
  unfold Oper.wp
  rw [hrun]
  exact hk.mono fun e w'' ⟨v, he, h⟩ => by subst he; exact h
theorem region_at {P : Program} {c : Code} {Q : Exit → Act → World → Prop} {a : Act} {w : World} (h : ∀ A0 : Act, A0 = a → c.wp P Q A0 w) : c.wp P Q a w := h a rfl
def backB (ops : Array Oper) : Bool := (List.range ops.size).all fun i => ((ops[i]?).map (·.after.all fun e => decide (e.on < i))).getD true
theorem back_of {ops : Array Oper} (h : backB ops = true) : ∀ (i : Nat) (o : Oper), ops[i]? = some o → ∀ e ∈ o.after, e.on < i := by
  intro i o ho e he
  have hi : i < ops.size := by
    rcases Nat.lt_or_ge i ops.size with h | h
    · exact h
    · rw [Array.getElem?_eq_none h] at ho; cases ho
  unfold backB at h
  rw [List.all_eq_true] at h
  have := h i (List.mem_range.2 hi)
  rw [ho] at this
  simp only [Option.map_some, Option.getD_some, Array.all_eq_true'] at this
  exact of_decide_eq_true (this e he)

set_option maxRecDepth 100000 in
set_option maxHeartbeats 3200000 in
theorem crcMixed_any (hS : SumSays) (hJ : JoinSays) (A B C : Option Addr) (na ca nb cb nc cc : Nat) (f g h : Nat → Nat) (w : World) (hE : Env w) (hA : Row w A na f) (hB : Row w B nb g) (hC : Row w C nc h)
    (hca : na ≤ ca ∧ ca ≤ 9223372036854775807) (hcb : nb ≤ cb ∧ cb ≤ 9223372036854775807) (hcc : nc ≤ cc ∧ cc ≤ 9223372036854775807) :
    Calls Tryd.prog 7 #[.slice A na ca, .slice B nb cb, .slice C nc cc] w fun e w' => e = .returned (.bool true) ∧ Below w.heap.size w w' := by
  have HE := Lib.hid hE
  clear hE
  have HS := Lib.hid hS
  have HJ := Lib.hid hJ
  have HA := Lib.hid hA
  have HB := Lib.hid hB
  have HC := Lib.hid hC
  have hmin := fun (ts : Array TypeId) (t : TypeId) (w : World) => run_min_three (P := Tryd.prog) ts t na nb nc w
  obtain ⟨n, hn⟩ : ∃ n, min na (min nb nc) = n := ⟨_, rfl⟩
  rw [hn] at hmin
  clear hS hJ hA hB hC
  have n1 : n ≤ na := by omega
  have n2 : n ≤ nb := by omega
  have n3 : n ≤ nc := by omega
  clear hn
  by_cases h1 : 20000 < n
  · have t1 : decide ((20000 : Int) < n) = true := by simp; omega
    go_enter Tryd.func7, Tryd.ntmps7
    go_wp2_with fail
    refine (crcAwake_any HS.out HJ.out _ HE.out).mono ?_
    rintro e1 w1 ⟨rfl, hb⟩
    have B1 := Lib.hid hb
    clear hb
    go_wp2_with fail
    go_ret
    exact ⟨rfl, B1.out⟩
  have t1 : decide ((20000 : Int) < n) = false := by simp; omega
  have s1 : (n : Int) ≤ ca := by omega
  have s2 : (n : Int) ≤ cb := by omega
  have s3 : (n : Int) ≤ cc := by omega
  have s4 : (0 : Int) ≤ n := by omega
  go_enter Tryd.func7, Tryd.ntmps7
  go_wp2_with fail
  refine (crcAwake_any HS.out HJ.out _ HE.out).mono ?_
  rintro e1 w1 ⟨rfl, hb⟩
  have B1 := Lib.hid hb
  clear hb
  go_wp2_with fail
  go_loopw [8, 9] (fun v i wr => ∃ k : Nat, k ≤ n ∧ i = .int .i64 k ∧ Hid (wr.ownsRow w.heap.size 5 1 v k (vals8 (fun i => f i ^^^ g i ^^^ h i) k)) ∧ Hid (Below w.heap.size w wr)) (fun _ i _ => n - (intOf i).toNat)
  case atStart => exact ⟨0, Nat.zero_le _, rfl, Lib.hid (World.ownsRow_nil _ _ _ _), B1⟩
  case round =>
    obtain ⟨k, hk, rfl, HO, HW⟩ := hrel
    by_cases hl : k < n
    · have HA2 := Lib.hid (HA.out.below HW.out)
      obtain ⟨bA, oA, rfl, lA, cA⟩ := HA2.out.2 (by omega)
      have HB2 := Lib.hid (HB.out.below HW.out)
      obtain ⟨bB, oB, rfl, lB, cB⟩ := HB2.out.2 (by omega)
      have HC2 := Lib.hid (HC.out.below HW.out)
      obtain ⟨bC, oC, rfl, lC, cC⟩ := HC2.out.2 (by omega)
      obtain ⟨_, _, eA, lA0, _⟩ := HA.out.2 (by omega)
      cases eA
      obtain ⟨_, _, eB, lB0, _⟩ := HB.out.2 (by omega)
      cases eB
      obtain ⟨_, _, eC, lC0, _⟩ := HC.out.2 (by omega)
      cases eC
      have kA := cA k (by omega)
      have kB := cB k (by omega)
      have kC := cC k (by omega)
      have ag := own_base HO.out lA0
      have ak := own_base HO.out lB0
      have av := own_base HO.out lC0
      have hsz := HW.out.size
      have j1 : (0 : Int) ≤ k := by omega
      have j2 : (k : Int) < n := by omega
      have j3 : (k : Int) < na := by omega
      have j4 : (k : Int) < nb := by omega
      have j5 : (k : Int) < nc := by omega
      obtain ⟨i0, hi0, hz0, hz1, hz2⟩ := info_parts u8_info7
      clear cA cB cC HA2 HB2 HC2
      go_wp2_with fail
      go_region_held3 (fun w' => w'.cell? ⟨bA, oA + k, none⟩ = some (.int .u8 ((f k : Nat) : Int)) ∧ w'.cell? ⟨bB, oB + k, none⟩ = some (.int .u8 ((g k : Nat) : Int)) ∧ w'.cell? ⟨bC, oC + k, none⟩ = some (.int .u8 ((h k : Nat) : Int)))
        (first
          | go_keep
          | (go_split_ands
             refine ⟨?_, ?_, ?_⟩
             · (rw [hgrow.cell_far _ (by simp; omega) (Ne.symm ag)]; assumption)
             · (rw [hgrow.cell_far _ (by simp; omega) (Ne.symm ak)]; assumption)
             · (rw [hgrow.cell_far _ (by simp; omega) (Ne.symm av)]; assumption)))
        ((refine step_append_lies _ (by rfl) _ _ _ (by rfl) w.heap.size 5 i0 _ 1 1 Tryd.underlying24 hi0 hz0 hz1 hz2 rfl (by omega) u8 k _ (by rfl) ((HO.out.alloc _).drew)
            ⟨wr.heap.size, 0, none⟩ 1 1 [.int .u8 (bits .xor .u8 (bits .xor .u8 ((f k : Nat) : Int) ((g k : Nat) : Int)) ((h k : Nat) : Int))] (by rfl) (by rfl) (World.news_of_block (cs := #[.int .u8 (bits .xor .u8 (bits .xor .u8 ((f k : Nat) : Int) ((g k : Nat) : Int)) ((h k : Nat) : Int))]) (t := 5) (fr := (0, 0)) (heap_alloc_new wr _)) (by simp [Value.oneCell'])
            (by omega) (by simp only [maxLen]; omega) (by omega) (by simp; omega) (wr.heap.size + 1) (by simp) ?_; intro gg cap w2 hown1 hgrow hat hlt))
      rw [xor_three (HA.out.1 k) (HB.out.1 k) (HC.out.1 k)] at hown1
      have hown2 := Lib.hid hown1
      have hg2 := Lib.hid hgrow
      clear hown1 hgrow
      go_wp2_with fail
      go_roundw
      case rel => exact ⟨k + 1, by omega, by go_num, Lib.hid (by rw [vals8_succ]; exact hown2.out), Lib.hid ((((HW.out.alloc hsz _).drew).grown hg2.out (by simp; omega) (fun b hb => Nat.le_of_not_lt fun q => own_base HO.out q hb)))⟩
      case measure => simp [intOf]; omega
    · obtain rfl : k = n := by omega
      obtain ⟨A', c', rfl, hc1, hc2, hO⟩ := own_of_row (f := fun i => f i ^^^ g i ^^^ h i) (fun i => Nat.xor_lt_two_pow (n := 8) (Nat.xor_lt_two_pow (n := 8) (HA.out.1 i) (HB.out.1 i)) (HC.out.1 i)) HO.out
      have HO2 := Lib.hid hO
      have hX : bits .xor .u32 (bits .xor .u32 ((sums [(k, f)] : Nat) : Int) ((sums [(k, g)] : Nat) : Int)) ((sums [(k, h)] : Nat) : Int) = ((sums [(k, fun i => f i ^^^ g i ^^^ h i)] : Nat) : Int) := by
        rw [sums_one, sums_one, sums_one, sums_one, u32_xor_nat _ _ (sum_lt HA.out.1 k) (sum_lt HB.out.1 k), u32_xor_nat _ _ (Nat.xor_lt_two_pow (n := 32) (sum_lt HA.out.1 k) (sum_lt HB.out.1 k)) (sum_lt HC.out.1 k), sum_mixed]
      have HX := Lib.hid hX
      clear hO HO hmin hX
      go_wp2_with fail
      refine region_at fun A0 hA0 => ?_
      refine wp_region_any (by kernel_rfl) ?_
      have hfix : mixFix ⟨A, B, C, A', na, ca, nb, cb, nc, cc, k, c', f, g, h⟩ A0 := by
        subst hA0
        exact ⟨rfl, rfl, rfl, rfl, rfl, rfl, rfl⟩
      refine wpAny_inv (back_of (by kernel_rfl)) (mixI ⟨A, B, C, A', na, ca, nb, cb, nc, cc, k, c', f, g, h⟩ wr) ?_ ?_ _ _ _ _ (by kernel_rfl) (by decide +kernel) ⟨⟨rfl, rfl, rfl, Nat.le_refl _, fun _ _ => rfl⟩, hfix, fun i hi hl => ?_⟩
      · intro listed a w' i o ho hil hdeps hI
        have F := hI.2.1
        have hB := hI.1
        have D := fun (j : Nat) (hj : j < 22) (h : listed.getD j false = true) => hI.2.2 j hj h
        have hi : i < 22 := by
          rcases Nat.lt_or_ge i 22 with h | h
          · exact h
          · rw [Array.getElem?_eq_none (by exact h)] at ho; cases ho
        have hcase : i = 0 ∨ i = 1 ∨ i = 2 ∨ i = 3 ∨ i = 4 ∨ i = 5 ∨ i = 6 ∨ i = 7 ∨ i = 8 ∨ i = 9 ∨ i = 10 ∨ i = 11 ∨ i = 12 ∨ i = 13 ∨ i = 14 ∨ i = 15 ∨ i = 16 ∨ i = 17 ∨ i = 18 ∨ i = 19 ∨ i = 20 ∨ i = 21 := by omega
        clear hA0 hfix
        rcases hcase with rfl | rfl | rfl | rfl | rfl | rfl | rfl | rfl | rfl | rfl | rfl | rfl | rfl | rfl | rfl | rfl | rfl | rfl | rfl | rfl | rfl | rfl
        · cases ho
          refine mix_step rfl (by decide) hil rfl hI ?_
          exact Go.BigFrame.wp_move _ rfl ⟨_, rfl, F.2.2.2.2.2.2, Below.refl _ _⟩
        · cases ho
          refine mix_step rfl (by decide) hil rfl hI ?_
          have e1 : a.eval (.tmp 43) = Value.slice A' k c' := D 0 (by decide) (hdeps ⟨0, .data⟩ (by simp) rfl)
          refine wp_value (v := (.slice (some ⟨w'.heap.size, 0, none⟩) 1 1)) (w' := (w'.alloc (.cells #[.slice A' k c'] 24))) ?_ ⟨_, rfl, ⟨_, rfl, Has.new _ _ _ rfl⟩, (Below.refl _ _).alloc (Nat.le_refl _) _⟩
          generalize a.eval = ev at e1 ⊢
          go_simp
        · cases ho
          refine mix_step rfl (by decide) hil rfl hI ?_
          obtain ⟨G, e1, hh⟩ : ∃ G, a.eval (.tmp 44) = .slice (some ⟨G, 0, none⟩) 1 1 ∧ Has w' G (.slice A' k c') := D 1 (by decide) (hdeps ⟨1, .data⟩ (by simp) rfl)
          refine wp_enter (f := 11) (args := #[.slice (some ⟨G, 0, none⟩) 1 1]) ?_ ((HS.out _ 1 _ [(k, fun i => f i ^^^ g i ^^^ h i)] _ rfl (by omega) (Has.one ((HE.out.below HW.out).below hB) hh ((HO2.out.row (Nat.le_refl _)).below hB) (by omega))).mono fun e y h => ⟨_, h.1, _, rfl, rfl, h.2⟩)
          have e2 : a.eval (.func 11) = .func (.func 11) #[] #[] := rfl
          generalize a.eval = ev at e1 e2 ⊢
          go_simp
        · cases ho
          refine mix_step rfl (by decide) hil rfl hI ?_
          exact Go.BigFrame.wp_move _ rfl ⟨_, rfl, F.2.2.1, Below.refl _ _⟩
        · cases ho
          refine mix_step rfl (by decide) hil rfl hI ?_
          exact Go.BigFrame.wp_move _ rfl ⟨_, rfl, F.2.2.2.2.2.1, Below.refl _ _⟩
        · cases ho
          refine mix_step rfl (by decide) hil rfl hI ?_
          have e1 : a.eval (.tmp 46) = Value.slice A na ca := D 3 (by decide) (hdeps ⟨3, .data⟩ (by simp) rfl)
          have e2 : a.eval (.tmp 47) = Value.int .i64 (k : Nat) := D 4 (by decide) (hdeps ⟨4, .data⟩ (by simp) rfl)
          refine wp_value (v := (.slice A k ca)) (w' := w') ?_ ⟨_, rfl, rfl, Below.refl _ _⟩
          generalize a.eval = ev at e1 e2 ⊢
          go_simp
        · cases ho
          refine mix_step rfl (by decide) hil rfl hI ?_
          have e1 : a.eval (.tmp 48) = Value.slice A k ca := D 5 (by decide) (hdeps ⟨5, .data⟩ (by simp) rfl)
          refine wp_value (v := (.slice (some ⟨w'.heap.size, 0, none⟩) 1 1)) (w' := (w'.alloc (.cells #[.slice A k ca] 24))) ?_ ⟨_, rfl, ⟨_, rfl, Has.new _ _ _ rfl⟩, (Below.refl _ _).alloc (Nat.le_refl _) _⟩
          generalize a.eval = ev at e1 ⊢
          go_simp
        · cases ho
          refine mix_step rfl (by decide) hil rfl hI ?_
          obtain ⟨G, e1, hh⟩ : ∃ G, a.eval (.tmp 49) = .slice (some ⟨G, 0, none⟩) 1 1 ∧ Has w' G (.slice A k ca) := D 6 (by decide) (hdeps ⟨6, .data⟩ (by simp) rfl)
          refine wp_enter (f := 11) (args := #[.slice (some ⟨G, 0, none⟩) 1 1]) ?_ ((HS.out _ 1 _ [(k, f)] _ rfl (by omega) (Has.one ((HE.out.below HW.out).below hB) hh (((HA.out.below HW.out).cut' n1).below hB) (by omega))).mono fun e y h => ⟨_, h.1, _, rfl, rfl, h.2⟩)
          have e2 : a.eval (.func 11) = .func (.func 11) #[] #[] := rfl
          generalize a.eval = ev at e1 e2 ⊢
          go_simp
        · cases ho
          refine mix_step rfl (by decide) hil rfl hI ?_
          exact Go.BigFrame.wp_move _ rfl ⟨_, rfl, F.2.2.2.1, Below.refl _ _⟩
        · cases ho
          refine mix_step rfl (by decide) hil rfl hI ?_
          exact Go.BigFrame.wp_move _ rfl ⟨_, rfl, F.2.2.2.2.2.1, Below.refl _ _⟩
        · cases ho
          refine mix_step rfl (by decide) hil rfl hI ?_
          have e1 : a.eval (.tmp 51) = Value.slice B nb cb := D 8 (by decide) (hdeps ⟨8, .data⟩ (by simp) rfl)
          have e2 : a.eval (.tmp 52) = Value.int .i64 (k : Nat) := D 9 (by decide) (hdeps ⟨9, .data⟩ (by simp) rfl)
          refine wp_value (v := (.slice B k cb)) (w' := w') ?_ ⟨_, rfl, rfl, Below.refl _ _⟩
          generalize a.eval = ev at e1 e2 ⊢
          go_simp
        · cases ho
          refine mix_step rfl (by decide) hil rfl hI ?_
          have e1 : a.eval (.tmp 53) = Value.slice B k cb := D 10 (by decide) (hdeps ⟨10, .data⟩ (by simp) rfl)
          refine wp_value (v := (.slice (some ⟨w'.heap.size, 0, none⟩) 1 1)) (w' := (w'.alloc (.cells #[.slice B k cb] 24))) ?_ ⟨_, rfl, ⟨_, rfl, Has.new _ _ _ rfl⟩, (Below.refl _ _).alloc (Nat.le_refl _) _⟩
          generalize a.eval = ev at e1 ⊢
          go_simp
        · cases ho
          refine mix_step rfl (by decide) hil rfl hI ?_
          obtain ⟨G, e1, hh⟩ : ∃ G, a.eval (.tmp 54) = .slice (some ⟨G, 0, none⟩) 1 1 ∧ Has w' G (.slice B k cb) := D 11 (by decide) (hdeps ⟨11, .data⟩ (by simp) rfl)
          refine wp_enter (f := 11) (args := #[.slice (some ⟨G, 0, none⟩) 1 1]) ?_ ((HS.out _ 1 _ [(k, g)] _ rfl (by omega) (Has.one ((HE.out.below HW.out).below hB) hh (((HB.out.below HW.out).cut' n2).below hB) (by omega))).mono fun e y h => ⟨_, h.1, _, rfl, rfl, h.2⟩)
          have e2 : a.eval (.func 11) = .func (.func 11) #[] #[] := rfl
          generalize a.eval = ev at e1 e2 ⊢
          go_simp
        · cases ho
          refine mix_step rfl (by decide) hil rfl hI ?_
          have e1 : a.eval (.tmp 50) = .int .u32 ((sums [(k, f)] : Nat) : Int) := D 7 (by decide) (hdeps ⟨7, .data⟩ (by simp) rfl)
          have e2 : a.eval (.tmp 55) = .int .u32 ((sums [(k, g)] : Nat) : Int) := D 12 (by decide) (hdeps ⟨12, .data⟩ (by simp) rfl)
          refine wp_value (v := (.int .u32 (bits .xor .u32 ((sums [(k, f)] : Nat) : Int) ((sums [(k, g)] : Nat) : Int)))) (w' := w') ?_ ⟨_, rfl, congrArg (Value.int .u32) (u32_xor_nat _ _ (sum_lt HA.out.1 k) (sum_lt HB.out.1 k)), Below.refl _ _⟩
          generalize a.eval = ev at e1 e2 ⊢
          go_simp
        · cases ho
          refine mix_step rfl (by decide) hil rfl hI ?_
          exact Go.BigFrame.wp_move _ rfl ⟨_, rfl, F.2.2.2.2.1, Below.refl _ _⟩
        · cases ho
          refine mix_step rfl (by decide) hil rfl hI ?_
          exact Go.BigFrame.wp_move _ rfl ⟨_, rfl, F.2.2.2.2.2.1, Below.refl _ _⟩
        · cases ho
          refine mix_step rfl (by decide) hil rfl hI ?_
          have e1 : a.eval (.tmp 57) = Value.slice C nc cc := D 14 (by decide) (hdeps ⟨14, .data⟩ (by simp) rfl)
          have e2 : a.eval (.tmp 58) = Value.int .i64 (k : Nat) := D 15 (by decide) (hdeps ⟨15, .data⟩ (by simp) rfl)
          refine wp_value (v := (.slice C k cc)) (w' := w') ?_ ⟨_, rfl, rfl, Below.refl _ _⟩
          generalize a.eval = ev at e1 e2 ⊢
          go_simp
        · cases ho
          refine mix_step rfl (by decide) hil rfl hI ?_
          have e1 : a.eval (.tmp 59) = Value.slice C k cc := D 16 (by decide) (hdeps ⟨16, .data⟩ (by simp) rfl)
          refine wp_value (v := (.slice (some ⟨w'.heap.size, 0, none⟩) 1 1)) (w' := (w'.alloc (.cells #[.slice C k cc] 24))) ?_ ⟨_, rfl, ⟨_, rfl, Has.new _ _ _ rfl⟩, (Below.refl _ _).alloc (Nat.le_refl _) _⟩
          generalize a.eval = ev at e1 ⊢
          go_simp
        · cases ho
          refine mix_step rfl (by decide) hil rfl hI ?_
          obtain ⟨G, e1, hh⟩ : ∃ G, a.eval (.tmp 60) = .slice (some ⟨G, 0, none⟩) 1 1 ∧ Has w' G (.slice C k cc) := D 17 (by decide) (hdeps ⟨17, .data⟩ (by simp) rfl)
          refine wp_enter (f := 11) (args := #[.slice (some ⟨G, 0, none⟩) 1 1]) ?_ ((HS.out _ 1 _ [(k, h)] _ rfl (by omega) (Has.one ((HE.out.below HW.out).below hB) hh (((HC.out.below HW.out).cut' n3).below hB) (by omega))).mono fun e y h => ⟨_, h.1, _, rfl, rfl, h.2⟩)
          have e2 : a.eval (.func 11) = .func (.func 11) #[] #[] := rfl
          generalize a.eval = ev at e1 e2 ⊢
          go_simp
        · cases ho
          refine mix_step rfl (by decide) hil rfl hI ?_
          have e1 : a.eval (.tmp 56) = .int .u32 ((sums [(k, f)] ^^^ sums [(k, g)] : Nat) : Int) := D 13 (by decide) (hdeps ⟨13, .data⟩ (by simp) rfl)
          have e2 : a.eval (.tmp 61) = .int .u32 ((sums [(k, h)] : Nat) : Int) := D 18 (by decide) (hdeps ⟨18, .data⟩ (by simp) rfl)
          have hx : bits .xor .u32 ((sums [(k, f)] ^^^ sums [(k, g)] : Nat) : Int) ((sums [(k, h)] : Nat) : Int) = ((sums [(k, fun i => f i ^^^ g i ^^^ h i)] : Nat) : Int) := by
            rw [sums_one, sums_one, sums_one, sums_one, u32_xor_nat _ _ (Nat.xor_lt_two_pow (n := 32) (sum_lt HA.out.1 k) (sum_lt HB.out.1 k)) (sum_lt HC.out.1 k), sum_mixed]
          refine wp_value (v := (.int .u32 (bits .xor .u32 ((sums [(k, f)] ^^^ sums [(k, g)] : Nat) : Int) ((sums [(k, h)] : Nat) : Int)))) (w' := w') ?_ ⟨_, rfl, congrArg (Value.int .u32) hx, Below.refl _ _⟩
          generalize a.eval = ev at e1 e2 ⊢
          go_simp
        · cases ho
          refine mix_step rfl (by decide) hil rfl hI ?_
          have e1 : a.eval (.tmp 45) = .int .u32 ((sums [(k, fun i => f i ^^^ g i ^^^ h i)] : Nat) : Int) := D 2 (by decide) (hdeps ⟨2, .data⟩ (by simp) rfl)
          have e2 : a.eval (.tmp 62) = .int .u32 ((sums [(k, fun i => f i ^^^ g i ^^^ h i)] : Nat) : Int) := D 19 (by decide) (hdeps ⟨19, .data⟩ (by simp) rfl)
          refine wp_value (v := (.bool true)) (w' := w') ?_ ⟨_, rfl, rfl, Below.refl _ _⟩
          generalize a.eval = ev at e1 e2 ⊢
          go_simp
        · cases ho
          refine mix_step rfl (by decide) hil rfl hI ?_
          exact Go.BigFrame.wp_assign _ rfl ⟨_, rfl, D 20 (by decide) (hdeps ⟨20, .data⟩ (by simp) rfl), Below.refl _ _⟩
      · intro listed a w' hall hI
        have e6 : a.eval (.tmp 6) = .bool true := hI.2.2 21 (by decide) (hall 21 (by decide))
        have B6 := Lib.hid (HW.out.trans (hI.1.mono HW.out.size))
        obtain ⟨x, hx, rfl⟩ := act64 hI.2.1.1 hI.2.1.2.1
        have x6 : x 6 = .bool true := by rw [hx]; exact e6
        clear hx e6 hI hall hA0 hfix
        rw [x6]
        generalize x 0 = x0
        go_wp2_with fail
        go_ret
        exact ⟨rfl, B6.out⟩
      · simp [Array.getD_eq_getD_getElem?, hi] at hl

end Go.Proofs.YtoopoemkickpkaaDoor
