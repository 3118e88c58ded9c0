import Derived.Test.YtmlmpflfejbbcaaDoorSuperQ6
import Derived.Test.YtmlmpflfejbbcaaDoorSuperL4
import Derived.Test.YtmlmpflfejbbcaaDoorBaseN
namespace Go.Proofs.YtmlmpflfejbbcaaDoor
open Go.RowKit CrcM

/-! The law SuperWrites. -/
def flatD (l : List DescV) : List Value := l.flatMap fun d => (dcs d).toList
theorem flatD_length : ∀ l : List DescV, (flatD l).length = l.length * 3
  | [] => rfl
  | d :: l => by
    have := flatD_length l
    unfold flatD at this ⊢
    rw [List.flatMap_cons, List.length_append, this, List.length_cons]
    have : (dcs d).toList.length = 3 := by rw [dcs_eq]; rfl
    rw [this]; omega
theorem flatD_at : ∀ (l : List DescV) (k i : Nat) (d : DescV) (v : Value), l[k]? = some d → (dcs d).toList[i]? = some v → (flatD l)[k * 3 + i]? = some v
  | [], _, _, _, _, h, _ => by simp at h
  | e :: l, 0, i, d, v, h, hv => by
    rw [List.getElem?_cons_zero] at h
    cases h
    have hi : i < (dcs e).toList.length := by
      rcases Nat.lt_or_ge i (dcs e).toList.length with q | q
      · exact q
      · rw [List.getElem?_eq_none q] at hv; cases hv
    unfold flatD
    rw [List.flatMap_cons, List.getElem?_append_left (by omega), Nat.zero_mul, Nat.zero_add]
    exact hv
  | e :: l, k + 1, i, d, v, h, hv => by
    rw [List.getElem?_cons_succ] at h
    have h3 : (dcs e).toList.length = 3 := by rw [dcs_eq]; rfl
    unfold flatD
    rw [List.flatMap_cons, List.getElem?_append_right (by omega), h3, show (k + 1) * 3 + i - 3 = k * 3 + i by omega]
    exact flatD_at l k i d v h hv
theorem flatD_of {l : List DescV} {j : Nat} {u : Value} (h : (flatD l)[j]? = some u) : ∃ d, l[j / 3]? = some d ∧ (dcs d).toList[j % 3]? = some u := by
  have hj : j < l.length * 3 := by
    rcases Nat.lt_or_ge j (l.length * 3) with q | q
    · exact q
    · rw [List.getElem?_eq_none (by rw [flatD_length]; exact q)] at h; cases h
  have hk : j / 3 < l.length := by omega
  have e := List.getElem?_eq_getElem hk
  have h3 : (dcs l[j / 3]).toList.length = 3 := by rw [dcs_eq]; rfl
  have hi : j % 3 < (dcs l[j / 3]).toList.length := by omega
  have e2 := List.getElem?_eq_getElem hi
  refine ⟨_, e, ?_⟩
  have := flatD_at l (j / 3) (j % 3) _ _ e e2
  rw [show j / 3 * 3 + j % 3 = j by omega, h] at this
  rw [e2]; exact this.symm
theorem flatD_one {l : List DescV} : ∀ u ∈ flatD l, u.oneCell' = true := by
  intro u hu
  unfold flatD at hu
  rw [List.mem_flatMap] at hu
  obtain ⟨d, _, h⟩ := hu
  rw [dcs_eq] at h
  simp only [List.mem_cons, List.not_mem_nil, or_false] at h
  rcases h with rfl | rfl | rfl <;> rfl
theorem own_drow {w : World} {base n : Nat} {v : Value} {l : List DescV} (h : w.ownsRow base 48 3 v n (flatD l)) (hn : n = l.length) (hf : ∀ d ∈ l, d.Fits) (h1 : n ≤ 1000000) : ∃ A c, v = .slice A n c ∧ DRow w A l := by
  rcases h.2 with ⟨rfl, rfl⟩ | ⟨b, c, cur, rfl, hb, hg, _, _, _, hx⟩
  · have : l = [] := List.eq_nil_of_length_eq_zero hn.symm
    subst this
    exact ⟨none, 0, rfl, DRow.nil _ _⟩
  · refine ⟨_, c, rfl, ⟨by omega, hf, fun _ => ⟨b, 0, rfl, (Array.getElem?_eq_some_iff.1 hg).1, fun k d hd i u hu => ?_⟩⟩⟩
    have h1 := flatD_at l k i d u hd hu
    rw [← hx, List.getElem?_take] at h1
    rw [Nat.zero_add, cell_of_row w b _ _ _ _ hg]
    split at h1
    · simpa using h1
    · cases h1
section
variable {P : Program} {w : World}
theorem append_drow_run (base : Nat) (t ty e : TypeId) (i : TypeInfo) (z : Value) (ht : P.underlying t = some (.slice e)) (hi : P.info? e = some i) (hz : i.zero = some z) (hzs : z.cells.size = 3) (hsize : i.size = 3) (hby : i.bytes = 24)
    (v : Value) (k : Nat) (xs : List Value) (hown : w.ownsRow base e 3 v k xs) (A : Option Addr) (n c : Nat) (l : List DescV) (hn : n = l.length) (hR : DRow w A l) (hlen : k + n ≤ 1000000) (hbase : base ≤ w.heap.size) :
    ∃ v' w', (Builtin.append_ #[t, t] ty #[v, .slice A n c]).run P w = .ok v' w' ∧ w'.ownsRow base e 3 v' (k + n) (xs ++ flatD l) ∧ w.grownBy w' v.ownBlock ∧ (v'.ownBlock = v.ownBlock ∨ v'.ownBlock = some w.heap.size) := by
  rcases A with _ | ad
  · have h0 : n = 0 := by
      rcases Nat.eq_zero_or_pos n with h | h
      · exact h
      · obtain ⟨b, o, e, _⟩ := hR.mem (by omega)
        cases e
    subst h0
    have hl : l = [] := List.eq_nil_of_length_eq_zero hn.symm
    subst hl
    refine ⟨v, w, ?_, by simpa [flatD] using hown, World.grownBy.refl w _, .inl rfl⟩
    rcases hown.2 with ⟨rfl, rfl⟩ | ⟨g, cap, cur, rfl, _, _, hkc, _⟩
    · simp [Builtin.append_, run_underlying ht, sizeOf, typeInfo, hi, Builtin.lenOf, Builtin.firstCells]
    · simp [Builtin.append_, run_underlying ht, sizeOf, typeInfo, hi, Builtin.lenOf, Builtin.firstCells, hkc, storeCells]
  · have hcells : ∀ j u, (flatD l)[j]? = some u → w.cell? (ad.add j) = some u := by
      intro j u hu
      obtain ⟨d, h1, h2⟩ := flatD_of hu
      have hpos : 0 < l.length := by
        rcases Nat.eq_zero_or_pos l.length with q | q
        · rw [List.eq_nil_of_length_eq_zero q] at h1; simp at h1
        · exact q
      obtain ⟨b, o, e, _, hc⟩ := hR.mem hpos
      injection e with e
      subst e
      have e : (⟨b, o, none⟩ : Addr).add j = ⟨b, o + j, none⟩ := by unfold Addr.add; split <;> simp_all
      rw [e]
      have := hc _ d h1 (j % 3) u h2
      rwa [show o + j / 3 * 3 + j % 3 = o + j by omega] at this
    obtain ⟨v', w', h1, h2, h3, _, h5⟩ := run_append_own_at (P := P) w base t ty e i z 3 24 ht hi hz hsize hby hzs (by omega) v k xs hown ad n c (flatD l) (by rw [flatD_length, hn]) hcells flatD_one (by simp only [maxLen]; omega) (by omega) hbase
    exact ⟨v', w', h1, h2, h3, h5⟩
theorem at_append_drow {ops : Array Oper} {rest : List Oper} {o : Oper} {a : Act} {Q : Exit → Act → World → Prop} (hgd : o.guard = none) (s x : Operand) (t : TypeId)
    (ho : o.op = .call { callee := .builtin .append, args := #[s, x], argTypes := #[t, t] })
    (base : Nat) (e : TypeId) (i : TypeInfo) (z : Value) (ht : P.underlying t = some (.slice e)) (hi : P.info? e = some i) (hz : i.zero = some z) (hzs : z.cells.size = 3) (hsize : i.size = 3) (hby : i.bytes = 24)
    (v : Value) (k : Nat) (xs : List Value) (hs : a.eval s = v) (hown : w.ownsRow base e 3 v k xs)
    (A : Option Addr) (n c : Nat) (l : List DescV) (hx : a.eval x = .slice A n c) (hn : n = l.length) (hR : DRow w A l) (hlen : k + n ≤ 1000000) (hbase : base ≤ w.heap.size)
    (h : ∀ v' w', w'.ownsRow base e 3 v' (k + n) (xs ++ flatD l) → w.grownBy w' v.ownBlock → wpList P ops Q rest (a.put o.dst v') w') :
    wpList P ops Q (o :: rest) a w := by
  refine wpList_plain hgd fun K hK => ?_
  obtain ⟨v', w', hrun, h2, h3, _⟩ := append_drow_run (P := P) base t o.type e i z ht hi hz hzs hsize hby v k xs hown A n c l hn hR hlen hbase
  unfold Oper.wp execOp
  simp only [ho, resolve, invoke, builtin, Sem.run_bind, Sem.run_pure, Result.andThen_ok, List.map_toArray, List.map_cons, List.map_nil, hs, hx, hrun]
  exact hK _ _ (h v' w' h2 h3)
end
/-- What SuperWrites keeps in memory. -/
structure WK (s : SuperV) (g : GeoV) (A : Option Addr) (l : List DescV) (w0 w : World) : Prop where
  low : Below w0.heap.size w0 w
  sup : SVar w w0.heap.size s
  geo : GVar w (w0.heap.size + 1) g
  row : DRow w A l
theorem WK.below {s : SuperV} {g : GeoV} {A : Option Addr} {l : List DescV} {w0 w w' : World} (h : WK s g A l w0 w) (hb : Below w.heap.size w w') : WK s g A l w0 w' :=
  ⟨h.low.trans (hb.mono h.low.size), h.sup.below hb, h.geo.below hb, h.row.below hb⟩
theorem WK.alloc {s : SuperV} {g : GeoV} {A : Option Addr} {l : List DescV} {w0 w : World} (h : WK s g A l w0 w) (o : Obj) : WK s g A l w0 (w.alloc o) := h.below (below_new w o)
set_option maxRecDepth 100000 in
set_option maxHeartbeats 8000000 in
theorem superWrites_any (hS : PSays) (_ : SumSays) (s : SuperV) (g : GeoV) (A : Option Addr) (n c : Nat) (l : List DescV) (w : World) (hE : Env w) (hs : s.Fits) (hg : g.Fits) (hn : n = l.length) (hl : DRow w A l) :
    Calls Tryd.prog 3 #[.agg (scs s), .agg (gcs g), .slice A n c] w fun e w' => e = .returned (.bool true) ∧ Below w.heap.size w w' := by
  have HS := Lib.hid hS
  have HE := Lib.hid hE
  have HN := Lib.hid hn
  have hz := fun W => zero_blk W
  have b1 := below_new w (.cells (scs s) 26)
  have b2 := below_new (w.alloc (.cells (scs s) 26)) (.cells (gcs g) 23)
  have q1 : SVar (w.alloc (.cells (scs s) 26)) w.heap.size s := heap_alloc_new w _
  have q2 : GVar ((w.alloc (.cells (scs s) 26)).alloc (.cells (gcs g) 23)) (w.heap.size + 1) g := heap_alloc2_new w _ _
  have P : Hid (WK s g A l w ((w.alloc (.cells (scs s) 26)).alloc (.cells (gcs g) 23))) := Lib.hid ⟨b1.trans (b2.mono (by simp)), q1.below b2, q2, (hl.below b1).below b2⟩
  have hmost := hl.most
  rw [← hn] at hmost
  have FT := Lib.hid hl.fits
  obtain ⟨i0, hi0, hzz⟩ := Option.map_eq_some_iff.1 desc_info
  simp only [Prod.mk.injEq] at hzz
  obtain ⟨hz0, hz1, hz2⟩ := hzz
  have HZ0 := Lib.hid hz0
  have HZ1 := Lib.hid hz1
  have HZ2 := Lib.hid hz2
  have HI0 := Lib.hid hi0
  obtain ⟨⟨X1, e1⟩, x1⟩ : ∃ p, writeS s = p := ⟨_, rfl⟩
  obtain ⟨⟨X2, e2⟩, x2⟩ : ∃ p, writeD g l = p := ⟨_, rfl⟩
  have X1E := Lib.hid x1
  have X2E := Lib.hid x2
  have SF := Lib.hid hs
  have GF := Lib.hid hg
  clear hS hE hn hl b1 b2 q1 q2 hz0 hz1 hz2 hi0 x1 x2 hs hg
  go_enter Tryd.func3, Tryd.ntmps3
  go_upto_region 1 with fail
  generalize (w.alloc (.cells (scs s) 26)).alloc (.cells (gcs g) 23) = w1 at P ⊢
  by_cases hbig : 1000 < n
  · have t1 : decide ((1000 : Int) < n) = true := by simp; omega
    go_wp2
    go_ret
    exact ⟨rfl, P.out.low⟩
  have t1 : decide ((1000 : Int) < n) = false := by simp; omega
  have O2 : Hid ((w1.alloc (.cells #[] 48)).ownsRow (w.heap.size + 2) 48 3 (.slice (some ⟨w1.heap.size, 0, none⟩) 0 0) 0 []) := Lib.hid ⟨rfl, .inr ⟨w1.heap.size, 0, #[], rfl, P.out.geo.lt, heap_alloc_new w1 _, Nat.le_refl _, by simp [maxLen], rfl, rfl⟩⟩
  have P2 := Lib.hid (P.out.alloc (.cells #[] 48))
  go_upto_region 4 with (first
    | (at_builtin; refine at_append_drow rfl (.tmp 19) (.tmp 20) 27 rfl (w.heap.size + 2) 48 i0 _ Tryd.underlying27 HI0.out HZ0.out (by rfl) HZ1.out HZ2.out (.slice (some ⟨w1.heap.size, 0, none⟩) 0 0) 0 [] (by rfl) O2.out A n c l (by rfl) HN.out P2.out.row (by omega) (by have := P2.out.geo.lt; omega) ?_; intro v' w3 hown hgrow))
  rw [List.nil_append, Nat.zero_add] at hown
  have b3 : Below w1.heap.size w1 w3 := (below_new w1 _).trans (Only.below (B := w1.heap.size) (show Only w1.heap.size (w1.alloc (.cells #[] 48)) w3 from hgrow) (Nat.le_refl _) (by simp))
  have P3 := Lib.hid (P.out.below b3)
  obtain ⟨A2, c2, rfl, hrow⟩ := own_drow hown HN.out FT.out (by omega)
  have R3 := Lib.hid hrow
  clear hown hgrow hrow b3 P P2 O2
  go_wp2_with (first | (refine load_super rfl (.tmp 3) rfl w.heap.size 0 rfl s P3.out.sup.at ?_))
  refine (HS.out.write s w3 SF.out (HE.out.below P3.out.low)).mono ?_
  rintro e w4 ⟨rfl, hb⟩
  rw [X1E.out]
  have P4 := Lib.hid (P3.out.below hb)
  have R4 := Lib.hid (R3.out.below hb)
  clear hb P3 R3
  go_wp2_with (first
    | (refine store_newB rfl (.tmp 8) (.tmp 25) rfl X1 rfl rfl ?_)
    | (refine load_super rfl (.tmp 3) rfl w.heap.size 0 rfl s (P4.out.alloc _).sup.at ?_))
  have P5 := Lib.hid (P4.out.alloc (.cells (arr X1) 29))
  have R5 := Lib.hid (R4.out.below (below_new w4 (.cells (arr X1) 29)))
  have U5 := Lib.hid (BVar.new w4 X1)
  clear P4 R4
  generalize w4.alloc (.cells (arr X1) 29) = w5 at P5 R5 U5 ⊢
  generalize w4.heap.size = b8 at U5 ⊢
  refine (rWrite s w5 SF.out).mono ?_
  rintro e w6 ⟨rfl, hb⟩
  rw [X1E.out]
  have P6 := Lib.hid (P5.out.below hb)
  have R6 := Lib.hid (R5.out.below hb)
  have U6 := Lib.hid (U5.out.below hb)
  clear hb P5 R5 U5
  go_wp2_with (first
    | (refine store_newB rfl (.tmp 10) (.tmp 30) rfl X1 rfl rfl ?_)
    | (refine load_geo rfl (.tmp 4) rfl (w.heap.size + 1) 0 rfl g (P6.out.alloc _).geo.at ?_))
  have bn := below_new w6 (.cells (arr X1) 29)
  have P7 := Lib.hid (P6.out.below bn)
  have R7 := Lib.hid (R6.out.below bn)
  have U7 := Lib.hid (U6.out.below bn)
  have T7 := Lib.hid (BVar.new w6 X1)
  clear bn P6 R6 U6
  generalize w6.alloc (.cells (arr X1) 29) = w7 at P7 R7 U7 T7 ⊢
  generalize w6.heap.size = b10 at T7 ⊢
  refine (HS.out.writeD g A2 n c2 l w7 GF.out (HE.out.below P7.out.low) HN.out R7.out).mono ?_
  rintro e w8 ⟨rfl, hb⟩
  rw [X2E.out]
  have P8 := Lib.hid (P7.out.below hb)
  have R8 := Lib.hid (R7.out.below hb)
  have U8 := Lib.hid (U7.out.below hb)
  have T8 := Lib.hid (T7.out.below hb)
  clear hb P7 R7 U7 T7
  go_wp2_with (first
    | (refine store_newB rfl (.tmp 12) (.tmp 36) rfl X2 rfl rfl ?_)
    | (refine load_geo rfl (.tmp 4) rfl (w.heap.size + 1) 0 rfl g (P8.out.alloc _).geo.at ?_))
  have bn := below_new w8 (.cells (arr X2) 29)
  have P9 := Lib.hid (P8.out.below bn)
  have R9 := Lib.hid (R8.out.below bn)
  have U9 := Lib.hid (U8.out.below bn)
  have T9 := Lib.hid (T8.out.below bn)
  have S9 := Lib.hid (BVar.new w8 X2)
  clear bn P8 R8 U8 T8
  generalize w8.alloc (.cells (arr X2) 29) = w9 at P9 R9 U9 T9 S9 ⊢
  generalize w8.heap.size = b12 at S9 ⊢
  refine (rWriteD g A n c l w9 HN.out P9.out.row).mono ?_
  rintro e w10 ⟨rfl, hb⟩
  rw [X2E.out]
  have P10 := Lib.hid (P9.out.below hb)
  have R10 := Lib.hid (R9.out.below hb)
  have U10 := Lib.hid (U9.out.below hb)
  have T10 := Lib.hid (T9.out.below hb)
  have S10 := Lib.hid (S9.out.below hb)
  clear hb P9 R9 U9 T9 S9
  have heq1 := fun W => equalIn_blk X1 X1 W
  have heq2 := fun W => equalIn_blk X2 X2 W
  simp only [decide_true] at heq1 heq2
  have hgd := blk_guard
  have t2 : (e1 == e1) = true := by simp
  have t3 : (e2 == e2) = true := by simp
  go_upto_region 8 with (first
    | (refine store_newB rfl (.tmp 14) (.tmp 42) rfl X2 rfl rfl ?_))
  have bn := below_new w10 (.cells (arr X2) 29)
  have P11 := Lib.hid (P10.out.below bn)
  have R11 := Lib.hid (R10.out.below bn)
  have U11 := Lib.hid (U10.out.below bn)
  have T11 := Lib.hid (T10.out.below bn)
  have S11 := Lib.hid (S10.out.below bn)
  have Q11 := Lib.hid (BVar.new w10 X2)
  clear bn P10 R10 U10 T10 S10
  generalize w10.alloc (.cells (arr X2) 29) = w11 at P11 R11 U11 T11 S11 Q11 ⊢
  generalize w10.heap.size = b14 at Q11 ⊢
  go_wp2_with (first
    | (refine load_blk rfl (.tmp 8) rfl b8 0 rfl X1 U11.out.at ?_)
    | (refine load_blk rfl (.tmp 10) rfl b10 0 rfl X1 T11.out.at ?_)
    | (refine load_blk_w (by rfl) (.tmp 12) rfl b12 0 rfl X2 S11.out.at ?_)
    | (refine load_blk_w (by rfl) (.tmp 14) rfl b14 0 rfl X2 Q11.out.at ?_)
    | (go_at_call 15; refine (rSame_any A2 A n n c2 c l l _ HN.out HN.out R11.out P11.out.row).mono ?_; rintro e wn ⟨rfl, hb⟩; have P12 := Lib.hid (P11.out.below hb); clear hb; rw [decide_eq_true (rfl : l = l)]))
  go_ret
  exact ⟨rfl, P12.out.low⟩
end Go.Proofs.YtmlmpflfejbbcaaDoor
