import Derived.Test.YtkolpdllogpklaaPhase
namespace Go.Proofs.Ytkolpdllogpklaa

/-! A region that draws its order, walked by hand: steps. Quiet operations in any order, up to a number; one that yields in whatever world, first; one that alone may come; two that may come. -/
section
variable {P : Program} {ops : Array Oper} {md : Region.Mode} {Q : Exit → Act → World → Prop}
theorem op_force {i : Nat} {o : Oper} {K : Act → World → Prop} {a : Act} {w : World} (h0 : ops[i]? = some o) (h : wpList P ops (phPost K Q) [o] a w) : wpOp P ops Q i K a w := by
  have hw0 : wpOp P ops (phPost K Q) i (wpList P ops (phPost K Q) []) a w := by unfold wpOp; simp only [h0]; exact h
  have hlo : LetsOut (phPost K Q) → LetsOut Q := fun ⟨a1, w1, z⟩ => ⟨a1, w1, z⟩
  refine wpOp_mono (K := wpList P ops (phPost K Q) []) (fun a' w' z => z) ?_
  unfold wpOp at hw0 ⊢
  simp only [h0] at hw0 ⊢
  split
  · rename_i hq
    simp only [hq, if_true] at hw0
    refine hw0.imp (fun q => ?_) (fun z => ⟨z.1, hlo z.2⟩)
    unfold Oper.wp at q ⊢
    generalize (execOp a.eval o).run P w = r at q ⊢
    cases r with
    | ok n w' =>
      cases n with
      | enter f args =>
        refine Calls.mono q fun e w'' => ?_
        cases e with
        | returned v => exact fun z => z
        | panicked c => exact fun z => z
        | outgrown => exact hlo
      | _ => exact q
    | halt x w' =>
      cases x with
      | panic v => exact q
      | _ => exact q
  · rename_i hq
    simp only [hq] at hw0
    exact hw0
theorem any_force {i f : Nat} {o : Oper} {seen : Array Bool} {a : Act} {w : World} (hr : Region.ready md ops seen = [i]) (h0 : ops[i]? = some o)
    (h : ∀ K : Act → World → Prop, (∀ a' w', wpAny P md ops Q f (seen.setIfInBounds i true) a' w' → K a' w') → wpList P ops (phPost K Q) [o] a w) : wpAny P md ops Q (f + 1) seen a w := by
  refine ⟨fun q => (by rw [hr] at q; cases q), fun j hj => ?_⟩
  rw [hr] at hj
  obtain rfl : j = i := by simpa using hj
  exact op_force h0 (h _ fun _ _ z => z)
theorem any_take {i f : Nat} {d : Tmp} {oi : Oper} {v : Value} {seen : Array Bool} {a : Act} {w : World} (hi : ops[i]? = some oi) (hd : oi.dst = some d)
    (hs : Region.noSelect ops = true) (hf : Region.free md ops seen i = true) (hr : (Region.ready md ops seen).contains i = true)
    (hQ : ∀ c a w, Q (.panic c) (a.put (some d) v) w → Q (.panic c) a w) (hy : Yields P ops oi v a)
    (h : wpAny P md ops Q f (seen.setIfInBounds i true) (a.put (some d) v) w) : wpAny P md ops Q (f + 1) seen a w := by
  rw [← hd] at hQ h
  exact wpAny_take hi hs hf hr hQ hy h
theorem any_two {i j f : Nat} {o o' : Oper} {seen : Array Bool} {a : Act} {w : World} (hr : Region.ready md ops seen = [i, j]) (h0 : ops[i]? = some o) (h1 : ops[j]? = some o')
    (h : ∀ K : Act → World → Prop, (∀ a' w', wpAny P md ops Q f (seen.setIfInBounds i true) a' w' → K a' w') → wpList P ops (phPost K Q) [o] a w)
    (h' : ∀ K : Act → World → Prop, (∀ a' w', wpAny P md ops Q f (seen.setIfInBounds j true) a' w' → K a' w') → wpList P ops (phPost K Q) [o'] a w) : wpAny P md ops Q (f + 1) seen a w := by
  refine ⟨fun q => (by rw [hr] at q; cases q), fun k hk => ?_⟩
  rw [hr] at hk
  rcases List.mem_cons.1 hk with rfl | hk
  · exact op_force h0 (h _ fun _ _ z => z)
  · obtain rfl : k = j := by simpa using hk
    exact op_force h1 (h' _ fun _ _ z => z)
/-- What is done: the first k. -/
def preB (m k : Nat) : Array Bool := ((List.range m).map fun i => decide (i < k)).toArray
theorem preB_get {m k j : Nat} (h : j < m) (d : Bool) : (preB m k).getD j d = decide (j < k) := by
  unfold preB
  simp [h]
theorem preB_size (m k : Nat) : (preB m k).size = m := by simp [preB]
/-- Of the first k none waits for a later one. -/
def shutB (md : Region.Mode) (ops : Array Oper) (k : Nat) : Bool := (List.range k).all fun j => match ops[j]? with | some o => o.after.all fun e => !Region.binds md e || decide (e.on < k) | none => true
theorem preB_inv {k n : Nat} (h : shutB md ops k = true) (hk : k ≤ n) (hm : k ≤ ops.size) : HeadInv md ops n (preB ops.size k) := by
  refine ⟨preB_size _ _, fun j oj hj hl e he hb => ?_, fun t ht ht' => ?_⟩
  · have hjs := (Array.getElem?_eq_some_iff.1 hj).1
    rw [preB_get hjs] at hl
    have hjk : j < k := by simpa using hl
    have h1 := List.all_eq_true.1 h j (List.mem_range.2 hjk)
    simp only [hj] at h1
    have h2 := (Array.all_eq_true_iff_forall_mem.1 h1) e he
    rw [hb] at h2
    have h3 : e.on < k := by simpa using h2
    rw [preB_get (by omega)]
    simpa using h3
  · rw [preB_get ht']
    simp; omega
/-- Whatever stands behind the first n + 1 waits for number n, and number n for all ahead of it. -/
theorem waits_hub {n : Nat} (hs : Region.sinkB md ops n = true) (hh : hubB md ops n = true) : WaitsN md ops (n + 1) := fun seen inv i hi hun t ht hr => by
  obtain ⟨_, ot, hot, hall⟩ := mem_ready.1 hr
  have htl := (Array.getElem?_eq_some_iff.1 hot).1
  have h1 := List.all_eq_true.1 hh t (List.mem_range.2 htl)
  rw [Bool.or_eq_true, decide_eq_true_eq] at h1
  rcases h1 with h1 | h1
  · omega
  · obtain ⟨j, hj, hw⟩ := List.any_eq_true.1 h1
    rw [Bool.and_eq_true, decide_eq_true_eq] at hw
    obtain ⟨o', ho', e, he, hb, hon⟩ := Region.waitsFor_spec hw.2
    obtain rfl : o' = ot := Option.some.inj (ho'.symm.trans hot)
    have h2 := hall e he hb
    rw [hon] at h2
    have hjt := List.mem_range.1 hj
    rcases Nat.eq_or_lt_of_le hw.1 with rfl | hlt
    · -- number n is done: so are all ahead of it
      have all : ∀ d i, n - i = d → i < n → seen.getD i false = true := by
        intro d
        induction d using Nat.strongRecOn with
        | _ d ih =>
          intro i hd hin
          obtain ⟨j', hj', hw'⟩ := List.any_eq_true.1 (List.all_eq_true.1 hs i (List.mem_range.2 hin))
          rw [Bool.and_eq_true, decide_eq_true_eq] at hw'
          obtain ⟨oj, hoj, e', he', hb', hon'⟩ := Region.waitsFor_spec hw'.2
          have hjn := List.mem_range.1 hj'
          have hsj : seen.getD j' false = true := by
            rcases Nat.lt_or_ge j' n with q | q
            · exact ih (n - j') (by omega) j' rfl q
            · obtain rfl : j' = n := by omega
              exact h2
          have := inv.closed j' oj hoj hsj e' he' hb'
          rwa [hon'] at this
      have hun' := getD_both hun
      rcases Nat.eq_or_lt_of_le (Nat.le_of_lt_succ hi) with rfl | q
      · rw [h2] at hun'; cases hun'
      · rw [all _ i rfl q] at hun'; cases hun'
    · have h3 := getD_both (inv.tail j (by omega) (by omega))
      rw [h2] at h3; cases h3
/-- Operations k to k + n, quiet in a class of worlds, in whatever order. -/
theorem any_quiets {k n g : Nat} {C : World → Prop} {l : List Oper} {seen : Array Bool} {a : Act} {w : World} (hseen : seen = preB ops.size k)
    (hB : (Region.noSelect ops && shutB md ops k && decide (k + n ≤ ops.size) && (decide (k + n = ops.size) || (decide (0 < k + n) && Region.sinkB md ops (k + n - 1) && hubB md ops (k + n - 1))) && quietTo md ops (fun s => s == preB ops.size (k + n)) n k (preB ops.size k)) = true)
    (hl : (ops.toList.drop k).take n = l) (hC : C w) (h : wpQuiet P ops C (fun a' => ∀ w', C w' → wpAny P md ops Q g (preB ops.size (k + n)) a' w') l a) : wpAny P md ops Q (n + g) seen a w := by
  simp only [Bool.and_eq_true, decide_eq_true_eq, Bool.or_eq_true] at hB
  obtain ⟨⟨⟨⟨hsel, hsh⟩, hsz⟩, hwt⟩, hq⟩ := hB
  subst hseen hl
  have hlen : ((ops.toList.drop k).take n).length = n := by rw [List.length_take, List.length_drop]; simp; omega
  have hW : WaitsN md ops (k + n) := by
    rcases hwt with hwt | ⟨⟨h0, h1⟩, h2⟩
    · intro seen _ i _ _ t ht hr
      obtain ⟨_, ot, hot, _⟩ := mem_ready.1 hr
      have := (Array.getElem?_eq_some_iff.1 hot).1
      omega
    · have := waits_hub h1 h2
      rwa [Nat.sub_add_cancel h0] at this
  have H := quiets_lex (P := P) (C := C) (n := k + n) (B := fun s => s == preB ops.size (k + n)) (R := fun a' => ∀ w', C w' → wpAny P md ops Q g (preB ops.size (k + n)) a' w') hsel hW (fun s hs j hj => by
    have hs' : s = preB ops.size (k + n) := by simpa using hs
    subst hs'
    obtain ⟨hj1, oj, hoj, _⟩ := mem_ready.1 hj
    have hjs := (Array.getElem?_eq_some_iff.1 hoj).1
    rw [preB_get hjs] at hj1
    simp at hj1
    exact hj1) ((ops.toList.drop k).take n) k (preB ops.size k) a (fun j hj => by
      rw [hlen] at hj
      rw [List.getElem?_take_of_lt hj, List.getElem?_drop]; simp) (by rw [hlen]) (preB_inv hsh (by omega) (by omega)) (by rw [hlen]; exact hq) h
  have H2 := any_of_quiets (Q := Q) (g := g) (fun s a' w' hw' hL => by
    have hs' : s = preB ops.size (k + n) := by simpa using hL.1
    rw [hs']
    exact hL.2.2 w' hw') _ _ _ _ hC H
  rwa [hlen] at H2
/-- All are done. -/
theorem any_end {seen : Array Bool} {a : Act} {w : World} (hr : Region.ready md ops seen = []) (h : Q .normal a w) : wpAny P md ops Q 0 seen a w := ⟨hr, h⟩
end
end Go.Proofs.Ytkolpdllogpklaa
