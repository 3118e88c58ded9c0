import Derived.Test.YtkolpdllogpklaaCaP7
namespace Go.Proofs.Ytkolpdllogpklaa
open Go.RowKit Go.Maps

/-! Plain: a cache whose disk isn't dead, beside what was written last. -/
structure Fine (c : CS) (M : List Blk) : Prop where
  len : c.n = M.length
  live : c.d.left = none
  pos : 1 ≤ M.length
  dirty : ∀ (b : Int) x, 0 ≤ b → b < c.n → c.m b = some (x, true) → x = M.getD b.toNat .zero
  clean : ∀ (b : Int) x, 0 ≤ b → b < c.n → c.m b = some (x, false) → x = M.getD b.toNat .zero
  rest : ∀ b : Int, 0 ≤ b → b < c.n → c.isD b = false → c.d.read b = M.getD b.toNat .zero
section
variable {c : CS} {M : List Blk}
theorem live_err {s : DS} (h : s.left = none) {b : Int} (h0 : 0 ≤ b) (h1 : b < s.safe.length) : s.err b = 0 := DS.err_in (by unfold DS.dead; rw [h]; rfl) (by omega)
theorem Fine.err (h : Fine c M) {b : Int} (h0 : 0 ≤ b) (h1 : b < c.n) : c.d.err b = 0 := live_err h.live h0 h1
theorem cerr_in {c : CS} {b : Int} (h0 : 0 ≤ b) (h1 : b < c.n) : c.err b = 0 := CS.err_in (by omega)
theorem Fine.readV (h : Fine c M) {b : Int} (h0 : 0 ≤ b) (h1 : b < c.n) : c.readV b = M.getD b.toNat .zero := by
  unfold CS.readV
  rw [if_pos (cerr_in h0 h1)]
  cases hm : c.m b with
  | none => exact h.rest b h0 h1 (by unfold CS.isD; rw [hm])
  | some e =>
    obtain ⟨x, d⟩ := e
    cases d
    · exact h.clean b x h0 h1 hm
    · exact h.dirty b x h0 h1 hm
theorem Fine.readE (h : Fine c M) {b : Int} (h0 : 0 ≤ b) (h1 : b < c.n) : c.readE b = 0 := by
  unfold CS.readE
  rw [if_pos (cerr_in h0 h1)]
  cases c.m b with
  | none => exact h.err h0 h1
  | some e => rfl
theorem Fine.backE (h : Fine c M) {b : Int} (h0 : 0 ≤ b) (h1 : b < c.n) : c.backE b = 0 := by
  cases hd : c.isD b
  · exact backE_none (cerr_in h0 h1) hd
  · unfold CS.isD at hd
    cases hm : c.m b with
    | none => rw [hm] at hd; cases hd
    | some e =>
      obtain ⟨x, d⟩ := e
      rw [hm] at hd
      have : d = true := hd
      subst this
      rw [backE_has (cerr_in h0 h1) hm, h.err h0 h1]
theorem isD_set {c : CS} {b k : Int} {v : Option Ent} {d : DS} : CS.isD { c with d := d, m := setM c.m b v } k = if k = b then (match v with | some e => e.2 | none => false) else c.isD k := by
  unfold CS.isD
  by_cases e : k = b
  · subst e
    simp only [setM_same, if_true]
    cases v <;> rfl
  · simp only [setM_other e, if_neg e]
/-- What it has is turned at one block, to what tells the same. -/
theorem Fine.turn (h : Fine c M) {b : Int} {x : Blk} (hx : x = M.getD b.toNat .zero) (hr : c.d.read b = M.getD b.toNat .zero) : Fine { c with m := setM c.m b (some (x, false)) } M where
  len := h.len
  live := h.live
  pos := h.pos
  dirty k y h0 h1 hy := by
    by_cases e : k = b
    · subst e; rw [show CS.m { c with m := setM c.m k (some (x, false)) } k = some (x, false) from setM_same _ _ _] at hy; cases hy
    · exact h.dirty k y h0 h1 (by rw [show CS.m { c with m := setM c.m b (some (x, false)) } k = c.m k from setM_other e] at hy; exact hy)
  clean k y h0 h1 hy := by
    by_cases e : k = b
    · subst e; rw [show CS.m { c with m := setM c.m k (some (x, false)) } k = some (x, false) from setM_same _ _ _] at hy; cases hy; exact hx
    · exact h.clean k y h0 h1 (by rw [show CS.m { c with m := setM c.m b (some (x, false)) } k = c.m k from setM_other e] at hy; exact hy)
  rest k h0 h1 hd := by
    by_cases e : k = b
    · subst e; exact hr
    · have := isD_set (c := c) (b := b) (k := k) (v := some (x, false)) (d := c.d)
      rw [if_neg e] at this
      exact h.rest k h0 h1 (this.symm.trans hd)
theorem Fine.cut (h : Fine c M) {b : Int} (hr : 0 ≤ b → b < c.n → c.d.read b = M.getD b.toNat .zero) : Fine (c.cut b) M where
  len := h.len
  live := h.live
  pos := h.pos
  dirty k y h0 h1 hy := by
    by_cases e : k = b
    · subst e; rw [show (c.cut k).m k = none from setM_same _ _ _] at hy; cases hy
    · exact h.dirty k y h0 h1 (by rw [show (c.cut b).m k = c.m k from setM_other e] at hy; exact hy)
  clean k y h0 h1 hy := by
    by_cases e : k = b
    · subst e; rw [show (c.cut k).m k = none from setM_same _ _ _] at hy; cases hy
    · exact h.clean k y h0 h1 (by rw [show (c.cut b).m k = c.m k from setM_other e] at hy; exact hy)
  rest k h0 h1 hd := by
    by_cases e : k = b
    · subst e; exact hr h0 h1
    · have := isD_set (c := c) (b := b) (k := k) (v := none) (d := c.d)
      rw [if_neg e] at this
      exact h.rest k h0 h1 (this.symm.trans hd)
theorem Fine.read (h : Fine c M) (b : Int) : Fine (c.read b) M := by
  unfold CS.read
  split
  · rename_i hh
    have hi := CS.in_of hh.1
    have hr := h.rest b hi.1 hi.2 (by unfold CS.isD; rw [hh.2.1])
    exact h.turn hr hr
  · exact h
theorem getD_set {M : List Blk} {k : Nat} {x : Blk} {j : Nat} (hk : k < M.length) : (M.set k x).getD j .zero = if j = k then x else M.getD j .zero := by
  rw [List.getD_eq_getElem?_getD, List.getElem?_set]
  by_cases e : k = j
  · subst e; rw [if_pos rfl, if_pos hk, if_pos rfl]; rfl
  · rw [if_neg e, if_neg (Ne.symm e), List.getD_eq_getElem?_getD]
theorem Fine.write (h : Fine c M) {b : Int} (h0 : 0 ≤ b) (h1 : b < c.n) (x : Blk) : Fine (c.write b x) (M.set b.toNat x) := by
  have hw : c.write b x = { c with m := setM c.m b (some (x, true)) } := by unfold CS.write; rw [if_pos (cerr_in h0 h1)]
  have hlen := h.len
  rw [hw]
  have hk : b.toNat < M.length := by omega
  refine ⟨by rw [List.length_set]; exact h.len, h.live, by rw [List.length_set]; exact h.pos, fun k y k0 k1 hy => ?_, fun k y k0 k1 hy => ?_, fun k k0 k1 hd => ?_⟩
  · rw [getD_set hk]
    by_cases e : k = b
    · subst e; rw [show CS.m { c with m := setM c.m k (some (x, true)) } k = some (x, true) from setM_same _ _ _] at hy; cases hy; rw [if_pos rfl]
    · rw [if_neg (by omega)]
      exact h.dirty k y k0 k1 (by rw [show CS.m { c with m := setM c.m b (some (x, true)) } k = c.m k from setM_other e] at hy; exact hy)
  · rw [getD_set hk]
    by_cases e : k = b
    · subst e; rw [show CS.m { c with m := setM c.m k (some (x, true)) } k = some (x, true) from setM_same _ _ _] at hy; cases hy
    · rw [if_neg (by omega)]
      exact h.clean k y k0 k1 (by rw [show CS.m { c with m := setM c.m b (some (x, true)) } k = c.m k from setM_other e] at hy; exact hy)
  · have := isD_set (c := c) (b := b) (k := k) (v := some (x, true)) (d := c.d)
    by_cases e : k = b
    · rw [if_pos e] at this; rw [show CS.isD { c with m := setM c.m b (some (x, true)) } k = true from this] at hd; cases hd
    · rw [if_neg e] at this
      rw [getD_set hk, if_neg (by omega)]
      exact h.rest k k0 k1 (this.symm.trans hd)
theorem write_read {s : DS} {b : Int} (hb : s.err b = 0) (x : Blk) (hl : s.left = none) (hin : 0 ≤ b ∧ b < s.safe.length) {k : Int} (h0 : 0 ≤ k) (h1 : k < s.safe.length) : (s.write b x).read k = if k = b then x else s.read k := by
  have hw : s.write b x = { s.act with wait := s.wait ++ [(b.toNat, x)] } := by unfold DS.write; rw [if_pos hb]
  have hl' : (s.write b x).left = none := by rw [hw]; show s.left.map (· - 1) = none; rw [hl]; rfl
  have hn : (s.write b x).now = s.now.set b.toNat x := by
    rw [hw]; show over s.safe (s.wait ++ [(b.toNat, x)]) = _
    rw [over_append]; rfl
  have hlen : s.now.length = s.safe.length := over_length _ _
  rw [DS.read_ok (live_err hl' h0 (by rw [write_len]; exact h1)), hn, getD_set (by omega), DS.read_ok (live_err hl h0 h1)]
  by_cases e : k = b
  · rw [if_pos e, if_pos (by omega)]
  · rw [if_neg e, if_neg (by omega)]
theorem write_live {s : DS} (hl : s.left = none) (b : Int) (x : Blk) : (s.write b x).left = none := by
  unfold DS.write
  split
  · show s.left.map (· - 1) = none; rw [hl]; rfl
  · exact hl
theorem Fine.back (h : Fine c M) (b : Int) : Fine (c.back b) M := by
  cases hd : c.isD b
  · rw [back_none hd]; exact h
  · by_cases hb : 0 ≤ b ∧ b < c.n
    · obtain ⟨h0, h1⟩ := hb
      unfold CS.isD at hd
      cases hm : c.m b with
      | none => rw [hm] at hd; cases hd
      | some e =>
        obtain ⟨x, d⟩ := e
        rw [hm] at hd
        have : d = true := hd
        subst this
        rw [back_has (cerr_in h0 h1) hm (h.err h0 h1)]
        have hx := h.dirty b x h0 h1 hm
        have hlen : (c.d.write b x).safe.length = c.d.safe.length := write_len _ _ _
        refine ⟨(show List.length _ = _ from hlen).trans h.len, write_live h.live b x, h.pos, fun k y k0 k1 hy => ?_, fun k y k0 k1 hy => ?_, fun k k0 k1 hd => ?_⟩
        · have k1' : k < c.n := by rw [show c.n = c.d.safe.length from rfl, ← hlen]; exact k1
          by_cases e : k = b
          · subst e; rw [show CS.m { c with d := c.d.write k x, m := setM c.m k (some (x, false)) } k = some (x, false) from setM_same _ _ _] at hy; cases hy
          · exact h.dirty k y k0 k1' (by rw [show CS.m { c with d := c.d.write b x, m := setM c.m b (some (x, false)) } k = c.m k from setM_other e] at hy; exact hy)
        · have k1' : k < c.n := by rw [show c.n = c.d.safe.length from rfl, ← hlen]; exact k1
          by_cases e : k = b
          · subst e; rw [show CS.m { c with d := c.d.write k x, m := setM c.m k (some (x, false)) } k = some (x, false) from setM_same _ _ _] at hy; cases hy; exact hx
          · exact h.clean k y k0 k1' (by rw [show CS.m { c with d := c.d.write b x, m := setM c.m b (some (x, false)) } k = c.m k from setM_other e] at hy; exact hy)
        · have k1' : k < c.n := by rw [show c.n = c.d.safe.length from rfl, ← hlen]; exact k1
          show (c.d.write b x).read k = _
          rw [write_read (h.err h0 h1) x h.live ⟨h0, h1⟩ k0 k1']
          have := isD_set (c := c) (b := b) (k := k) (v := some (x, false)) (d := c.d.write b x)
          by_cases e : k = b
          · rw [if_pos e, e]; exact hx
          · rw [if_neg e] at this ⊢
            exact h.rest k k0 k1' (this.symm.trans hd)
    · have he : c.err b ≠ 0 := fun q => hb (CS.in_of q)
      have : c.back b = c := by unfold CS.back; rw [if_neg (fun q => he q.1)]
      rw [this]; exact h
theorem Fine.wb (h : Fine c M) (k : Int) : Fine (c.wb k) M := by
  unfold CS.wb
  split
  · exact h
  · exact h.back _
theorem isC_notD {c : CS} {b : Int} (h : c.isC b = true) : c.isD b = false := by
  unfold CS.isC at h
  unfold CS.isD
  cases hm : c.m b with
  | none => rfl
  | some e => rw [hm] at h; simp at h; exact h.1
theorem Fine.ev (h : Fine c M) (k : Int) : Fine (c.ev k) M := by
  unfold CS.ev
  split
  · exact h
  · rename_i hl
    have hm := mem_pickL.1 (pickAt_mem (k := k) hl)
    exact h.cut fun h0 h1 => h.rest _ h0 h1 (isC_notD hm.2)
theorem Fine.pin (h : Fine c M) (b : Int) (on : Bool) : Fine (c.setPin b on) M := by
  unfold CS.setPin
  split
  · exact ⟨h.len, h.live, h.pos, h.dirty, h.clean, h.rest⟩
  · exact h
set_option maxRecDepth 100000 in
theorem fresh_fine (a : Addr) (N : Nat) (hN : 1 ≤ N) : Fine (.fresh a (.new N)) (List.replicate N .zero) := by
  refine ⟨rfl, rfl, by rw [List.length_replicate]; exact hN, fun _ _ _ _ h => (by cases h), fun _ _ _ _ h => (by cases h), fun b h0 h1 _ => ?_⟩
  have h2 : (CS.fresh a (.new N)).n = N := List.length_replicate
  rw [DS.read_ok (live_err rfl h0 h1)]
  rfl
theorem Fine.backs : ∀ (l : List Int) {c : CS}, Fine c M → (∀ b ∈ l, 0 ≤ b ∧ b < c.n) → (c.backs l).2 = 0 ∧ Fine (c.backs l).1 M
  | [], _, h, _ => ⟨rfl, h⟩
  | b :: r, c, h, hb => by
    have h1 := hb b List.mem_cons_self
    unfold CS.backs
    rw [if_pos (h.backE h1.1 h1.2)]
    exact Fine.backs r (h.back b) fun k hk => by rw [CS.back_n]; exact hb k (List.mem_cons_of_mem _ hk)
/-- What is backed is not dirty; what is not, stays. -/
theorem back_isD (h : Fine c M) {b : Int} (h0 : 0 ≤ b) (h1 : b < c.n) (k : Int) : (c.back b).isD k = if k = b then false else c.isD k := by
  cases hd : c.isD b
  · rw [back_none hd]
    by_cases e : k = b
    · subst e; rw [if_pos rfl]; exact hd
    · rw [if_neg e]
  · unfold CS.isD at hd
    cases hm : c.m b with
    | none => rw [hm] at hd; cases hd
    | some e =>
      obtain ⟨x, d⟩ := e
      rw [hm] at hd
      have : d = true := hd
      subst this
      rw [back_has (cerr_in h0 h1) hm (h.err h0 h1)]
      exact isD_set
theorem backs_isD : ∀ (l : List Int) {c : CS}, Fine c M → (∀ b ∈ l, 0 ≤ b ∧ b < c.n) → ∀ k, (c.backs l).1.isD k = (c.isD k && !decide (k ∈ l))
  | [], _, _, _, k => by simp [CS.backs]
  | b :: r, c, h, hb, k => by
    have h1 := hb b List.mem_cons_self
    unfold CS.backs
    rw [if_pos (h.backE h1.1 h1.2), backs_isD r (h.back b) (fun k hk => by rw [CS.back_n]; exact hb k (List.mem_cons_of_mem _ hk)) k, back_isD h h1.1 h1.2]
    by_cases e : k = b
    · subst e; simp
    · simp [e]
theorem flush_read {s : DS} (hl : s.left = none) {k : Int} (h0 : 0 ≤ k) (h1 : k < s.safe.length) : s.flush.read k = s.read k := by
  have hd : s.dead = false := by unfold DS.dead; rw [hl]; rfl
  have hf := DS.flush_live hd
  have hl' : s.flush.left = none := by rw [hf]; show s.left.map (· - 1) = none; rw [hl]; rfl
  rw [DS.read_ok (live_err hl' h0 (by rw [flush_len]; exact h1)), DS.read_ok (live_err hl h0 h1), hf]
  rfl
/-- Behind Sync: nothing is dirty, all is safe. -/
theorem Fine.sync (h : Fine c M) : c.sync.2 = 0 ∧ Fine c.sync.1 M ∧ c.sync.1.dirty = [] ∧ c.sync.1.d.wait = [] ∧ c.sync.1.d.safe = M := by
  have hin : ∀ b ∈ c.dirty, 0 ≤ b ∧ b < c.n := fun b hb => (mem_pickL.1 hb).1
  obtain ⟨e0, hf⟩ := h.backs c.dirty hin
  have hD := backs_isD c.dirty h hin
  have hn : (c.backs c.dirty).1.n = c.n := CS.backs_n _ _
  unfold CS.sync
  rw [if_pos e0]
  generalize (c.backs c.dirty).1 = q at hf hD hn ⊢
  have hdead : q.d.dead = false := by unfold DS.dead; rw [hf.live]; rfl
  have hfl := DS.flush_live hdead
  have hall : ∀ k : Int, 0 ≤ k → k < q.n → q.isD k = false := fun k k0 k1 => by
    rw [hD k]
    cases hk : c.isD k
    · rfl
    · have : k ∈ c.dirty := mem_pickL.2 ⟨⟨k0, by rw [← hn]; exact k1⟩, hk⟩
      simp [this]
  have hlen : q.d.flush.safe.length = q.d.safe.length := flush_len _
  have hnow : q.d.now.length = q.d.safe.length := over_length _ _
  have hql : q.d.safe.length = M.length := hf.len
  have hF : Fine { q with d := q.d.flush } M := by
    refine ⟨(show List.length _ = _ from hlen).trans hf.len, by rw [show CS.d { q with d := q.d.flush } = q.d.flush from rfl, hfl]; show q.d.left.map (· - 1) = none; rw [hf.live]; rfl, hf.pos, fun k y k0 k1 hy => hf.dirty k y k0 (by rw [show q.n = q.d.safe.length from rfl, ← hlen]; exact k1) hy, fun k y k0 k1 hy => hf.clean k y k0 (by rw [show q.n = q.d.safe.length from rfl, ← hlen]; exact k1) hy, fun k k0 k1 hd => ?_⟩
    have k1' : k < q.n := by rw [show q.n = q.d.safe.length from rfl, ← hlen]; exact k1
    show q.d.flush.read k = _
    rw [flush_read hf.live k0 k1']
    exact hf.rest k k0 k1' hd
  refine ⟨?_, hF, ?_, ?_, ?_⟩
  · show q.d.err 0 = 0
    exact live_err hf.live (by omega) (by have := hf.pos; omega)
  · show pickL _ _ = []
    unfold pickL
    rw [List.filter_eq_nil_iff]
    intro k hk
    have := mem_nums.1 hk
    have k1 : k < q.n := by rw [show q.n = q.d.safe.length from rfl, ← hlen]; exact this.2
    rw [show CS.isD { q with d := q.d.flush } k = q.isD k from rfl, hall k this.1 k1]
    simp
  · show q.d.flush.wait = []
    rw [hfl]
  · show q.d.flush.safe = M
    rw [hfl]
    show q.d.now = M
    refine List.ext_getElem? fun i => ?_
    by_cases hi : i < M.length
    · have hr := hf.rest (i : Int) (by omega) (by rw [show q.n = q.d.safe.length from rfl]; omega) (hall i (by omega) (by rw [show q.n = q.d.safe.length from rfl]; omega))
      rw [DS.read_ok (live_err hf.live (by omega) (by omega)), Int.toNat_natCast, List.getD_eq_getElem?_getD, List.getD_eq_getElem?_getD, List.getElem?_eq_getElem (by omega), List.getElem?_eq_getElem hi] at hr
      rw [List.getElem?_eq_getElem (by omega), List.getElem?_eq_getElem hi]
      exact congrArg some hr
    · rw [List.getElem?_eq_none (by omega), List.getElem?_eq_none (by omega)]
end
end Go.Proofs.Ytkolpdllogpklaa
