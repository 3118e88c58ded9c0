import Derived.Test.YtkolpdllogpklaaCaS
import Derived.Test.YtkolpdllogpklaaSortO
namespace Go.Proofs.Ytkolpdllogpklaa
open Go.RowKit Go.Maps

/-! The landed cache: what only tells. -/
theorem dk_blocks0 (a : Addr) (s : DS) (av : Av) (w : World) (h : LD w a s av) : Calls Try.prog 32 #[.pointer (some a)] w fun e w' => e = .returned (.int .i64 (s.safe.length : Nat)) ∧ w' = w := by
  obtain ⟨⟨b, g, o, g2, o2, n, c, c2, v, rfl, h⟩, hl⟩ := h
  refine (lBlocks_any w b (lsOf s) g o g2 o2 n c c2 v av h).mono ?_
  rintro e w' ⟨rfl, rfl⟩
  exact ⟨by rw [h.len]; rfl, rfl⟩
theorem dk_read0 (a : Addr) (s : DS) (av : Av) (b : Int) (w : World) (h : LD w a s av) : Calls Try.prog 28 #[.pointer (some a), .int .i64 b] w fun e w' => e = .returned (.tuple #[.agg (arr (s.read b)), .int .i64 (s.err b)]) ∧ Below w.heap.size w w' := by
  obtain ⟨⟨bb, g, o, g2, o2, n, c, c2, v, rfl, h⟩, hl⟩ := h
  refine (lRead_any w bb (lsOf s) g o g2 o2 n c c2 v av b h).mono ?_
  rintro e w' ⟨rfl, hB⟩
  refine ⟨?_, hB⟩
  unfold readOf DS.read
  rw [errOf_ls]; rfl
theorem zero_unit (w : World) : (zeroValue 77).run Try.prog w = .ok (.agg #[]) w := by kernel_rfl
section
variable (w : World) (cb bm pm : Nat) (c : CS) (av : Av)
theorem cMade (h : CAt w cb bm pm c av) : Calls Try.prog 34 #[.pointer (some ⟨cb, 0, none⟩)] w fun e w' => e = .returned (.bool true) ∧ w' = w := by
  have c0 := h.c0
  clear h
  generalize c.a = a at c0
  go_enter Try.func34, Try.ntmps34
  go_wp2
  go_ret
  exact ⟨rfl, rfl⟩
set_option maxRecDepth 100000 in
theorem cRefusal (b : Int) (h : CAt w cb bm pm c av) : Calls Try.prog 33 #[.pointer (some ⟨cb, 0, none⟩), .int .i64 b] w fun e w' => e = .returned (.int .i64 (c.err b)) ∧ w' = w := by
  have M := Lib.hid (cMade w cb bm pm c av h)
  have c0 := h.c0
  have K := Lib.hid (dk_blocks0 c.a c.d _ w h.disk)
  have EO := Lib.hid (fun h => CS.err_out (c := c) (b := b) h)
  have EI := Lib.hid (fun h => CS.err_in (c := c) (b := b) h)
  have EN : Hid (c.n = c.d.safe.length) := Lib.hid rfl
  clear h
  generalize c.err b = ev at EO EI
  generalize c.d.safe.length = n at K EN
  generalize c.a = a at c0 K
  by_cases h0 : b < 0
  · have t0 : decide (b < 0) = true := decide_eq_true h0
    go_enter Try.func33, Try.ntmps33
    go_wp2_with (first | (go_at_call 34; refine M.out.mono ?_; rintro e w1 ⟨rfl, rfl⟩) | (go_at_call 32; refine K.out.mono ?_; rintro e w1 ⟨rfl, rfl⟩))
    go_ret
    exact ⟨by rw [EO.out (.inl h0)]; rfl, rfl⟩
  · have t0 : decide (b < 0) = false := decide_eq_false h0
    by_cases h1 : (n : Int) ≤ b
    · have t1 : decide ((n : Int) ≤ b) = true := decide_eq_true h1
      go_enter Try.func33, Try.ntmps33
      go_wp2_with (first | (go_at_call 34; refine M.out.mono ?_; rintro e w1 ⟨rfl, rfl⟩) | (go_at_call 32; refine K.out.mono ?_; rintro e w1 ⟨rfl, rfl⟩))
      go_ret
      exact ⟨by rw [EO.out (.inr (by rw [EN.out]; exact h1))]; rfl, rfl⟩
    · have t1 : decide ((n : Int) ≤ b) = false := decide_eq_false h1
      go_enter Try.func33, Try.ntmps33
      go_wp2_with (first | (go_at_call 34; refine M.out.mono ?_; rintro e w1 ⟨rfl, rfl⟩) | (go_at_call 32; refine K.out.mono ?_; rintro e w1 ⟨rfl, rfl⟩))
      go_ret
      exact ⟨by rw [EI.out (by rw [EN.out]; omega)]; rfl, rfl⟩
theorem cPinned (b : Int) (hb : I64 b) (h : CAt w cb bm pm c av) : Calls Try.prog 39 #[.pointer (some ⟨cb, 0, none⟩), .int .i64 b] w fun e w' => e = .returned (.bool (c.pin b)) ∧ Below w.heap.size w w' := by
  have c2 := h.c2
  obtain ⟨D, hown, hr⟩ := h.pins
  have HO := Lib.hid hown
  have HP : Hid (Maps.has D (.int .i64 b) = c.pin b) := Lib.hid (by rw [hr.has b hb, pinO_some])
  have HK := Lib.hid (key_of hb)
  have B0 := Lib.hid (Below.refl w.heap.size w)
  clear h hown hr hb
  generalize c.n = n at HO
  generalize c.pin b = pv at HP
  have hz := fun W => zero_unit W
  go_enter Try.func39, Try.ntmps39
  go_wp2_with (first | (at_lookup; refine wpList_lookup_own_unit _ rfl (.tmp 11) (.tmp 12) 36 rfl 3 77 int_law Try.underlying36 (zero_unit _) pm _ D rfl HO.out _ _ rfl HK.out ?_; rw [HP.out]))
  go_ret
  exact ⟨rfl, B0.out.alloc (Nat.le_refl _) _⟩
end
theorem cDirty1 (w : World) (k : Int) (X : Blk) (d : Bool) : Calls Try.prog 37 #[.int .i64 k, .agg (hcell X d)] w fun e w' => e = .returned (.bool d) ∧ Below w.heap.size w w' := by
  have c1 := (HVar.new w X d).flag
  have B0 := Lib.hid (Below.refl w.heap.size w)
  go_enter Try.func37, Try.ntmps37
  go_wp2
  go_ret
  exact ⟨rfl, B0.out.alloc (Nat.le_refl _) _⟩
section
variable (w : World) (cb bm pm : Nat) (c : CS) (av : Av)
theorem cClean1 (pb : Nat) (k : Int) (X : Blk) (d : Bool) (hk : I64 k) (h : CAt w cb bm pm c av) (hp : w.cell? ⟨pb, 0, none⟩ = some (.pointer (some ⟨cb, 0, none⟩))) :
    Calls Try.prog 38 #[.int .i64 k, .agg (hcell X d), .pointer (some ⟨pb, 0, none⟩)] w fun e w' => e = .returned (.bool (!d && !c.pin k)) ∧ Below w.heap.size w w' := by
  have B0 := (Below.refl w.heap.size w).alloc (Nat.le_refl _) (.cells (hcell X d) 75)
  have c1 := (HVar.new w X d).flag
  have c0 : (w.alloc (.cells (hcell X d) 75)).cell? ⟨pb, 0, none⟩ = some (.pointer (some ⟨cb, 0, none⟩)) := by rw [B0.cell (World.block_lt_of_cell? w _ hp)]; exact hp
  have PN := Lib.hid (cPinned _ cb bm pm c av k hk (h.below B0))
  have B1 := Lib.hid B0
  clear h hp B0 hk
  generalize c.pin k = pv at PN ⊢
  cases d
  · go_enter Try.func38, Try.ntmps38
    go_wp2_with (go_at_call 39; refine PN.out.mono ?_; rintro e w1 ⟨rfl, hw1⟩)
    go_ret
    exact ⟨by cases pv <;> rfl, B1.out.trans (hw1.mono B1.out.size)⟩
  · go_enter Try.func38, Try.ntmps38
    go_wp2_with fail
    go_ret
    exact ⟨rfl, B1.out⟩
end
end Go.Proofs.Ytkolpdllogpklaa
