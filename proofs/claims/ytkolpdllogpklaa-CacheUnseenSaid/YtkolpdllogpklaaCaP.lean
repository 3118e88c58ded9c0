import Derived.Test.YtkolpdllogpklaaCaP8
namespace Go.Proofs.Ytkolpdllogpklaa
open Go.RowKit Go.Maps

/-! The landed cache's contract, over a pointer. -/
section
variable (w : World) (p : Addr) (c : CS) (av : Av)
theorem ca_read (b : Int) (h : CA w p c av) : Calls Try.prog 10 #[.pointer (some p), .int .i64 b] w fun e w' => e = .returned (.tuple #[.agg (arr (c.readV b)), .int .i64 (c.readE b)]) ∧ CA w' p (c.read b) av ∧ Keep av w w' := by
  obtain ⟨cb, bm, pm, rfl, h⟩ := h
  exact (cRead w cb bm pm c av b h).mono fun _ _ ⟨he, hc, hk⟩ => ⟨he, ⟨cb, bm, pm, rfl, hc⟩, hk⟩
theorem ca_write (b : Int) (X : Blk) (h : CA w p c av) : Calls Try.prog 17 #[.pointer (some p), .int .i64 b, .agg (arr X)] w fun e w' => e = .returned (.int .i64 (c.err b)) ∧ CA w' p (c.write b X) av ∧ Keep av w w' := by
  obtain ⟨cb, bm, pm, rfl, h⟩ := h
  exact (cWrite w cb bm pm c av b X h).mono fun _ _ ⟨he, hc, hk⟩ => ⟨he, ⟨cb, bm, pm, rfl, hc⟩, hk⟩
theorem ca_back (b : Int) (h : CA w p c av) (ha : c.d.acts < 1000000) : Calls Try.prog 18 #[.pointer (some p), .int .i64 b] w fun e w' => e = .returned (.int .i64 (c.backE b)) ∧ CA w' p (c.back b) av ∧ Keep av w w' := by
  obtain ⟨cb, bm, pm, rfl, h⟩ := h
  exact (cBack w cb bm pm c av b h ha).mono fun _ _ ⟨he, hc, hk⟩ => ⟨he, ⟨cb, bm, pm, rfl, hc⟩, hk⟩
theorem ca_drop (b : Int) (h : CA w p c av) : Calls Try.prog 19 #[.pointer (some p), .int .i64 b] w fun e w' => e = .returned (.int .i64 (c.dropE b)) ∧ CA w' p (c.drop b) av ∧ Keep av w w' := by
  obtain ⟨cb, bm, pm, rfl, h⟩ := h
  exact (cDrop w cb bm pm c av b h).mono fun _ _ ⟨he, hc, hk⟩ => ⟨he, ⟨cb, bm, pm, rfl, hc⟩, hk⟩
theorem ca_pin (b : Int) (on : Bool) (h : CA w p c av) : Calls Try.prog 11 #[.pointer (some p), .int .i64 b, .bool on] w fun e w' => e = .returned noResult ∧ CA w' p (c.setPin b on) av ∧ Keep av w w' := by
  obtain ⟨cb, bm, pm, rfl, h⟩ := h
  exact (cPin w cb bm pm c av b on h).mono fun _ _ ⟨he, hc, hk⟩ => ⟨he, ⟨cb, bm, pm, rfl, hc⟩, hk⟩
theorem ca_dirty (h : CA w p c av) : Calls Try.prog 15 #[.pointer (some p)] w fun e w' => ToldI w.heap.size c.dirty e w' ∧ Below w.heap.size w w' := by
  obtain ⟨cb, bm, pm, rfl, h⟩ := h
  exact cDirty w cb bm pm c av h
theorem ca_clean (h : CA w p c av) : Calls Try.prog 16 #[.pointer (some p)] w fun e w' => ToldI w.heap.size c.clean e w' ∧ Below w.heap.size w w' := by
  obtain ⟨cb, bm, pm, rfl, h⟩ := h
  exact cClean w cb bm pm c av h
theorem ca_wb (k : Int) (h : CA w p c av) (ha : c.d.acts < 1000000) : Calls Try.prog 12 #[.pointer (some p), .int .i64 k] w fun e w' => e = .returned (wbV c k) ∧ CA w' p (c.wb k) av ∧ Keep av w w' := by
  obtain ⟨cb, bm, pm, rfl, h⟩ := h
  exact (cWriteback w cb bm pm c av k h ha).mono fun _ _ ⟨he, hc, hk⟩ => ⟨he, ⟨cb, bm, pm, rfl, hc⟩, hk⟩
theorem ca_ev (k : Int) (h : CA w p c av) : Calls Try.prog 13 #[.pointer (some p), .int .i64 k] w fun e w' => e = .returned (evV c k) ∧ CA w' p (c.ev k) av ∧ Keep av w w' := by
  obtain ⟨cb, bm, pm, rfl, h⟩ := h
  exact (cEvict w cb bm pm c av k h).mono fun _ _ ⟨he, hc, hk⟩ => ⟨he, ⟨cb, bm, pm, rfl, hc⟩, hk⟩
theorem ca_sync (h : CA w p c av) (ha : c.d.acts < 990000) : Calls Try.prog 20 #[.pointer (some p)] w fun e w' => e = .returned (.int .i64 c.sync.2) ∧ CA w' p c.sync.1 av ∧ Keep av w w' := by
  obtain ⟨cb, bm, pm, rfl, h⟩ := h
  exact (cSync w cb bm pm c av h ha).mono fun _ _ ⟨he, hc, hk⟩ => ⟨he, ⟨cb, bm, pm, rfl, hc⟩, hk⟩
theorem ca_disk (h : CA w p c av) : Calls Try.prog 14 #[.pointer (some p)] w fun e w' => e = .returned (.pointer (some c.a)) ∧ w' = w := by
  obtain ⟨cb, bm, pm, rfl, h⟩ := h
  exact cDisk w cb bm pm c av h
/-! .. and its disk, read beside it. -/
theorem ca_dread (b : Int) (h : CA w p c av) : Calls Try.prog 28 #[.pointer (some c.a), .int .i64 b] w fun e w' => e = .returned (.tuple #[.agg (arr (c.d.read b)), .int .i64 (c.d.err b)]) ∧ Below w.heap.size w w' := by
  obtain ⟨cb, bm, pm, rfl, h⟩ := h
  exact dk_read0 c.a c.d _ b w h.disk
theorem ca_waiting (h : CA w p c av) : Calls Try.prog 25 #[.pointer (some c.a)] w fun e w' => e = .returned (.int .i64 (c.d.wait.length : Nat)) ∧ CA w' p c av ∧ Keep av w w' := by
  obtain ⟨av', hs, hd, hr⟩ := h.disk
  exact (dk_waiting c.a c.d av' w hd).mono fun _ w' ⟨he, hd', hk⟩ => ⟨he, hr w' c.d rfl hd' hk, hk.mono hs⟩
theorem ca_safe (h : CA w p c av) : Calls Try.prog 24 #[.pointer (some c.a)] w fun e w' => (∃ g o cp, e = .returned (.slice (some ⟨g, o, none⟩) c.d.safe.length cp) ∧ OImg w' g o c.d.safe ∧ w.heap.size ≤ g ∧ CA w' p c (fun i => av i ∨ i = g)) ∧ Keep av w w' := by
  obtain ⟨cb, bm, pm, rfl, h⟩ := h
  refine (dk_safe c.a c.d _ w h.disk).mono ?_
  rintro e w' ⟨⟨g, o, cp, rfl, hi, hg, hd⟩, hk⟩
  have hne := h.lt
  have h2 := h.has.lt
  have h3 := h.pins.lt
  refine ⟨⟨g, o, cp, rfl, hi, hg, cb, bm, pm, rfl, (hk.block cb (.inr (.inl rfl))).trans h.cells, h.has.keep (hk.block bm (.inr (.inr (.inl rfl)))), h.pins.keep (hk.block pm (.inr (.inr (.inr rfl)))), dk_mono hd fun i hi => ?_, h.ne, fun q => ?_, fun q => ?_, fun q => ?_⟩, hk.mono fun i hi => .inl hi⟩
  · rcases hi with (hi | hi) | hi
    · exact .inl (.inl hi)
    · exact .inr hi
    · exact .inl (.inr hi)
  · rcases q with q | q
    · exact h.out.1 q
    · omega
  · rcases q with q | q
    · exact h.out.2.1 q
    · omega
  · rcases q with q | q
    · exact h.out.2.2 q
    · omega
end
end Go.Proofs.Ytkolpdllogpklaa
