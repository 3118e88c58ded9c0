import Derived.Test.YtamghbmeedbbgaaGeoR5
namespace Go.Proofs.Ytamghbmeedbbgaa
open Go.RowKit

/-! GeoTells. -/
set_option maxRecDepth 100000 in
set_option maxHeartbeats 2000000 in
theorem geoTells_any (hS : GeoSays) (g : GeoV) (q b : Int) (w : World) (h1 : g.Fits) (h2 : I64 q) (h3 : I64 b) : Calls Try.prog 3 #[.agg (gcs g), .int .i64 q, .int .i64 b] w fun e w' => e = .returned (.bool true) ∧ Below w.heap.size w w' := by
  have P := Lib.hid (gp_start w g)
  have C1 : Hid (∀ W, Calls Try.prog 10 #[.agg (gcs g), .int .i64 q] W fun e w' => e = .returned (.tuple #[.int .i64 (startG g q), .bool (inGroup g q)]) ∧ Below W.heap.size W w') := Lib.hid fun W => hS.start g q W h1 h2
  have C2 : Hid (∀ W, Calls Try.prog 11 #[.agg (gcs g), .int .i64 q] W fun e w' => e = .returned (.tuple #[.int .i64 (startG g q), .bool (inGroup g q)]) ∧ Below W.heap.size W w') := Lib.hid fun W => rStart g q W
  have C3 : Hid (∀ W, Calls Try.prog 12 #[.agg (gcs g), .int .i64 b] W fun e w' => e = .returned (.tuple #[.int .u8 (whatG g b).1, .int .i64 (whatG g b).2.1, .int .i64 (whatG g b).2.2]) ∧ Below W.heap.size W w') := Lib.hid fun W => hS.what g b W h1 h3
  have C4 : Hid (∀ W, Calls Try.prog 13 #[.agg (gcs g), .int .i64 b] W fun e w' => e = .returned (.tuple #[.int .u8 (whatG g b).1, .int .i64 (whatG g b).2.1, .int .i64 (whatG g b).2.2]) ∧ Below W.heap.size W w') := Lib.hid fun W => rWhat g b W h3
  have D1 : Hid (∀ W, Calls Try.prog 14 #[.agg (gcs g)] W fun e w' => e = .returned (.bool (mayB g)) ∧ Below W.heap.size W w') := Lib.hid fun W => hS.may g W h1
  have D2 : Hid (∀ W, Calls Try.prog 15 #[.agg (gcs g)] W fun e w' => e = .returned (.bool (mayB g)) ∧ Below W.heap.size W w') := Lib.hid fun W => rMay g W
  have D3 : Hid (∀ W, Calls Try.prog 16 #[.agg (gcs g)] W fun e w' => e = .returned (.int .i64 (blocksG g)) ∧ Below W.heap.size W w') := Lib.hid fun W => hS.blocks g W h1
  have D4 : Hid (∀ W, Calls Try.prog 17 #[.agg (gcs g)] W fun e w' => e = .returned (.int .i64 (blocksG g)) ∧ Below W.heap.size W w') := Lib.hid fun W => rBlocks g W
  have D5 : Hid (∀ W, Calls Try.prog 18 #[.agg (gcs g)] W fun e w' => e = .returned (.int .i64 (inodesG g)) ∧ Below W.heap.size W w') := Lib.hid fun W => hS.inodes g W h1
  have D6 : Hid (∀ W, Calls Try.prog 19 #[.agg (gcs g)] W fun e w' => e = .returned (.int .i64 (inodesG g)) ∧ Below W.heap.size W w') := Lib.hid fun W => rInodes g W
  have D7 : Hid (∀ W, Calls Try.prog 20 #[.agg (gcs g)] W fun e w' => e = .returned (.int .i64 (dataG g)) ∧ Below W.heap.size W w') := Lib.hid fun W => hS.data g W h1
  have D8 : Hid (∀ W, Calls Try.prog 21 #[.agg (gcs g)] W fun e w' => e = .returned (.int .i64 (dataG g)) ∧ Below W.heap.size W w') := Lib.hid fun W => rData g W
  clear hS h1 h2 h3
  generalize startG g q = st at *
  generalize inGroup g q = gi at *
  generalize whatG g b = wb at *
  generalize mayB g = mb at *
  generalize blocksG g = bl at *
  generalize inodesG g = io at *
  generalize dataG g = da at *
  obtain ⟨x, y, z⟩ := wb
  have t1 : (mb == mb) = true := by simp
  have t2 : (bl == bl) = true := by simp
  have t3 : (io == io) = true := by simp
  have t4 : (da == da) = true := by simp
  have t5 : (st == st) = true := by simp
  have t6 : (gi == gi) = true := by simp
  have t7 : (x == x) = true := by simp
  have t8 : (y == y) = true := by simp
  have t9 : (z == z) = true := by simp
  go_enter Try.func3, Try.ntmps3
  go_wp2_with (first
    | (refine load_geo rfl (.tmp 3) rfl w.heap.size 0 rfl g P.out.2.at ?_)
    | (go_at_call 10; refine (C1.out _).mono ?_; rintro e wn ⟨rfl, hb⟩; have P := Lib.hid (P.out.step hb); clear hb)
    | (go_at_call 11; refine (C2.out _).mono ?_; rintro e wn ⟨rfl, hb⟩; have P := Lib.hid (P.out.step hb); clear hb)
    | (go_at_call 12; refine (C3.out _).mono ?_; rintro e wn ⟨rfl, hb⟩; have P := Lib.hid (P.out.step hb); clear hb)
    | (go_at_call 13; refine (C4.out _).mono ?_; rintro e w5 ⟨rfl, hb⟩; have P := Lib.hid (P.out.step hb); clear hb))
  refine wp_region_class (GP w g) (by kernel_rfl) (by kernel_rfl) (P.out.step (Below.refl _ _).drew) ?_
  repeat (first | go_big_quiet_skip | (go_big_quiet_want; first | (refine quiet_geo _ rfl _ _ rfl g (by intro w' hw'; exact hw'.2.at) ?_; simp only [Act.put, List.setIfInBounds_toArray, List.set_cons_zero, List.set_cons_succ]; go_big_quiet_on) | (go_big_quiet_op; first | go_big_quiet_on | (apply Exists.intro; refine ⟨fun _ _ => ?_, ?_⟩; (with_reducible exact rfl); go_big_quiet_on) | go_big_quiet_call ((intro hC; (first | (with_reducible refine (D1.out _).mono ?_) | (with_reducible refine (D2.out _).mono ?_) | (with_reducible refine (D3.out _).mono ?_) | (with_reducible refine (D4.out _).mono ?_) | (with_reducible refine (D5.out _).mono ?_) | (with_reducible refine (D6.out _).mono ?_) | (with_reducible refine (D7.out _).mono ?_) | (with_reducible refine (D8.out _).mono ?_)); exact fun e w' h => ⟨h.1, hC.step h.2⟩)))))
  refine wpQuiet_nil ?_
  intro w6 hw6
  have QF := Lib.hid hw6
  clear hw6
  go_wp2
  go_ret
  exact ⟨rfl, QF.out.1⟩
end Go.Proofs.Ytamghbmeedbbgaa
