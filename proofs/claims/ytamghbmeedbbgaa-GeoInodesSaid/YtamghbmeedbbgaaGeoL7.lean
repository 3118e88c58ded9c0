import Derived.Test.YtamghbmeedbbgaaGeoR5
namespace Go.Proofs.Ytamghbmeedbbgaa
open Go.RowKit

/-! GeoInodes. -/
set_option maxRecDepth 100000 in
set_option maxHeartbeats 2000000 in
theorem geoInodes_any (hS : GeoSays) (g : GeoV) (n k i : Int) (w : World) (h1 : g.Fits) (h2 : I64 n) (h3 : I64 k) (h4 : I64 i) : Calls Try.prog 4 #[.agg (gcs g), .int .i64 n, .int .i64 k, .int .i64 i] w fun e w' => e = .returned (.bool true) ∧ Below w.heap.size w w' := by
  have P := Lib.hid (gp_start w g)
  have C1 : Hid (∀ W, Calls Try.prog 22 #[.agg (gcs g), .int .i64 n] W fun e w' => e = .returned (.tuple #[.int .i64 (inodeG g n).1, .int .i64 (inodeG g n).2, .bool (inInode g n)]) ∧ Below W.heap.size W w') := Lib.hid fun W => hS.inode g n W h1 h2
  have C2 : Hid (∀ W, Calls Try.prog 23 #[.agg (gcs g), .int .i64 n] W fun e w' => e = .returned (.tuple #[.int .i64 (inodeG g n).1, .int .i64 (inodeG g n).2, .bool (inInode g n)]) ∧ Below W.heap.size W w') := Lib.hid fun W => rInode g n W h2
  have C3 : Hid (∀ W, Calls Try.prog 24 #[.agg (gcs g), .int .i64 n] W fun e w' => e = .returned (.tuple #[.int .i64 (homeG g n).1, .int .i64 (homeG g n).2, .bool (inInode g n)]) ∧ Below W.heap.size W w') := Lib.hid fun W => hS.home g n W h1 h2
  have C4 : Hid (∀ W, Calls Try.prog 25 #[.agg (gcs g), .int .i64 n] W fun e w' => e = .returned (.tuple #[.int .i64 (homeG g n).1, .int .i64 (homeG g n).2, .bool (inInode g n)]) ∧ Below W.heap.size W w') := Lib.hid fun W => rHome g n W
  have D1 : Hid (∀ W, Calls Try.prog 26 #[.agg (gcs g), .int .i64 k, .int .i64 i] W fun e w' => e = .returned (.int .i64 (numberG g k i)) ∧ Below W.heap.size W w') := Lib.hid fun W => rNumber g k i W
  have D2 : Hid (∀ W, Calls Try.prog 27 #[.agg (gcs g), .int .i64 k, .int .i64 i] W fun e w' => e = .returned (.int .i64 (numberG g k i)) ∧ Below W.heap.size W w') := Lib.hid fun W => hS.number g k i W h1 h3 h4
  clear hS h1 h2 h3 h4
  generalize inodeG g n = ig at *
  generalize homeG g n = hg at *
  generalize inInode g n = io at *
  generalize numberG g k i = nu at *
  obtain ⟨a, b⟩ := ig
  obtain ⟨c, d⟩ := hg
  have t1 : (nu != nu) = false := by simp
  have t2 : (a == a) = true := by simp
  have t3 : (b == b) = true := by simp
  have t4 : (c == c) = true := by simp
  have t5 : (d == d) = true := by simp
  have t6 : (io == io) = true := by simp
  go_enter Try.func4, Try.ntmps4
  go_wp2_with (first
    | (refine load_geo rfl (.tmp 4) rfl w.heap.size 0 rfl g P.out.2.at ?_)
    | (go_at_call 22; refine (C1.out _).mono ?_; rintro e wn ⟨rfl, hb⟩; have P := Lib.hid (P.out.step hb); clear hb)
    | (go_at_call 23; refine (C2.out _).mono ?_; rintro e wn ⟨rfl, hb⟩; have P := Lib.hid (P.out.step hb); clear hb)
    | (go_at_call 24; refine (C3.out _).mono ?_; rintro e wn ⟨rfl, hb⟩; have P := Lib.hid (P.out.step hb); clear hb)
    | (go_at_call 25; refine (C4.out _).mono ?_; rintro e w5 ⟨rfl, hb⟩; have P := Lib.hid (P.out.step hb); clear hb))
  refine wp_region_class (GP w g) (by kernel_rfl) (by kernel_rfl) (P.out.step (Below.refl _ _).drew) ?_
  repeat (first | go_big_quiet_skip | (go_big_quiet_want; first | (refine quiet_geo _ rfl _ _ rfl g (by intro w' hw'; exact hw'.2.at) ?_; simp only [Act.put, List.setIfInBounds_toArray, List.set_cons_zero, List.set_cons_succ]; go_big_quiet_on) | (go_big_quiet_op; first | go_big_quiet_on | (apply Exists.intro; refine ⟨fun _ _ => ?_, ?_⟩; (with_reducible exact rfl); go_big_quiet_on) | go_big_quiet_call ((intro hC; (first | (with_reducible refine (D1.out _).mono ?_) | (with_reducible refine (D2.out _).mono ?_)); exact fun e w' h => ⟨h.1, hC.step h.2⟩)))))
  refine wpQuiet_nil ?_
  intro w6 hw6
  have QF := Lib.hid hw6
  clear hw6
  go_wp2_with fail
  go_ret
  exact ⟨rfl, QF.out.1⟩
end Go.Proofs.Ytamghbmeedbbgaa
