import Derived.Test.YtamghbmeedbbgaaGeoL4
namespace Go.Proofs.Ytamghbmeedbbgaa
open Go.RowKit

set_option maxRecDepth 100000 in
set_option maxHeartbeats 1000000 in
theorem geoAll_not (hS : GeoSays) (g : GeoV) (w : World) (h1 : g.Fits) (hm : ¬ May g) : Calls Try.prog 5 #[.agg (gcs g)] w fun e w' => e = .returned (.bool true) ∧ Below w.heap.size w w' := by
  have HS := Lib.hid hS
  have H1 := Lib.hid h1
  have P0 : Hid (GP w g (w.alloc (.cells (gcs g) 23))) := Lib.hid ⟨(Below.refl w.heap.size w).alloc (Nat.le_refl _) (.cells (gcs g) 23), heap_alloc_new w _⟩
  have M : Hid (mayB g = false) := Lib.hid (decide_eq_false hm)
  have eb : Hid (blocksG g = 0) := Lib.hid (if_neg hm)
  have ei : Hid (inodesG g = 0) := Lib.hid (if_neg hm)
  have ed : Hid (dataG g = 0) := Lib.hid (if_neg hm)
  have CB : Hid (∀ W, Calls Try.prog 16 #[.agg (gcs g)] W fun e w' => e = .returned (.int .i64 0) ∧ Below W.heap.size W w') := Lib.hid fun W => (HS.out.blocks g W H1.out).mono fun e w' q => ⟨by rw [q.1, eb.out], q.2⟩
  have CI : Hid (∀ W, Calls Try.prog 18 #[.agg (gcs g)] W fun e w' => e = .returned (.int .i64 0) ∧ Below W.heap.size W w') := Lib.hid fun W => (HS.out.inodes g W H1.out).mono fun e w' q => ⟨by rw [q.1, ei.out], q.2⟩
  have CD : Hid (∀ W, Calls Try.prog 20 #[.agg (gcs g)] W fun e w' => e = .returned (.int .i64 0) ∧ Below W.heap.size W w') := Lib.hid fun W => (HS.out.data g W H1.out).mono fun e w' q => ⟨by rw [q.1, ed.out], q.2⟩
  have CM : Hid (∀ W, Calls Try.prog 14 #[.agg (gcs g)] W fun e w' => e = .returned (.bool false) ∧ Below W.heap.size W w') := Lib.hid fun W => (HS.out.may g W H1.out).mono fun e w' q => ⟨by rw [q.1, M.out], q.2⟩
  clear hS h1 hm
  go_enter Try.func5, Try.ntmps5
  go_wp2_with fail
  generalize w.alloc (.cells (gcs g) 23) = w1 at P0 ⊢
  refine (gAwake_any HS.out w1).mono ?_
  rintro e w2 ⟨rfl, hb⟩
  have P := Lib.hid (P0.out.step hb)
  clear hb P0
  go_wp2_with (first
    | (refine load_geo rfl (.tmp 1) rfl w.heap.size 0 rfl g P.out.2.at ?_)
    | (refine load_geo_w (by rfl) (.tmp 1) rfl w.heap.size 0 rfl g P.out.2.at ?_)
    | (go_at_call 14; with_reducible refine (CM.out _).mono ?_; rintro e wn ⟨rfl, hb⟩; have P := Lib.hid (P.out.step hb); clear hb)
    | (go_at_call 16; with_reducible refine (CB.out _).mono ?_; rintro e wn ⟨rfl, hb⟩; have P := Lib.hid (P.out.step hb); clear hb)
    | (go_at_call 18; with_reducible refine (CI.out _).mono ?_; rintro e wn ⟨rfl, hb⟩; have P := Lib.hid (P.out.step hb); clear hb)
    | (go_at_call 20; with_reducible refine (CD.out _).mono ?_; rintro e wn ⟨rfl, hb⟩; have P := Lib.hid (P.out.step hb); clear hb))
  go_ret
  exact ⟨rfl, P.out.1⟩
theorem geoAll_any (hS : GeoSays) (g : GeoV) (w : World) (h1 : g.Fits) : Calls Try.prog 5 #[.agg (gcs g)] w fun e w' => e = .returned (.bool true) ∧ Below w.heap.size w w' := by
  by_cases hm : May g
  · exact geoAll_may hS g w h1 hm
  · exact geoAll_not hS g w h1 hm
end Go.Proofs.Ytamghbmeedbbgaa
