import Derived.Test.YtamghbmeedbbgaaGeoM
namespace Go.Proofs.Ytamghbmeedbbgaa
open Go.RowKit

/-! awake: the chapter's examples. -/
def gx : GeoV := ⟨2, 16, 8, 40⟩
def gy : GeoV := ⟨2, 16, 56, 40⟩
theorem gx_fits : gx.Fits := ⟨by unfold I64 gx; decide, by unfold I64 gx; decide, by unfold I64 gx; decide, by unfold I64 gx; decide⟩
theorem gy_fits : gy.Fits := ⟨by unfold I64 gy; decide, by unfold I64 gy; decide, by unfold I64 gy; decide, by unfold I64 gy; decide⟩
theorem gx_eq : (#[.int .i64 2, .int .i64 16, .int .i64 8, .int .i64 40] : Array Value) = gcs gx := by rw [gcs_eq]; rfl
theorem gy_eq : (#[.int .i64 2, .int .i64 16, .int .i64 56, .int .i64 40] : Array Value) = gcs gy := by rw [gcs_eq]; rfl
theorem gx_may : mayB gx = true := by decide
theorem gy_may : mayB gy = false := by decide
theorem gx_blocks : blocksG gx = 74 := by decide
theorem gx_inodes : inodesG gx = 16 := by decide
theorem gx_data : dataG gx = 12 := by decide
theorem gx_what : whatG gx 57 = (7, 0, 15) := by decide
theorem gx_inode : inodeG gx 16 = (61, 192) := by decide
theorem gx_in : inInode gx 16 = true := by decide
theorem gx_start : startG gx 1 = 58 := by decide
theorem gx_group : inGroup gx 1 = true := by decide
theorem gx_number : numberG gx 1 0 = 9 := by decide

set_option maxRecDepth 100000 in
set_option maxHeartbeats 400000 in
theorem gAwake_any (hS : GeoSays) (w : World) : Calls Try.prog 28 #[] w fun e w' => e = .returned (.bool true) ∧ Below w.heap.size w w' := by
  have HS := Lib.hid hS
  clear hS
  have i64 : ∀ n : Nat, n ≤ 4096 → I64 (n : Int) := fun n h => by unfold I64; omega
  have V0 : Hid (GVar (w.alloc (.cells (gcs gx) 23)) w.heap.size gx) := Lib.hid (heap_alloc_new w _)
  have B0 := Lib.hid ((Below.refl w.heap.size w).alloc (Nat.le_refl _) (.cells (gcs gx) 23))
  go_enter Try.func28, Try.ntmps28
  go_wp2_with fail
  rw [gx_eq]
  generalize hw1 : w.alloc (.cells (gcs gx) 23) = w1
  have P : Hid (Below w.heap.size w w1 ∧ GVar w1 w.heap.size gx) := Lib.hid (by rw [← hw1]; exact ⟨B0.out, V0.out⟩)
  clear hw1 V0 B0
  have STEP : Hid (∀ (a b : World), Below a.heap.size a b → Hid (Below w.heap.size w a ∧ GVar a w.heap.size gx) → Hid (Below w.heap.size w b ∧ GVar b w.heap.size gx)) := Lib.hid fun _ _ h1 h2 => Lib.hid ⟨h2.out.1.trans (h1.mono h2.out.1.size), h2.out.2.below h1⟩
  refine (HS.out.what gx 57 w1 gx_fits (i64 57 (by omega))).mono ?_
  rintro e wn ⟨rfl, hb⟩
  have P := STEP.out _ _ hb P
  clear hb
  rw [gx_what]
  go_wp2_with (first
    | (refine load_geo rfl (.tmp 1) rfl w.heap.size 0 rfl gx P.out.2.at ?_)
    | (refine load_geo_w (by rfl) (.tmp 1) rfl w.heap.size 0 rfl gx P.out.2.at ?_)
    | (go_at_call 22; refine (HS.out.inode gx 16 _ gx_fits (i64 16 (by omega))).mono ?_; rintro e wn ⟨rfl, hb⟩; have P := STEP.out _ _ hb P; clear hb; rw [gx_inode, gx_in])
    | (go_at_call 10; refine (HS.out.start gx 1 _ gx_fits (i64 1 (by omega))).mono ?_; rintro e wn ⟨rfl, hb⟩; have P := STEP.out _ _ hb P; clear hb; rw [gx_start, gx_group])
    | (go_at_call 14; with_reducible refine (HS.out.may gx _ gx_fits).mono ?_; rintro e wn ⟨rfl, hb⟩; have P := STEP.out _ _ hb P; clear hb; rw [gx_may])
    | (go_at_call 14; rw [gy_eq]; refine (HS.out.may gy _ gy_fits).mono ?_; rintro e wn ⟨rfl, hb⟩; have P := STEP.out _ _ hb P; clear hb; rw [gy_may])
    | (go_at_call 16; refine (HS.out.blocks gx _ gx_fits).mono ?_; rintro e wn ⟨rfl, hb⟩; have P := STEP.out _ _ hb P; clear hb; rw [gx_blocks])
    | (go_at_call 18; refine (HS.out.inodes gx _ gx_fits).mono ?_; rintro e wn ⟨rfl, hb⟩; have P := STEP.out _ _ hb P; clear hb; rw [gx_inodes])
    | (go_at_call 20; refine (HS.out.data gx _ gx_fits).mono ?_; rintro e wn ⟨rfl, hb⟩; have P := STEP.out _ _ hb P; clear hb; rw [gx_data])
    | (go_at_call 27; refine (HS.out.number gx 1 0 _ gx_fits (i64 1 (by omega)) (i64 0 (by omega))).mono ?_; rintro e wn ⟨rfl, hb⟩; have P := STEP.out _ _ hb P; clear hb; rw [gx_number]))
  go_ret
  exact ⟨rfl, P.out.1⟩
end Go.Proofs.Ytamghbmeedbbgaa
