import Derived.Test.YtkolpdllogpklaaCaN1
import Derived.Test.YtkolpdllogpklaaCaK
namespace Go.Proofs.Ytkolpdllogpklaa
open Go.RowKit

/-! CacheNil. -/
set_option maxRecDepth 100000 in
set_option maxHeartbeats 16000000 in
theorem cacheNil_any (kind p f : Int) (K : Option Addr) (m c : Nat) (w : World) :
    Calls Try.prog 3 #[.agg #[.int .u8 kind, .int .i64 p, .int .u32 f, .slice K m c]] w fun e w' => e = .returned (.bool true) ∧ Below w.heap.size w w' := by
  have hz := fun W => zero_blk W
  have e1 : (w.alloc (.cells #[.int .u8 kind, .int .i64 p, .int .u32 f, .slice K m c] 25)).heap.size = w.heap.size + 1 := by simp
  have HD : Hid (Nob ((w.alloc (.cells #[.int .u8 kind, .int .i64 p, .int .u32 f, .slice K m c] 25)).alloc (.cells #[.slice none 0 0, .slice none 0 0, .slice none 0 0, .int .i64 0, .int .i64 0] 34)) (.pointer (some ⟨w.heap.size + 1, 0, none⟩))) := Lib.hid (.inr ⟨w.heap.size + 1, rfl, by rw [← e1]; exact heap_alloc_new _ _⟩)
  go_enter Try.func3, Try.ntmps3
  go_upto_region 4 with (go_at_call 9; refine (ncNew _ (.pointer none) (.inl rfl)).mono ?_; rintro e wx ⟨rfl, hwx⟩; obtain rfl := hwx.symm)
  clear hwx
  go_upto_region 5 with (go_at_call 9; refine (ncNew _ _ HD.out).mono ?_; rintro e wx ⟨rfl, hwx⟩; obtain rfl := hwx.symm)
  clear hwx HD e1
  have B2 : Hid (Below w.heap.size w ((w.alloc (.cells #[.int .u8 kind, .int .i64 p, .int .u32 f, .slice K m c] 25)).alloc (.cells #[.slice none 0 0, .slice none 0 0, .slice none 0 0, .int .i64 0, .int .i64 0] 34))) := Lib.hid (((Below.refl _ w).alloc (Nat.le_refl _) _).alloc (by simp) _)
  have h0 : Hid (((w.alloc (.cells #[.int .u8 kind, .int .i64 p, .int .u32 f, .slice K m c] 25)).alloc (.cells #[.slice none 0 0, .slice none 0 0, .slice none 0 0, .int .i64 0, .int .i64 0] 34)).heap[w.heap.size]? = some (.cells #[.int .u8 kind, .int .i64 p, .int .u32 f, .slice K m c] 25 (0, 0))) := Lib.hid (by rw [heap_alloc_old _ _ (by simp), heap_alloc_new])
  have s0 : Hid (w.heap.size < ((w.alloc (.cells #[.int .u8 kind, .int .i64 p, .int .u32 f, .slice K m c] 25)).alloc (.cells #[.slice none 0 0, .slice none 0 0, .slice none 0 0, .int .i64 0, .int .i64 0] 34)).heap.size) := Lib.hid (by simp; omega)
  generalize ((w.alloc (.cells #[.int .u8 kind, .int .i64 p, .int .u32 f, .slice K m c] 25)).alloc (.cells #[.slice none 0 0, .slice none 0 0, .slice none 0 0, .int .i64 0, .int .i64 0] 34)) = w2 at B2 h0 s0 ⊢
  go_wp2_with fail
  have B3 := Lib.hid (((Below.refl w2.heap.size w2).alloc (Nat.le_refl _) (.cells #[.pointer none, .map none, .map none] 38)).alloc (by simp) (.cells #[.pointer none, .pointer (some ⟨w2.heap.size, 0, none⟩)] 26))
  have e3 : (w2.alloc (.cells #[.pointer none, .map none, .map none] 38)).heap.size = w2.heap.size + 1 := by simp
  have h1 : Hid (((w2.alloc (.cells #[.pointer none, .map none, .map none] 38)).alloc (.cells #[.pointer none, .pointer (some ⟨w2.heap.size, 0, none⟩)] 26)).heap[w2.heap.size]? = some (.cells #[.pointer none, .map none, .map none] 38 (0, 0))) := Lib.hid (by rw [heap_alloc_old _ _ (by omega), heap_alloc_new])
  have h2 : Hid (((w2.alloc (.cells #[.pointer none, .map none, .map none] 38)).alloc (.cells #[.pointer none, .pointer (some ⟨w2.heap.size, 0, none⟩)] 26)).heap[w2.heap.size + 1]? = some (.cells #[.pointer none, .pointer (some ⟨w2.heap.size, 0, none⟩)] 26 (0, 0))) := Lib.hid (by rw [← e3, heap_alloc_new])
  have s3 : Hid (((w2.alloc (.cells #[.pointer none, .map none, .map none] 38)).alloc (.cells #[.pointer none, .pointer (some ⟨w2.heap.size, 0, none⟩)] 26)).heap.size = w2.heap.size + 2) := Lib.hid (by simp)
  clear e3
  generalize ((w2.alloc (.cells #[.pointer none, .map none, .map none] 38)).alloc (.cells #[.pointer none, .pointer (some ⟨w2.heap.size, 0, none⟩)] 26)) = w3 at B3 h1 h2 s3 ⊢
  go_loopw [10] (fun i wr => ∃ k : Nat, k ≤ 2 ∧ i = .int .i64 k ∧ Hid (Below w3.heap.size w3 wr)) (fun i _ => 2 - (intOf i).toNat)
  case atStart => exact ⟨0, by omega, rfl, Lib.hid (Below.refl _ _)⟩
  case round =>
    obtain ⟨k, hk, rfl, B⟩ := hrel
    have j1 : (0 : Int) ≤ k := by omega
    by_cases hlt : k < 2
    · have j2 : (k : Int) < 2 := by omega
      obtain ⟨v, hv, hN⟩ : ∃ v, wr.cell? ⟨w2.heap.size + 1, k, none⟩ = some v ∧ Noc wr v := by
        have hc := (B.out.block (w2.heap.size + 1) (by rw [s3.out]; omega)).trans h2.out
        have hb := (B.out.block w2.heap.size (by rw [s3.out]; omega)).trans h1.out
        rcases (show k = 0 ∨ k = 1 by omega) with rfl | rfl
        · exact ⟨_, (cell_of_row _ _ 0 _ _ (0, 0) hc).trans (by rfl), .inl rfl⟩
        · exact ⟨_, (cell_of_row _ _ 1 _ _ (0, 0) hc).trans (by rfl), .inr ⟨_, rfl, hb⟩⟩
      have A1 : Hid (∀ W, Below w3.heap.size w3 W → W.cell? ⟨w.heap.size, 1, none⟩ = some (.int .i64 p)) := Lib.hid fun W hW => by
        have hb0 := (hW.block w.heap.size (by rw [s3.out]; have := s0.out; omega)).trans ((B3.out.block w.heap.size s0.out).trans h0.out)
        exact (cell_of_row W w.heap.size 1 _ _ (0, 0) hb0).trans (by rfl : _ = some (Value.int .i64 p))
      have N0 := Lib.hid hN
      have a1 := A1.out wr B.out
      clear hN
      go_upto_region 13 with (first
        | (go_at_call 10; refine (ncRead wr v p N0.out).mono ?_; rintro e w4 ⟨rfl, hb4⟩)
        | (refine store_row rfl (.tmp 12) (.tmp 63) rfl w4.heap.size .zero .zero 41 rfl rfl (heap_alloc_new w4 _) ?_; rw [World.setRow_alloc_new]))
      have hb5 := below_newI w4 (.cells (arr .zero) 41)
      have B5 := Lib.hid (B.out.trans ((hb4.trans (hb5.mono hb4.size)).mono B.out.size))
      have N5 := Lib.hid ((N0.out.below hb4).below hb5)
      have V5 := Lib.hid (At.row (heap_alloc_new w4 (.cells (arr .zero) 41)))
      clear hb4 hb5 a1 N0 B hv
      generalize w4.alloc (.cells (arr .zero) 41) = w5 at *
      generalize w4.heap.size = x0 at *
      have a1 := A1.out w5 B5.out
      go_upto_region 14 with (go_at_call 11; refine (ncPin w5 v p true N5.out).mono ?_; rintro e w6 ⟨rfl, hb6⟩)
      have B6 := Lib.hid (B5.out.trans (hb6.mono B5.out.size))
      have N6 := Lib.hid (N5.out.below hb6)
      have V6 := Lib.hid (V5.out.below hb6)
      clear hb6 a1 N5 B5 V5
      have a1 := A1.out w6 B6.out
      go_upto_region 15 with (go_at_call 12; refine (ncWriteback w6 v p N6.out).mono ?_; rintro e w7 ⟨rfl, hb7⟩)
      have B7 := Lib.hid (B6.out.trans (hb7.mono B6.out.size))
      have N7 := Lib.hid (N6.out.below hb7)
      have V7 := Lib.hid (V6.out.below hb7)
      clear hb7 a1 N6 B6 V6
      have a1 := A1.out w7 B7.out
      go_upto_region 16 with (go_at_call 13; refine (ncEvict w7 v p N7.out).mono ?_; rintro e w8 ⟨rfl, hb8⟩)
      have B8 := Lib.hid (B7.out.trans (hb8.mono B7.out.size))
      have N8 := Lib.hid (N7.out.below hb8)
      have V8 := Lib.hid (V7.out.below hb8)
      clear hb8 a1 N7 B7 V7
      have heq := fun W => equalIn_blk .zero .zero W
      have hgd := blk_guard
      simp only [decide_true] at heq
      have D0 := Lib.hid (fun (W : World) (hW : More w8 W) => ncDisk W v (N8.out.below hW))
      have D1 := Lib.hid (fun (W : World) (hW : More w8 W) => ncDirty W v (N8.out.below hW))
      have D2 := Lib.hid (fun (W : World) (hW : More w8 W) => ncClean W v (N8.out.below hW))
      have D3 := Lib.hid (fun (W : World) (hW : More w8 W) => ncWrite W v p .zero (N8.out.below hW))
      have D4 := Lib.hid (fun (W : World) (hW : More w8 W) => ncBack W v p (N8.out.below hW))
      have D5 := Lib.hid (fun (W : World) (hW : More w8 W) => ncDrop W v p (N8.out.below hW))
      have D6 := Lib.hid (fun (W : World) (hW : More w8 W) => ncSync W v (N8.out.below hW))
      refine wp_region_textN (More w8) (Below.refl _ _) ?_
      simp only [List.append_eq, List.cons_append, List.nil_append]
      repeat (first | go_big_quiet_skip | (go_big_quiet_want; first
        | (refine quiet_load _ rfl _ _ rfl .zero (by intro w' hw'; exact V8.out.below hw') ?_; simp only [Act.put, List.setIfInBounds_toArray, List.set_cons_zero, List.set_cons_succ]; go_big_quiet_on)
        | (refine quiet_zeroN rfl ?_; simp only [Act.put, List.setIfInBounds_toArray, List.set_cons_zero, List.set_cons_succ]; go_big_quiet_on)
        | (refine quiet_cell _ rfl _ (by rfl) p (by intro w' hw'; exact A1.out w' (B8.out.trans (Below.mono hw' B8.out.size))) ?_; simp only [Act.put, List.setIfInBounds_toArray, List.set_cons_zero, List.set_cons_succ]; go_big_quiet_on)
        | (go_big_quiet_op; first | go_big_quiet_on | (apply Exists.intro; refine ⟨fun _ _ => ?_, ?_⟩; (with_reducible exact rfl); go_big_quiet_on) | go_big_quiet_call ((intro hC; first | (with_reducible refine (D0.out _ hC).mono ?_); exact fun e w' h => ⟨h.1, hC.on h.2⟩ | (with_reducible refine (D1.out _ hC).mono ?_); exact fun e w' h => ⟨h.1, hC.on h.2⟩ | (with_reducible refine (D2.out _ hC).mono ?_); exact fun e w' h => ⟨h.1, hC.on h.2⟩ | (with_reducible refine (D3.out _ hC).mono ?_); exact fun e w' h => ⟨h.1, hC.on h.2⟩ | (with_reducible refine (D4.out _ hC).mono ?_); exact fun e w' h => ⟨h.1, hC.on h.2⟩ | (with_reducible refine (D5.out _ hC).mono ?_); exact fun e w' h => ⟨h.1, hC.on h.2⟩ | (with_reducible refine (D6.out _ hC).mono ?_); exact fun e w' h => ⟨h.1, hC.on h.2⟩)))))
      refine wpQuiet_nil ?_
      intro w15 hw15
      have B15 := Lib.hid (B8.out.trans (Below.mono hw15 B8.out.size))
      clear hw15
      go_wp2
      exact ⟨⟨k + 1, by omega, by go_num, B15⟩, by simp [intOf]; omega⟩
    · obtain rfl : k = 2 := by omega
      go_wp2_with (go_at_call 21; refine (awake_any wr).mono ?_; rintro e w4 ⟨rfl, hb4⟩)
      go_ret
      exact ⟨rfl, B2.out.trans ((B3.out.trans ((B.out.trans (hb4.mono B.out.size)).mono B3.out.size)).mono B2.out.size)⟩
end Go.Proofs.Ytkolpdllogpklaa
