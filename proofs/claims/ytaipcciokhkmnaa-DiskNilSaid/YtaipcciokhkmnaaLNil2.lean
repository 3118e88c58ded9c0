import Derived.Test.YtaipcciokhkmnaaLNil
import Derived.Deep.RegionHeld3
namespace Go.Proofs.Ytaipcciokhkmnaa
open Go.RowKit

set_option maxRecDepth 100000 in
set_option maxHeartbeats 2000000 in
theorem diskNil_any (kind p f : Int) (K : Option Addr) (m c : Nat) (w : World) (hf : 0 ≤ f ∧ f < 4294967296) :
    Calls Try.prog 4 #[.agg #[.int .u8 kind, .int .i64 p, .int .u32 f, .slice K m c]] w fun e w' => e = .returned (.bool true) ∧ Below w.heap.size w w' := by
  have hz := fun W => zero_blk W
  obtain ⟨F, rfl⟩ := Int.eq_ofNat_of_zero_le hf.1
  have hF : F < 4294967296 := by omega
  clear hf
  go_enter Try.func4, Try.ntmps4
  go_wp2_with fail
  have B3 : Hid (Below w.heap.size w (((w.alloc (.cells #[.int .u8 kind, .int .i64 p, .int .u32 (F : Int), .slice K m c] 41)).alloc (.cells #[.slice none 0 0, .slice none 0 0, .slice none 0 0, .int .i64 0, .int .i64 0] 45)).alloc (.cells #[.pointer none, .pointer (some ⟨w.heap.size + 1, 0, none⟩)] 29))) := Lib.hid ((((Below.refl _ w).alloc (Nat.le_refl _) _).alloc (by simp) _).alloc (by simp; omega) _)
  have e1 : (w.alloc (.cells #[.int .u8 kind, .int .i64 p, .int .u32 (F : Int), .slice K m c] 41)).heap.size = w.heap.size + 1 := by simp
  have e2 : ((w.alloc (.cells #[.int .u8 kind, .int .i64 p, .int .u32 (F : Int), .slice K m c] 41)).alloc (.cells #[.slice none 0 0, .slice none 0 0, .slice none 0 0, .int .i64 0, .int .i64 0] 45)).heap.size = w.heap.size + 1 + 1 := by simp
  have h0 : Hid ((((w.alloc (.cells #[.int .u8 kind, .int .i64 p, .int .u32 (F : Int), .slice K m c] 41)).alloc (.cells #[.slice none 0 0, .slice none 0 0, .slice none 0 0, .int .i64 0, .int .i64 0] 45)).alloc (.cells #[.pointer none, .pointer (some ⟨w.heap.size + 1, 0, none⟩)] 29)).heap[w.heap.size]? = some (.cells #[.int .u8 kind, .int .i64 p, .int .u32 (F : Int), .slice K m c] 41 (0, 0))) := Lib.hid (by
    rw [heap_alloc_old _ _ (by omega), heap_alloc_old _ _ (by omega), heap_alloc_new])
  have h1 : Hid ((((w.alloc (.cells #[.int .u8 kind, .int .i64 p, .int .u32 (F : Int), .slice K m c] 41)).alloc (.cells #[.slice none 0 0, .slice none 0 0, .slice none 0 0, .int .i64 0, .int .i64 0] 45)).alloc (.cells #[.pointer none, .pointer (some ⟨w.heap.size + 1, 0, none⟩)] 29)).heap[w.heap.size + 1]? = some (.cells #[.slice none 0 0, .slice none 0 0, .slice none 0 0, .int .i64 0, .int .i64 0] 45 (0, 0))) := Lib.hid (by
    rw [heap_alloc_old _ _ (by omega), ← e1, heap_alloc_new])
  have h2 : Hid ((((w.alloc (.cells #[.int .u8 kind, .int .i64 p, .int .u32 (F : Int), .slice K m c] 41)).alloc (.cells #[.slice none 0 0, .slice none 0 0, .slice none 0 0, .int .i64 0, .int .i64 0] 45)).alloc (.cells #[.pointer none, .pointer (some ⟨w.heap.size + 1, 0, none⟩)] 29)).heap[w.heap.size + 1 + 1]? = some (.cells #[.pointer none, .pointer (some ⟨w.heap.size + 1, 0, none⟩)] 29 (0, 0))) := Lib.hid (by
    rw [← e2, heap_alloc_new])
  have hs : Hid ((((w.alloc (.cells #[.int .u8 kind, .int .i64 p, .int .u32 (F : Int), .slice K m c] 41)).alloc (.cells #[.slice none 0 0, .slice none 0 0, .slice none 0 0, .int .i64 0, .int .i64 0] 45)).alloc (.cells #[.pointer none, .pointer (some ⟨w.heap.size + 1, 0, none⟩)] 29)).heap.size = w.heap.size + 3) := Lib.hid (by simp)
  clear e1 e2
  generalize (((w.alloc (.cells #[.int .u8 kind, .int .i64 p, .int .u32 (F : Int), .slice K m c] 41)).alloc (.cells #[.slice none 0 0, .slice none 0 0, .slice none 0 0, .int .i64 0, .int .i64 0] 45)).alloc (.cells #[.pointer none, .pointer (some ⟨w.heap.size + 1, 0, none⟩)] 29)) = w3 at B3 h0 h1 h2 hs ⊢
  go_loopw [5] (fun i wr => ∃ k : Nat, k ≤ 2 ∧ i = .int .i64 k ∧ Hid (Below w3.heap.size w3 wr)) (fun i _ => 2 - (intOf i).toNat)
  case atStart => exact ⟨0, by omega, rfl, Lib.hid (Below.refl _ _)⟩
  case round =>
    obtain ⟨k, hk, rfl, B⟩ := hrel
    have j1 : (0 : Int) ≤ k := by omega
    by_cases hlt : k < 2
    · have j2 : (k : Int) < 2 := by omega
      obtain ⟨v, hv, hN⟩ : ∃ v, wr.cell? ⟨w.heap.size + 1 + 1, k, none⟩ = some v ∧ Nob wr v := by
        have hc := (B.out.block (w.heap.size + 1 + 1) (by rw [hs.out]; omega)).trans h2.out
        have hb := (B.out.block (w.heap.size + 1) (by rw [hs.out]; omega)).trans h1.out
        rcases (show k = 0 ∨ k = 1 by omega) with rfl | rfl
        · exact ⟨_, (cell_of_row _ _ 0 _ _ (0, 0) hc).trans (by rfl), .inl rfl⟩
        · exact ⟨_, (cell_of_row _ _ 1 _ _ (0, 0) hc).trans (by rfl), .inr ⟨_, rfl, hb⟩⟩
      have N0 := Lib.hid hN
      have hb0 := (B.out.block w.heap.size (by rw [hs.out]; omega)).trans h0.out
      have a1 := (cell_of_row wr w.heap.size 1 _ _ (0, 0) hb0).trans (by rfl : _ = some (Value.int .i64 p))
      have H0 := Lib.hid hb0
      clear hN hb0
      go_wp2_with fail
      refine (nRead_any wr v p N0.out).mono ?_
      rintro e w4 ⟨rfl, hb⟩
      have hb4 : Below w4.heap.size w4 (w4.alloc (.cells (arr .zero) 26)) := (Below.refl _ _).alloc (Nat.le_refl _) _
      have B5 := Lib.hid (B.out.trans ((hb.trans (hb4.mono hb.size)).mono B.out.size))
      have N5 := Lib.hid ((N0.out.below hb).below hb4)
      have X5 := Lib.hid (heap_alloc_new w4 (.cells (arr .zero) 26))
      clear hb hb4 a1
      go_wp2_with (refine store_row rfl (.tmp 7) (.tmp 30) rfl w4.heap.size .zero .zero 26 rfl rfl (heap_alloc_new w4 _) ?_; rw [World.setRow_alloc_new])
      have H5 := Lib.hid ((B5.out.block w.heap.size (by rw [hs.out]; omega)).trans h0.out)
      generalize w4.alloc (.cells (arr .zero) 26) = w5 at B5 N5 X5 H5 ⊢
      generalize w4.heap.size = x0 at X5 ⊢
      have a1 := (cell_of_row w5 w.heap.size 1 _ _ (0, 0) H5.out).trans (by rfl : _ = some (Value.int .i64 p))
      have a2 := (cell_of_row w5 w.heap.size 2 _ _ (0, 0) H5.out).trans (by rfl : _ = some (Value.int .u32 (F : Int)))
      have L0 : Hid (w.heap.size < w5.heap.size) := Lib.hid (World.block_lt_of_cell? _ _ a1)
      have LX : Hid (x0 < w5.heap.size) := Lib.hid (by
        rcases Nat.lt_or_ge x0 w5.heap.size with q | q
        · exact q
        · have := X5.out; rw [Array.getElem?_eq_none q] at this; cases this)
      clear H0 N0 B
      go_region_held3 (fun w' => w'.cell? ⟨w.heap.size, 1, none⟩ = some (.int .i64 p) ∧ w'.cell? ⟨w.heap.size, 2, none⟩ = some (.int .u32 (F : Int)))
        (first
          | go_keep
          | (go_split_ands; exact ⟨(hb.cell (World.block_lt_of_cell? _ _ (by assumption))).trans (by assumption), (hb.cell (World.block_lt_of_cell? _ _ (by assumption))).trans (by assumption)⟩)
          | (go_split_ands; exact ⟨(hb2.cell (World.block_lt_of_cell? _ _ (by assumption))).trans (by assumption), (hb2.cell (World.block_lt_of_cell? _ _ (by assumption))).trans (by assumption)⟩))
        (first
          | (go_at_call 10; refine (fill_any F _ hF).mono ?_; rintro e w6 ⟨rfl, hb⟩)
          | (go_at_call 18; refine (nWrite_any _ v p (fillB F) ((N5.out.below (Below.drew (Below.refl _ w5))).below hb)).mono ?_; rintro e w7 ⟨rfl, hb2⟩))
      have hB7 : Below w5.heap.size w5 w7 := (Below.drew (Below.refl _ w5)).trans ((show Below w5.heap.size w5.drew w6 from hb).trans (hb2.mono hb.size))
      have B7 := Lib.hid (B5.out.trans (hB7.mono B5.out.size))
      have N7 := Lib.hid (N5.out.below hB7)
      have X7 := Lib.hid ((hB7.block x0 LX.out).trans X5.out)
      have H7 := Lib.hid ((hB7.block w.heap.size L0.out).trans H5.out)
      clear hb hb2 hB7 B5 N5 X5 H5 L0 LX a1 a2
      go_wp2_with fail
      refine (nFlush_any w7 v N7.out).mono ?_
      rintro e w7 ⟨rfl, rfl⟩
      have a1 := (cell_of_row w7 w.heap.size 1 _ _ (0, 0) H7.out).trans (by rfl : _ = some (Value.int .i64 p))
      have a3 := (cell_of_row w7 w.heap.size 3 _ _ (0, 0) H7.out).trans (by rfl : _ = some (Value.slice K m c))
      go_wp2_with fail
      refine (nPower_any w7 v p N7.out).mono ?_
      rintro e w7 ⟨rfl, rfl⟩
      go_wp2_with fail
      refine (nCrash_any w7 v K m c N7.out).mono ?_
      rintro e w8 ⟨rfl, hb⟩
      have L7 : Hid (x0 < w7.heap.size) := Lib.hid (by
        rcases Nat.lt_or_ge x0 w7.heap.size with q | q
        · exact q
        · have := X7.out; rw [Array.getElem?_eq_none q] at this; cases this)
      have B8 := Lib.hid (B7.out.trans (hb.mono B7.out.size))
      have N8 := Lib.hid (N7.out.below hb)
      have X8 := Lib.hid (At.row ((hb.block x0 L7.out).trans X7.out))
      clear hb B7 N7 X7 H7 L7 a1 a3
      have heq := fun W => equalIn_blk .zero .zero W
      have hgd := blk_guard
      simp only [decide_true] at heq
      go_wp2_with (first
        | (refine load_blk rfl (.tmp 7) rfl x0 0 rfl .zero X8.out ?_)
        | (refine build_zero_w rfl rfl ?_)
        | (go_at_call 22; refine (nDead_any w8 v N8.out).mono ?_; rintro e w8 ⟨rfl, rfl⟩)
        | (go_at_call 23; refine (nBlocks_any w8 v N8.out).mono ?_; rintro e w8 ⟨rfl, rfl⟩)
        | (go_at_call 24; refine (nWaiting_any w8 v N8.out).mono ?_; rintro e w8 ⟨rfl, rfl⟩)
        | (go_at_call 25; refine (nActs_any w8 v N8.out).mono ?_; rintro e w8 ⟨rfl, rfl⟩)
        | (go_at_call 13; refine (nImage_any w8 v N8.out).mono ?_; rintro e w8 ⟨rfl, rfl⟩)
        | (go_at_call 14; refine (nSafe_any w8 v N8.out).mono ?_; rintro e w8 ⟨rfl, rfl⟩))
      go_roundw
      case rel => exact ⟨k + 1, by omega, by go_num, B8⟩
      case measure => simp [intOf]; omega
    · obtain rfl : k = 2 := by omega
      go_wp2_with fail
      refine (dAwake_any lSays wr).mono ?_
      rintro e w4 ⟨rfl, hb⟩
      have B4 := Lib.hid (B3.out.trans ((B.out.trans (hb.mono B.out.size)).mono B3.out.size))
      clear hb
      go_wp2_with fail
      go_ret
      exact ⟨rfl, B4.out⟩
end Go.Proofs.Ytaipcciokhkmnaa
