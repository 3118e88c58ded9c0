import Derived.Test.YtinpdomcfijnmaaSloQ5
import Derived.Test.YtinpdomcfijnmaaFillR
namespace Go.Proofs.Ytinpdomcfijnmaa
open Go.RowKit

/-! The document's own Put (of a slot). -/
/-- The block when k bytes of the slot are written. -/
def partS (X : Blk) (i : Nat) (x : SlotV) (k : Nat) : Blk := .of (fun j => if 32 * i ≤ j ∧ j < 32 * i + k then slotB x (j - 32 * i) else X.f j) fun j _ => by
  split
  · exact slotB_lt _ _
  · exact X.lt _
theorem partS_0 (X : Blk) (i : Nat) (x : SlotV) : partS X i x 0 = X := Blk.same fun j hj => by
  unfold partS
  rw [Blk.of_f hj, if_neg (by omega)]
theorem partS_32 (X : Blk) (i : Nat) (x : SlotV) : partS X i x 32 = setS X i x := by unfold partS setS; rfl
theorem partS_succ (X : Blk) (i : Nat) (x : SlotV) (k : Nat) : (partS X i x k).set (32 * i + k) (slotB x k) (slotB_lt x k) = partS X i x (k + 1) := Blk.same fun j hj => by
  unfold Blk.set partS
  simp only [Blk.of_f hj]
  by_cases e : j = 32 * i + k
  · subst e
    rw [if_pos rfl, if_pos (by omega), show 32 * i + k - 32 * i = k by omega]
  · rw [if_neg e]
    by_cases q : 32 * i ≤ j ∧ j < 32 * i + k
    · rw [if_pos q, if_pos (by omega)]
    · rw [if_neg q, if_neg (by omega)]
theorem blk_set {w : World} {b : Nat} {X : Blk} (h : BVar w b X) (k v : Nat) (hv : v < 256) : BVar (w.setCell ⟨b, k, none⟩ (.int .u8 ((v : Nat) : Int))) b (X.set k v hv) := by
  unfold BVar at *
  rw [heap_setCell_same w b k _ _ _ h, arr_set]
theorem set_heap (w : World) (b : Nat) (X Y : Blk) (h : BVar w b Y) : (w.setRow b (arr X)).heap[b]? = some (.cells (arr X) 23 (0, 0)) := by
  unfold BVar at h
  unfold World.setRow
  simp [Array.getElem?_modify, h]
/-- What Put keeps in memory. -/
structure PT (w0 : World) (Y : Blk) (x : SlotV) (bb : Nat) (w : World) : Prop where
  blk : BVar w w0.heap.size Y
  res : BVar w (w0.heap.size + 1 + 1) .zero
  row : Own w (w0.heap.size + 1) (some ⟨bb, 0, none⟩) 32 (slotB x)
  low : Below w0.heap.size w0 w
theorem PT.set {w0 w : World} {Y : Blk} {x : SlotV} {bb : Nat} (h : PT w0 Y x bb w) {k v : Nat} (hv : v < 256) : PT w0 (Y.set k v hv) x bb (w.setCell ⟨w0.heap.size, k, none⟩ (.int .u8 ((v : Nat) : Int))) := by
  have ho := Only.set w w0.heap.size k (.int .u8 ((v : Nat) : Int))
  refine ⟨blk_set h.blk k v hv, ho.blk (by omega) h.res, h.row.keep fun g o e => ?_, low_only h.low ho (Nat.le_refl _)⟩
  obtain ⟨g', o', e', hb, hc⟩ := h.row.2 (by omega)
  rw [e] at e'
  injection e' with e'
  injection e' with e1 _ _
  subst e1
  exact ho.block g hc.lt (fun q => by injection q with q; omega)
set_option maxRecDepth 100000 in
set_option maxHeartbeats 4000000 in
theorem rPut (X : Blk) (i : Nat) (x : SlotV) (w : World) (hi : i < 8) (hx : SOk x) : Calls Try.prog 32 #[.agg (arr X), .int .i64 (i : Int), .agg (sls x)] w fun e w' => e = .returned (.agg (arr (setS X i x))) ∧ Below w.heap.size w w' := by
  have hz := fun W => zero_blk W
  obtain ⟨w1, e1⟩ : ∃ w1, ((w.alloc (.cells (arr X) 23)).alloc (.cells (sls x) 33)).alloc (.cells (arr .zero) 23) = w1 := ⟨_, rfl⟩
  have q0 : BVar (w.alloc (.cells (arr X) 23)) w.heap.size X := heap_alloc_new w _
  have q1 : SVar ((w.alloc (.cells (arr X) 23)).alloc (.cells (sls x) 33)) (w.heap.size + 1) x := heap_alloc2_new w _ _
  have q2 : BVar w1 (w.heap.size + 1 + 1) .zero := by
    rw [← e1]
    have := heap_alloc2_new (w.alloc (.cells (arr X) 23)) (.cells (sls x) 33) (.cells (arr .zero) 23)
    rwa [World.size_alloc] at this
  have V1 : Hid (BVar w1 w.heap.size X) := Lib.hid (by rw [← e1]; exact (q0.below (below_new _ _)).below (below_new _ _))
  have S1 : Hid (SVar w1 (w.heap.size + 1) x) := Lib.hid (by rw [← e1]; exact q1.below (below_new _ _))
  have R1 := Lib.hid q2
  have B1 : Hid (Below w.heap.size w w1) := Lib.hid (by rw [← e1]; exact low_go (low_go (below_new w _) (below_new _ _)) (below_new _ _))
  have CB := Lib.hid fun W => rBytes x W hx.lt hx.size
  clear q0 q1 q2 hx
  go_enter Try.func32, Try.ntmps32
  go_upto_region 1 with fail
  clear e1
  go_upto_region 2 with (first
    | (refine load_slot rfl (.tmp 5) rfl (w.heap.size + 1) 0 rfl x S1.out.at ?_)
    | (go_at_call 26; with_reducible refine (CB.out _).mono ?_; rintro e w2 ⟨rfl, hby⟩))
  have P2 : Hid (PT w (partS X i x 0) x (w1.heap.size + 1) w2) := Lib.hid ⟨by rw [partS_0]; exact V1.out.below hby.low, R1.out.below hby.low, ⟨hby.own.1, fun h0 => by
    obtain ⟨g, o, e, hb, hc⟩ := hby.own.2 h0
    exact ⟨g, o, e, by have := B1.out.size; omega, hc⟩⟩, low_go B1.out hby.low⟩
  clear hby V1 S1 R1 B1 CB
  generalize w1.heap.size + 1 = bb at P2 ⊢
  go_wp2_with fail
  go_loopw [8] (fun kv wr => ∃ k : Nat, k ≤ 32 ∧ kv = .int .i64 k ∧ PT w (partS X i x k) x bb wr) (fun kv _ => 32 - (intOf kv).toNat)
  case atStart => exact ⟨0, Nat.zero_le _, rfl, P2.out⟩
  case round =>
    obtain ⟨k, hk, rfl, hpt⟩ := hrel
    have P3 := Lib.hid hpt
    clear hpt P2
    by_cases hlt : k < 32
    · have d0 := (own_cell P3.out.row hlt).1
      have d1 := P3.out.blk.at.cell (i := 32 * i + k) (by omega)
      rw [Nat.zero_add] at d1
      have z1 : wr.frozen? ⟨w.heap.size, 32 * i + k, none⟩ = false := by have := P3.out.blk; unfold BVar at this; simp [World.frozen?, this]
      have P4 := Lib.hid (P3.out.set (k := 32 * i + k) (slotB_lt x k))
      rw [partS_succ X i x k] at P4
      have w32 : IntKind.i64.wrap (32 * (i : Int)) = 32 * (i : Int) := by rw [IntKind.wrap_i64]; omega
      have w33 : IntKind.i64.wrap (32 * (i : Int) + (k : Int)) = 32 * (i : Int) + (k : Int) := by rw [IntKind.wrap_i64]; omega
      have x33 : (32 * (i : Int) + (k : Int)).toNat = 32 * i + k := by omega
      have g0 : (0 : Int) ≤ 32 * (i : Int) + (k : Int) := by omega
      have g1 : 32 * (i : Int) + (k : Int) < 256 := by omega
      go_wp2_with fail
      go_roundw
      case rel => exact ⟨k + 1, by omega, by congr 1, P4.out⟩
      case measure => simp [intOf]; omega
    · obtain rfl : k = 32 := by omega
      rw [partS_32] at P3
      go_wp2_with (first
        | (refine load_blk rfl (.tmp 3) rfl w.heap.size 0 rfl (setS X i x) P3.out.blk.at ?_)
        | (refine store_row rfl (.tmp 6) (.tmp 24) rfl (w.heap.size + 1 + 1) (setS X i x) .zero 23 rfl rfl P3.out.res ?_))
      exact bodyPost_ret (results_blk Try.results32 _ _ (w.heap.size + 1 + 1) (setS X i x) _ rfl (set_heap _ _ _ _ P3.out.res)) rfl ⟨rfl, below_setRow P3.out.low (by omega) _⟩
end Go.Proofs.Ytinpdomcfijnmaa
