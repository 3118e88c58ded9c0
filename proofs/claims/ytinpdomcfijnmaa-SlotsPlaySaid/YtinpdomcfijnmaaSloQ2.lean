import Derived.Test.YtinpdomcfijnmaaSloQ1
import Derived.Test.YtinpdomcfijnmaaNums4
import Derived.Test.YtinpdomcfijnmaaSloS
import Derived.Laws.Tables
import Derived.Deep.OwnRows
namespace Go.Proofs.Ytinpdomcfijnmaa
open Go.RowKit

/-! The document's own Bytes. -/
abbrev row32 : Array Value := Array.replicate 32 (.int .u8 0)
theorem u8_info : (Try.prog.info? 5).map (fun i => (i.zero, i.size, i.bytes)) = some (some (.int .u8 0), 1, 1) := by kernel_rfl
theorem make32 (W : World) : (Instr.makeSlice 58 (.int .i64 32) (.int .i64 32)).run Try.prog W = .ok (.slice (some ⟨W.heap.size, 0, none⟩) 32 32) (W.alloc (.cells row32 5)) := by
  have h := run_make_row' (P := Try.prog) 58 5 (.int .u8 0) 1 Try.underlying58 u8_info rfl .i64 .i64 32 (by omega) (by omega) W
  rw [show madeCells #[.int .u8 0] 32 = row32 by kernel_rfl] at h
  exact h
theorem own32 (W : World) : Own (W.alloc (.cells row32 5)) W.heap.size (some ⟨W.heap.size, 0, none⟩) 32 (fun _ => 0) := by
  refine ⟨fun _ => Nat.zero_lt_succ _, fun _ => ⟨W.heap.size, 0, rfl, Nat.le_refl _, _, _, heap_alloc_new W _, fun i hi => ?_⟩⟩
  rw [Nat.zero_add]
  unfold row32
  simp [hi]
/-- The bytes when k bytes of the name are written. -/
def fK (x : SlotV) (k j : Nat) : Nat := if j < 5 + k then slotB x j else 0
theorem fK_lt (x : SlotV) (k j : Nat) : fK x k j < 256 := by
  unfold fK; split
  · exact slotB_lt _ _
  · omega
theorem fK_zero {x : SlotV} (h0 : x.ino ≠ 0) (h : x.name.size ≤ 27) : upd (p32 (fun _ => 0) 0 x.ino) 4 x.name.size = fK x 0 := by
  funext j
  unfold upd fK slotB
  rw [if_neg h0]
  by_cases e : j = 4
  · subst e; rw [if_pos rfl, if_pos (by omega), if_neg (by omega), if_pos rfl]; omega
  · rw [if_neg e]
    by_cases q : j < 4
    · rw [if_pos (by omega), if_pos q]
    · rw [if_neg (by omega), p32_off _ _ _ _ (by omega)]
theorem fK_succ {x : SlotV} (h0 : x.ino ≠ 0) (k : Nat) : upd (fK x k) (5 + k) (nb x.name k) = fK x (k + 1) := by
  funext j
  unfold upd fK
  by_cases e : j = 5 + k
  · subst e
    rw [if_pos rfl, if_pos (by omega)]
    unfold slotB
    rw [if_neg h0, if_neg (by omega), if_neg (by omega), show 5 + k - 5 = k by omega]
  · rw [if_neg e]
    by_cases q : j < 5 + k
    · rw [if_pos q, if_pos (by omega)]
    · rw [if_neg q, if_neg (by omega)]
theorem fK_end {x : SlotV} (h0 : x.ino ≠ 0) : fK x x.name.size = slotB x := by
  funext j
  unfold fK
  split
  · rfl
  · unfold slotB
    rw [if_neg h0, if_neg (by omega), if_neg (by omega), nb_past (by omega)]
/-- What Bytes keeps in memory. -/
structure BY (w0 : World) (x : SlotV) (f : Nat → Nat) (w : World) : Prop where
  x : SVar w w0.heap.size x
  own : Own w (w0.heap.size + 1) (some ⟨w0.heap.size + 1, 0, none⟩) 32 f
  low : Below w0.heap.size w0 w
theorem BY.only {w0 w w' : World} {x : SlotV} {f g : Nat → Nat} (h : BY w0 x f w) (ho : Only (w0.heap.size + 1) w w') (hg : Own w' (w0.heap.size + 1) (some ⟨w0.heap.size + 1, 0, none⟩) 32 g) : BY w0 x g w' :=
  ⟨h.x.only ho (by omega), hg, low_only h.low ho (by omega)⟩
theorem BY.set {w0 w : World} {x : SlotV} {f : Nat → Nat} (h : BY w0 x f w) {i v : Nat} (hi : i < 32) (hv : v < 256) : BY w0 x (upd f i v) (w.setCell ⟨w0.heap.size + 1, i, none⟩ (.int .u8 ((v : Nat) : Int))) :=
  h.only (Only.set w _ i _) (own_set h.own hi hv)
set_option maxRecDepth 100000 in
set_option maxHeartbeats 4000000 in
theorem rBytes (x : SlotV) (w : World) (hx : x.ino < 4294967296) (hn : x.name.size ≤ 27) :
    Calls Try.prog 26 #[.agg (sls x)] w fun e w' => e = .returned (.slice (some ⟨w.heap.size + 1, 0, none⟩) 32 32) ∧ BY w x (slotB x) w' := by
  have hm := fun W => make32 W
  go_enter Try.func26, Try.ntmps26
  go_upto_region 2 with fail
  have P : Hid (BY w x (fun _ => 0) ((w.alloc (.cells (sls x) 33)).alloc (.cells row32 5))) := Lib.hid (by
    have a1 := below_new w (.cells (sls x) 33)
    have a2 := below_new (w.alloc (.cells (sls x) 33)) (.cells row32 5)
    have a3 := own32 (w.alloc (.cells (sls x) 33))
    rw [World.size_alloc] at a3
    exact ⟨SVar.below (heap_alloc_new w _) a2, a3, low_go a1 a2⟩)
  generalize (w.alloc (.cells (sls x) 33)).alloc (.cells row32 5) = w1 at P ⊢
  clear hm
  have c0 := P.out.x.ino
  have c1 := P.out.x.name
  by_cases h0 : x.ino = 0
  · have e : slotB x = fun _ => 0 := funext fun k => if_pos h0
    rw [h0] at c0
    have E := Lib.hid e
    clear e
    go_wp2_with fail
    go_ret
    exact ⟨rfl, by rw [E.out]; exact P.out⟩
  have t0 : (((x.ino : Nat) : Int) == 0) = false := by rw [beq_eq_false_iff_ne]; omega
  have H0 := Lib.hid h0
  clear h0
  have CP := Lib.hid (rPut32_yes (some ⟨w.heap.size + 1, 0, none⟩) 32 32 32 (w.heap.size + 1) 0 ((x.ino : Nat) : Int) (fun _ => 0) w1 (by omega) (Nat.le_refl _) P.out.own (by omega) (by omega) (by omega) (by omega))
  rw [Int.toNat_natCast] at CP
  go_upto_region 5 with (go_at_call 33; with_reducible refine CP.out.mono ?_; rintro e w2 ⟨rfl, ho, hb⟩)
  have P2 : Hid (BY w x (p32 (fun _ => 0) 0 x.ino) w2) := Lib.hid (P.out.only (hb _ _ rfl) ho)
  clear ho hb CP P c0 c1 t0
  have c0 := P2.out.x.name
  obtain ⟨d4, z4⟩ := own_cell P2.out.own (i := 4) (by omega)
  have k27 : x.name.size < 28 := by omega
  have wn : IntKind.u8.wrap ((x.name.size : Nat) : Int) = ((x.name.size : Nat) : Int) := by rw [IntKind.wrap_u8]; omega
  have P3' := Lib.hid (P2.out.set (i := 4) (v := x.name.size) (by omega) (by omega))
  rw [fK_zero H0.out hn] at P3'
  go_upto_region 6 with fail
  have P3 : Hid (BY w x (fK x 0) (w2.setCell ⟨w.heap.size + 1, 4, none⟩ (.int .u8 ((x.name.size : Nat) : Int)))) := P3'
  clear P3' P2 c0 d4 z4 wn
  generalize w2.setCell ⟨w.heap.size + 1, 4, none⟩ (.int .u8 ((x.name.size : Nat) : Int)) = w3 at P3 ⊢
  go_wp2_with fail
  go_loopw [4] (fun i wr => ∃ k : Nat, k ≤ x.name.size ∧ i = .int .i64 k ∧ BY w x (fK x k) wr) (fun i _ => x.name.size - (intOf i).toNat)
  case atStart => exact ⟨0, Nat.zero_le _, rfl, P3.out⟩
  case round =>
    obtain ⟨k, hk, rfl, hby⟩ := hrel
    have P4 := Lib.hid hby
    clear hby P3
    have c0 := P4.out.x.name
    by_cases hlt : k < x.name.size
    · obtain ⟨d4, z4⟩ := own_cell P4.out.own (i := 5 + k) (by omega)
      have P5 := Lib.hid (P4.out.set (i := 5 + k) (v := nb x.name k) (by omega) (nb_lt _ _))
      rw [fK_succ H0.out] at P5
      have g0 : (0 : Int) ≤ (k : Int) := by omega
      have g1 : (k : Int) < (x.name.size : Int) := by omega
      have g2 := nb_index hlt
      have g3 := ByteArray.getElem?_lt' x.name k hlt
      go_wp2_with fail
      go_roundw
      case rel => exact ⟨k + 1, by omega, by congr 1, P5.out⟩
      case measure => simp [intOf]; omega
    · have g1 : ¬ (k : Int) < (x.name.size : Int) := by omega
      have e : fK x k = slotB x := by rw [← fK_end H0.out, show x.name.size = k by omega]
      go_wp2_with fail
      go_ret
      exact ⟨rfl, by rw [← e]; exact P4.out⟩
end Go.Proofs.Ytinpdomcfijnmaa
