import Derived.Test.YtkolpdllogpklaaBlk
import Derived.Laws.CopyOwn
namespace Go.Proofs.Ytkolpdllogpklaa
open Go.RowKit
theorem b256 (x : Nat) : x % 256 < 256 := Nat.mod_lt _ (by omega)
def fillTo (x k : Nat) : Blk := .of (fun i => if i < k then x / 256 ^ i % 256 else 0) fun i _ => by split; exact b256 _; omega
def fillB (x : Nat) : Blk := (fillTo x 4).set 255 (x % 256) (b256 x)
theorem fillTo_zero (x : Nat) : fillTo x 0 = .zero := Blk.same fun i hi => by unfold fillTo; rw [Blk.of_f hi, if_neg (by omega)]; rfl
theorem fillTo_succ (x k : Nat) : (fillTo x k).set k (x / 256 ^ k % 256) (b256 _) = fillTo x (k + 1) := Blk.same fun i hi => by
  unfold fillTo Blk.set
  rw [Blk.of_f hi, Blk.of_f hi, Blk.of_f hi]
  by_cases e : i = k
  · subst e; rw [if_pos rfl, if_pos (by omega)]
  · rw [if_neg e]
    by_cases q : i < k
    · rw [if_pos q, if_pos (by omega)]
    · rw [if_neg q, if_neg (by omega)]
theorem fill_byte (x k : Nat) : ((x : Int) / 2 ^ (8 * k) % 256) = ((x / 256 ^ k % 256 : Nat) : Int) := by
  have e : (256 : Nat) ^ k = 2 ^ (8 * k) := by rw [Nat.pow_mul]
  rw [e]; simp
/-- A result variable of a call's own, and a variable beside it. -/
theorem results_blk {fn : Func} {p : Tmp} (h : fn.results = #[.cell p 41]) (tmps : Array Value) (w : World) (g : Nat) (X : Blk) (t : TypeId) (hp : tmps.getD p undef = .pointer (some ⟨g, 0, none⟩)) (hg : w.heap[g]? = some (.cells (arr X) t (0, 0))) :
    (results fn tmps).run Try.prog w = .ok (.agg (arr X)) w :=
  results_cell_row h tmps w g t (arr X) (0, 0) _ hp hg Try.underlying41 rfl (by rw [arr_size]; exact blk_size)
set_option maxRecDepth 100000 in
set_option maxHeartbeats 400000 in
theorem fill_any (x : Nat) (w : World) (_ : x < 4294967296) :
    Calls Try.prog 23 #[.int .u32 (x : Int)] w fun e w' => e = .returned (.agg (arr (fillB x))) ∧ Below w.heap.size w w' := by
  have hz := fun W => zero_blk W
  go_enter Try.func23, Try.ntmps23
  go_wp2
  go_loopw [4] (fun i wr => ∃ k : Nat, k ≤ 4 ∧ i = .int .i64 k ∧ wr = (w.alloc (.cells (arr .zero) 41)).alloc (.cells (arr (fillTo x k)) 41)) (fun i _ => 4 - (intOf i).toNat)
  case atStart => exact ⟨0, by omega, rfl, by rw [fillTo_zero]⟩
  case round =>
    obtain ⟨k, hk, rfl, rfl⟩ := hrel
    by_cases hlt : k < 4
    · have hg := arr_get (x := fillTo x k) (show k < 256 by omega)
      have hset : (arr (fillTo x k)).setIfInBounds k (.int .u8 ((x : Int) / 2 ^ (8 * k) % 256)) = arr (fillTo x (k + 1)) := by
        rw [fill_byte, arr_set k _ (b256 _), fillTo_succ]
      have j1 : (0 : Int) ≤ k := by omega
      have j2 : (k : Int) < 4 := by omega
      go_wp2
      go_roundw
      case rel => exact ⟨k + 1, by omega, by go_num, rfl⟩
      case measure => simp [intOf]; omega
    · obtain rfl : k = 4 := by omega
      have hg := arr_get (x := fillTo x 4) (show 255 < 256 by omega)
      have hset : (arr (fillTo x 4)).setIfInBounds 255 (.int .u8 ((x : Int) % 256)) = arr (fillB x) := by
        rw [show ((x : Int) % 256) = ((x % 256 : Nat) : Int) by simp, arr_set 255 _ (b256 x)]; rfl
      go_wp2_with (first
        | (refine load_blk rfl (.tmp 3) rfl (w.heap.size + 1) 0 rfl (fillB x) ?c1 ?_)
        | (refine store_row rfl (.tmp 2) (.tmp 20) rfl w.heap.size (fillB x) .zero 41 rfl rfl ?c2 ?_))
      case c1 => exact At.row (heap_alloc2_new w _ _)
      case c2 => exact heap_alloc2_old w _ _
      exact bodyPost_ret (v := .agg (arr (fillB x))) (results_blk Try.results23 _ _ w.heap.size (fillB x) _ rfl (setRow_heap _ _ _ _ _ _ (heap_alloc2_old w _ _))) rfl ⟨rfl, below_setRow (((Below.refl _ _).alloc (Nat.le_refl _) _).alloc (by simp) _) (Nat.le_refl _) _⟩
theorem fill_int (v : Int) (w : World) (k : Nat) (h : v = k) (h1 : k < 4294967296) :
    Calls Try.prog 23 #[.int .u32 v] w fun e w' => e = .returned (.agg (arr (fillB k))) ∧ Below w.heap.size w w' := by
  subst h
  exact fill_any k w h1
end Go.Proofs.Ytkolpdllogpklaa
