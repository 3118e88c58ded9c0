import Derived.Test.YtamghbmeedbbgaaStores
import Derived.Test.YtamghbmeedbbgaaRows
import Derived.WalkKit
namespace Go.Proofs.Ytamghbmeedbbgaa
open Go.RowKit

/-! What single operations do. -/
section
variable {o : Oper} {a : Act} {w : World}
theorem ex_fpart {x : Operand} {i b : Nat} (ho : o.op = .fieldAddr 39 x i) (hi : i < 5) (hx : a.eval x = .pointer (some ⟨b, 0, none⟩)) : (execOp a.eval o).run Try.prog w = .ok (.value (.pointer (some ⟨b, i, none⟩))) w := by
  generalize a.eval = ev at hx ⊢
  have h : i = 0 ∨ i = 1 ∨ i = 2 ∨ i = 3 ∨ i = 4 := by omega
  unfold execOp
  rcases h with rfl | rfl | rfl | rfl | rfl <;> simp only [ho, hx] <;> go_simp
theorem ex_load_int {x : Operand} {p : Addr} {n : Int} (ho : o.op = .load 3 x) (hx : a.eval x = .pointer (some p)) (hc : w.cell? p = some (.int .i64 n)) : (execOp a.eval o).run Try.prog w = .ok (.value (.int .i64 n)) w := by
  generalize a.eval = ev at hx ⊢
  unfold execOp
  simp only [ho, hx]
  go_simp
theorem ex_load_u8 {x : Operand} {p : Addr} {n : Int} (ho : o.op = .load 5 x) (hx : a.eval x = .pointer (some p)) (hc : w.cell? p = some (.int .u8 n)) : (execOp a.eval o).run Try.prog w = .ok (.value (.int .u8 n)) w := by
  generalize a.eval = ev at hx ⊢
  unfold execOp
  simp only [ho, hx]
  go_simp
theorem ex_add {x y : Operand} {n m : Int} (ho : o.op = .binOp .add 3 x y 3) (hx : a.eval x = .int .i64 n) (hy : a.eval y = .int .i64 m) (h : -9223372036854775808 ≤ n + m ∧ n + m ≤ 9223372036854775807) : (execOp a.eval o).run Try.prog w = .ok (.value (.int .i64 (n + m))) w := by
  generalize a.eval = ev at hx hy ⊢
  have hw : IntKind.i64.wrap (n + m) = n + m := by rw [IntKind.wrap_i64]; omega
  unfold execOp
  simp only [ho, hx, hy]
  go_simp
theorem ex_sub {x y : Operand} {n m : Int} (ho : o.op = .binOp .sub 3 x y 3) (hx : a.eval x = .int .i64 n) (hy : a.eval y = .int .i64 m) (h : -9223372036854775808 ≤ n - m ∧ n - m ≤ 9223372036854775807) : (execOp a.eval o).run Try.prog w = .ok (.value (.int .i64 (n - m))) w := by
  generalize a.eval = ev at hx hy ⊢
  have hw : IntKind.i64.wrap (n - m) = n - m := by rw [IntKind.wrap_i64]; omega
  unfold execOp
  simp only [ho, hx, hy]
  go_simp
theorem ex_store_int {x y : Operand} {p : Addr} {n k : Int} (ho : o.op = .store 3 x y) (hx : a.eval x = .pointer (some p)) (hy : a.eval y = .int .i64 n) (hc : w.cell? p = some (.int .i64 k)) (hf : w.frozen? p = false) : (execOp a.eval o).run Try.prog w = .ok .skip (w.setCell p (.int .i64 n)) := by
  generalize a.eval = ev at hx hy ⊢
  unfold execOp
  simp only [ho, hx, hy]
  go_simp
theorem ex_store_u8 {x y : Operand} {p : Addr} {n k : Int} (ho : o.op = .store 5 x y) (hx : a.eval x = .pointer (some p)) (hy : a.eval y = .int .u8 n) (hc : w.cell? p = some (.int .u8 k)) (hf : w.frozen? p = false) : (execOp a.eval o).run Try.prog w = .ok .skip (w.setCell p (.int .u8 n)) := by
  generalize a.eval = ev at hx hy ⊢
  unfold execOp
  simp only [ho, hx, hy]
  go_simp
end
end Go.Proofs.Ytamghbmeedbbgaa
