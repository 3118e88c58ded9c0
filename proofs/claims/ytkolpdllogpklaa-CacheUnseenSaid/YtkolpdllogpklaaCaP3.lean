import Derived.Test.YtkolpdllogpklaaCaP2
import Derived.Test.YtkolpdllogpklaaClassTail
namespace Go.Proofs.Ytkolpdllogpklaa
open Go.RowKit Go.Maps

/-! The maps' operations, in a walk. -/
section
variable {ops : Array Oper} {rest : List Oper} {op : Oper} {a : Act} {w : World} {Q : Exit → Act → World → Prop} {g N : Nat} {mm : Int → Option Ent} {pp : Int → Bool} {b : Int}
theorem look_yes (hgd : op.guard = none) (m x : Operand) (ho : op.op = .lookup 35 m x true) (hm : a.eval m = .map (some g)) (hM : HMap w g N mm) (hb : I64 b) (hx : a.eval x = .int .i64 b) (X : Blk) (d : Bool) (hh : mm b = some (X, d))
    (h : wpList Try.prog ops Q rest (a.put op.dst (.tuple #[.agg (hcell X d), .bool true])) w) : wpList Try.prog ops Q (op :: rest) a w := by
  obtain ⟨D, hown, hr⟩ := hM
  refine wpList_lookup_own_ok w hgd m x 35 ho 3 75 int_law Try.underlying35 heldR (zero_held _) (.held (.agg (hcell .zero false))) [] (heldR_mk _ _) g N D hm hown _ _ hx (key_of hb) fun v ps hv => ?_
  rw [hr.at_ b _ hb hh] at hv
  obtain ⟨X', d', rfl, hy⟩ := heldR_inv hv
  unfold encH at hy
  injection hy with hy
  injection hy with hy
  rw [← hy, hr.has b hb, hh]
  exact h
theorem look_no (hgd : op.guard = none) (m x : Operand) (ho : op.op = .lookup 35 m x true) (hm : a.eval m = .map (some g)) (hM : HMap w g N mm) (hb : I64 b) (hx : a.eval x = .int .i64 b) (hh : mm b = none)
    (h : wpList Try.prog ops Q rest (a.put op.dst (.tuple #[.agg (hcell .zero false), .bool false])) w) : wpList Try.prog ops Q (op :: rest) a w := by
  obtain ⟨D, hown, hr⟩ := hM
  refine wpList_lookup_own_ok w hgd m x 35 ho 3 75 int_law Try.underlying35 heldR (zero_held _) (.held (.agg (hcell .zero false))) [] (heldR_mk _ _) g N D hm hown _ _ hx (key_of hb) fun v ps hv => ?_
  have hn : Maps.has D (.int .i64 b) = false := by rw [hr.has b hb, hh]; rfl
  rw [atKey_of_not_has hn] at hv
  obtain ⟨X', d', rfl, hy⟩ := heldR_inv hv
  injection hy with hy
  injection hy with hy
  rw [← hy, hn]
  exact h
/-- Without the comma-ok. -/
def entOr (e : Option Ent) : Ent := e.getD (.zero, false)
set_option maxRecDepth 100000 in
theorem look_one (hgd : op.guard = none) (m x : Operand) (ho : op.op = .lookup 35 m x false) (hm : a.eval m = .map (some g)) (hM : HMap w g N mm) (hb : I64 b) (hx : a.eval x = .int .i64 b) (X : Blk) (d : Bool) (hh : entOr (mm b) = (X, d))
    (h : wpList Try.prog ops Q rest (a.put op.dst (.agg (hcell X d))) w) : wpList Try.prog ops Q (op :: rest) a w := by
  obtain ⟨D, hown, hr⟩ := hM
  obtain ⟨v, ps, hrun, hv⟩ := hown.lookup int_law Try.underlying35 (zero_held w) (heldR_mk _ _) (key_of hb)
  have he : v = .agg (hcell X d) := by
    obtain ⟨X', d', rfl, hy⟩ := heldR_inv hv
    injection hy with hy
    cases hc : mm b with
    | none =>
      rw [hc] at hh
      have hn : Maps.has D (.int .i64 b) = false := by rw [hr.has b hb, hc]; rfl
      rw [atKey_of_not_has hn] at hy
      injection hy with hy
      rw [← hy]
      obtain ⟨h1, h2⟩ := Prod.mk.inj (show (Blk.zero, false) = (X, d) from hh)
      rw [← h1, ← h2]
    | some e =>
      rw [hc] at hh
      rw [hr.at_ b _ hb hc] at hy
      unfold encH at hy
      injection hy with hy
      rw [← hy]
      have : e = (X, d) := hh
      rw [this]
  subst he
  refine wpList_plain hgd fun K' hK' => ?_
  unfold Oper.wp
  simp [execOp, ho, hm, hx, hrun, Result.andThen]
  exact hK' _ _ h
theorem upd_held (hgd : op.guard = none) (m x v : Operand) (ho : op.op = .mapUpdate 35 m x v) (hm : a.eval m = .map (some g)) (hM : HMap w g N mm) (hN : N ≤ 2048) (h0 : 0 ≤ b) (h1 : b < N) (hx : a.eval x = .int .i64 b) (X : Blk) (d : Bool) (hv : a.eval v = .agg (hcell X d))
    (h : ∀ w', HMap w' g N (setM mm b (some (X, d))) → w.mapTurned w' g → wpList Try.prog ops Q rest (a.put op.dst undef) w') : wpList Try.prog ops Q (op :: rest) a w := by
  obtain ⟨D, hown, hr⟩ := hM
  have hb : I64 b := by unfold I64; omega
  exact wpList_mapUpdate_in w hgd m x v 35 ho 3 75 int_law Try.underlying35 heldR g N D hm hown (by unfold maxLen; omega) _ _ _ hx hv (key_of hb) _ [] (heldR_mk X d) fun w' ho' ht => h w' (HMap.of ho' (hr.put hb h0 h1 (X, d))) ht
theorem del_held (hgd : op.guard = none) (m x : Operand) (ho : op.op = .call { callee := .builtin .delete, args := #[m, x], argTypes := #[35, 3] }) (hm : a.eval m = .map (some g)) (hM : HMap w g N mm) (hb : I64 b) (hx : a.eval x = .int .i64 b)
    (h : ∀ w', HMap w' g N (setM mm b none) → w.mapTurned w' g → wpList Try.prog ops Q rest (a.put op.dst (.tuple #[])) w') : wpList Try.prog ops Q (op :: rest) a w := by
  obtain ⟨D, hown, hr⟩ := hM
  exact wpList_delete_own w hgd m x 35 3 ho 75 int_law Try.underlying35 heldR g N D hm hown _ _ hx (key_of hb) fun w' ho' ht => h w' (HMap.of ho' (hr.del b)) ht
theorem upd_pin (hgd : op.guard = none) (m x v : Operand) (ho : op.op = .mapUpdate 36 m x v) (hm : a.eval m = .map (some g)) (hM : PMap w g N pp) (hN : N ≤ 2048) (h0 : 0 ≤ b) (h1 : b < N) (hx : a.eval x = .int .i64 b) (hv : a.eval v = .agg #[])
    (h : ∀ w', PMap w' g N (setM pp b true) → w.mapTurned w' g → wpList Try.prog ops Q rest (a.put op.dst undef) w') : wpList Try.prog ops Q (op :: rest) a w := by
  obtain ⟨D, hown, hr⟩ := hM
  have hb : I64 b := by unfold I64; omega
  exact wpList_mapUpdate_in w hgd m x v 36 ho 3 77 int_law Try.underlying36 unitElem g N D hm hown (by unfold maxLen; omega) _ _ _ hx hv (key_of hb) _ [] unitElem_mk fun w' ho' ht => h w' (PMap.of ho' (by rw [pinO_set]; exact hr.put hb h0 h1 ())) ht
theorem del_pin (hgd : op.guard = none) (m x : Operand) (ho : op.op = .call { callee := .builtin .delete, args := #[m, x], argTypes := #[36, 3] }) (hm : a.eval m = .map (some g)) (hM : PMap w g N pp) (hb : I64 b) (hx : a.eval x = .int .i64 b)
    (h : ∀ w', PMap w' g N (setM pp b false) → w.mapTurned w' g → wpList Try.prog ops Q rest (a.put op.dst (.tuple #[])) w') : wpList Try.prog ops Q (op :: rest) a w := by
  obtain ⟨D, hown, hr⟩ := hM
  exact wpList_delete_own w hgd m x 36 3 ho 77 int_law Try.underlying36 unitElem g N D hm hown _ _ hx (key_of hb) fun w' ho' ht => h w' (PMap.of ho' (by rw [pinO_set]; exact hr.del b)) ht
end
theorem quiet_map {o : Oper} {a : Act} {C : World → Prop} {K : Act → Prop} (x : Operand) (ho : o.op = .load 35 x) (p : Addr) (hx : a.eval x = .pointer (some p)) (g : Nat) (hc : ∀ w, C w → w.cell? p = some (.map (some g)))
    (hk : K (a.put o.dst (.map (some g)))) : o.quiet Try.prog a C K := by
  refine ⟨_, fun w hw => ?_, hk⟩
  have h := hc w hw
  unfold Oper.quietAt execOp
  simp only [ho, hx]
  go_simp
  first | done | exact ⟨rfl, hw⟩ | exact hw
theorem quiet_disk {o : Oper} {a : Act} {C : World → Prop} {K : Act → Prop} (x : Operand) (ho : o.op = .load 27 x) (p : Addr) (hx : a.eval x = .pointer (some p)) (g : Addr) (hc : ∀ w, C w → w.cell? p = some (.pointer (some g)))
    (hk : K (a.put o.dst (.pointer (some g)))) : o.quiet Try.prog a C K := by
  refine ⟨_, fun w hw => ?_, hk⟩
  have h := hc w hw
  unfold Oper.quietAt execOp
  simp only [ho, hx]
  go_simp
  first | done | exact ⟨rfl, hw⟩ | exact hw

/-! Which one a number picks. -/
theorem pick_none (A : Option Addr) (cp : Nat) (k : Int) (w : World) : Calls Try.prog 35 #[.slice A 0 cp, .int .i64 k] w fun e w' => e = .returned (.tuple #[.int .i64 0, .bool false]) ∧ w' = w := by
  go_enter Try.func35, Try.ntmps35
  go_wp2
  refine bodyPost_ret (results_tmp2 Try.results35 _ _ _) rfl ⟨rfl, rfl⟩
theorem pick_some (A : Option Addr) (n cp : Nat) (l : List Int) (k : Int) (w : World) (hn : n = l.length) (hl : l ≠ []) (hc : n ≤ 1000000) (hA : IntsAt w A l) : Calls Try.prog 35 #[.slice A n cp, .int .i64 k] w fun e w' => e = .returned (.tuple #[.int .i64 (pickAt l k), .bool true]) ∧ w' = w := by
  have hp : 0 < l.length := List.length_pos_iff.2 hl
  obtain ⟨g, o, rfl, _, hcell⟩ := hA hp
  obtain ⟨q, hq⟩ : ∃ q : Nat, max k 0 = (q : Int) := ⟨(max k 0).toNat, by omega⟩
  have hlt : q % l.length < l.length := Nat.mod_lt _ hp
  have HP : Hid (pickAt l k = l.getD (q % l.length) 0) := Lib.hid (by unfold pickAt; rw [hq, Int.toNat_natCast])
  have c1 := hcell (q % l.length) (l.getD (q % l.length) 0) (by rw [List.getD_eq_getElem?_getD, List.getElem?_eq_getElem hlt]; rfl)
  rw [← hn] at hlt c1 HP hp
  have HN := Lib.hid hn
  generalize l.getD (q % n) 0 = v at c1 HP
  have t0 : decide ((n : Int) = 0) = false := decide_eq_false (by omega)
  have t1 : decide (n = 0) = false := decide_eq_false (by omega)
  have t2 : ((n : Int) == 0) = false := by simp; omega
  have j1 : (0 : Int) ≤ (q : Int) % (n : Int) := by omega
  have j2 : (q : Int) % (n : Int) < (n : Int) := by omega
  clear hcell hA hl hn
  go_enter Try.func35, Try.ntmps35
  go_wp2
  refine bodyPost_ret (results_tmp2 Try.results35 _ _ _) rfl ⟨by rw [HP.out]; rfl, rfl⟩
end Go.Proofs.Ytkolpdllogpklaa
