import Derived.Test.YtoopoemkickpkaaDoorCrcSums2
import Derived.Deep.AppendLies
namespace Go.Proofs.YtoopoemkickpkaaDoor
open Go.RowKit CrcM

set_option maxHeartbeats 400000 in
theorem same_all (A B : Option Addr) (n c d : Nat) (f g : Nat → Nat) (w : World) (hn : n ≤ 140737488355328) (hR : Row w A n f) (hS : Row w B n g) (hz : ∀ i, i < n → f i = g i) :
    Calls Tryd.prog 14 #[.slice A n c, .slice B n d] w fun e w' => e = .returned (.bool true) ∧ ∃ d, w' = w.drewN d := by
  have H := Lib.hid hR
  have K := Lib.hid hS
  have Z := Lib.hid hz
  clear hR hS hz
  go_enter Tryd.func14, Tryd.ntmps14
  go_wp2
  go_loopw [5] (fun i wr => (∃ k : Nat, k ≤ n ∧ i = .int .i64 k) ∧ ∃ d, wr = w.drewN d) (fun i _ => n - (intOf i).toNat)
  case atStart => exact ⟨⟨0, Nat.zero_le _, rfl⟩, 0, rfl⟩
  case round =>
    obtain ⟨⟨k, hk, rfl⟩, dd, rfl⟩ := hrel
    by_cases hlt : k < n
    · obtain ⟨b, o, rfl, _, hc⟩ := H.out.2 (by omega)
      obtain ⟨b', o', rfl, _, hc'⟩ := K.out.2 (by omega)
      have ck := hc k hlt
      have ck' := hc' k hlt
      rw [Z.out k hlt] at ck
      have l1 : (0 : Int) ≤ k := by omega
      have l2 : (k : Int) < n := by omega
      clear hc hc'
      go_wp2
      go_quiet (fail)
      go_wp2
      go_roundw
      case rel => exact ⟨⟨k + 1, by omega, by go_num⟩, _, rfl⟩
      case measure => simp [intOf]; omega
    · go_wp2
      go_ret
      exact ⟨rfl, _, rfl⟩
theorem same_all_at (A B : Option Addr) (n c d : Nat) (f g : Nat → Nat) (w : World) (k : Nat) (hn : n ≤ 140737488355328) (hR : Row w A n f) (hS : Row w B n g) (hz : ∀ i, i < n → f i = g i) :
    Calls Tryd.prog 14 #[.slice A n c, .slice B n d] (w.drewN k) fun e w' => e = .returned (.bool true) ∧ ∃ d, w' = w.drewN d :=
  (same_all A B n c d f g (w.drewN k) hn hR hS hz).mono fun _ _ ⟨he, m, hm⟩ => ⟨he, k + m, by rw [hm, World.drewN_drewN]⟩

/-- A row that is not the block that was appended to stays. -/
theorem Row.far {w w' : World} {row : Option Nat} {A : Option Addr} {n : Nat} {f : Nat → Nat} (h : Row w A n f) (hg : w.grownBy w' row) (hne : 0 < n → ∀ b o, A = some ⟨b, o, none⟩ → row ≠ some b) : Row w' A n f :=
  ⟨h.1, fun hn => by
    obtain ⟨b, o, e, hlt, hc⟩ := h.2 hn
    exact ⟨b, o, e, Nat.lt_of_lt_of_le hlt hg.size, fun i hi => hg.cell (hc i hi) (fun q => hne hn b o e q.symm)⟩⟩
theorem below_grown {w w' : World} (h : Below w.heap.size w w') (row : Option Nat) : w.grownBy w' row := ⟨h.os, h.tape, h.output, h.size, fun k hk _ => h.block k hk⟩

/-- The copies that were made so far. -/
def Mine (W : World) (v : Value) (ps : Pieces) (k : Nat) (vs : List Value) : Prop :=
  ∀ j, j < k → ∃ p Aj cj, ps[j]? = some p ∧ vs[j]? = some (.slice Aj p.1 cj) ∧ Row W Aj p.1 p.2 ∧ (0 < p.1 → ∀ b o, Aj = some ⟨b, o, none⟩ → v.ownBlock ≠ some b ∧ b < W.heap.size)
theorem Mine.step {wr w2 w3 : World} {v v3 : Value} {ps : Pieces} {k : Nat} {vs : List Value} {A' : Option Addr} {c' : Nat} {p : Nat × (Nat → Nat)} (hM : Mine wr v ps k vs) (hvl : vs.length = k) (hv : ∀ b, v.ownBlock = some b → b < wr.heap.size) (hp : ps[k]? = some p)
    (hB : Below wr.heap.size wr w2) (hO : Own w2 wr.heap.size A' p.1 p.2) {o : Obj} (hg : (w2.alloc o).grownBy w3 v.ownBlock) (hat : v3.ownBlock = v.ownBlock ∨ v3.ownBlock = some (w2.heap.size + 1)) : Mine w3 v3 ps (k + 1) (vs ++ [.slice A' p.1 c']) := by
  intro j hj
  rcases Nat.lt_or_ge j k with h | h
  · obtain ⟨q, Aj, cj, h1, h2, h3, h4⟩ := hM j h
    refine ⟨q, Aj, cj, h1, by rw [List.getElem?_append_left (by omega)]; exact h2, ?_, fun hn b o' e => ?_⟩
    · exact Row.far (h3.below (hB.alloc hB.size o)) hg fun hn b o' e => (h4 hn b o' e).1
    · have hb := h4 hn b o' e
      have hs := hB.size
      refine ⟨?_, by have := hg.size; simp at this; omega⟩
      rcases hat with e3 | e3
      · rw [e3]; exact hb.1
      · rw [e3]; intro q; injection q with q; omega
  · obtain rfl : j = k := by omega
    refine ⟨p, A', c', hp, by rw [List.getElem?_append_right (by omega)]; simp [hvl], ?_, fun hn b o' e => ?_⟩
    · refine Row.far ((hO.row (Nat.le_refl _)).below ((Below.refl _ _).alloc (Nat.le_refl _) o)) hg fun hn b o' e => ?_
      obtain ⟨g, o1, e1, hge, _⟩ := hO.2 hn
      rw [e1] at e
      injection e with e
      injection e with e
      subst e
      intro q
      have := hv _ q
      omega
    · obtain ⟨g, o1, e1, hge, hcl⟩ := hO.2 hn
      have hl := hcl.lt
      rw [e1] at e
      injection e with e
      injection e with e
      subst e
      refine ⟨?_, by have := hg.size; simp at this; omega⟩
      rcases hat with e3 | e3
      · rw [e3]; intro q; have := hv _ q; omega
      · rw [e3]; intro q; injection q with q; omega
theorem own_list {w : World} {base : Nat} {e : TypeId} {v : Value} {n : Nat} {vs : List Value} (h : w.ownsRow base e 1 v n vs) : ∃ A c, v = .slice A n c ∧ (0 < n → ∃ g, A = some ⟨g, 0, none⟩ ∧ base ≤ g ∧ g < w.heap.size ∧ ∀ i u, vs[i]? = some u → w.cell? ⟨g, 0 + i, none⟩ = some u) := by
  rcases h.2 with ⟨rfl, rfl⟩ | ⟨g, cap, cur, rfl, hb, hh, hnc, hm, hs, ht⟩
  · exact ⟨none, 0, rfl, fun h => absurd h (by omega)⟩
  · have hlt := h.lt g rfl
    refine ⟨_, _, rfl, fun _ => ⟨g, rfl, hb, hlt.2, fun i u hu => ?_⟩⟩
    have := h.cells (g := g) rfl i u hu
    have e : (⟨g, 0, none⟩ : Addr).add i = ⟨g, 0 + i, none⟩ := by unfold Addr.add; split <;> simp_all
    rw [e] at this
    exact this
theorem mine_lst {w : World} {base : Nat} {e : TypeId} {A : Option Addr} {n c : Nat} {ps : Pieces} {vs : List Value} (h : w.ownsRow base e 1 (.slice A n c) n vs) (hn : n = ps.length) (hM : Mine w (.slice A n c) ps n vs) : Lst w A ps := by
  intro h0
  obtain ⟨A2, c2, e2, hc⟩ := own_list h
  injection e2 with e2
  subst e2
  obtain ⟨g, e3, hb, hl, hcell⟩ := hc (by omega)
  refine ⟨g, 0, e3, hl, fun i p hp => ?_⟩
  have hi : i < n := by
    rcases Nat.lt_or_ge i n with h | h
    · exact h
    · rw [List.getElem?_eq_none (by omega)] at hp; cases hp
  obtain ⟨q, Aj, cj, h1, h2, h3, _⟩ := hM i hi
  rw [hp] at h1
  cases h1
  exact ⟨Aj, cj, hcell i _ h2, h3⟩
theorem Lst.pcs {w : World} {A : Option Addr} {ps : Pieces} (h : Lst w A ps) (hE : Env w) (hm : ∀ p ∈ ps, p.1 ≤ 100000) : Pcs w A ps := ⟨hE, hm, h⟩
theorem tot_each {ps : Pieces} {p : Nat × (Nat → Nat)} (h : p ∈ ps) : p.1 ≤ tot ps := by
  induction ps with
  | nil => simp at h
  | cons q ps ih =>
    simp only [tot]
    rcases List.mem_cons.1 h with rfl | h
    · omega
    · have := ih h; omega

end Go.Proofs.YtoopoemkickpkaaDoor
