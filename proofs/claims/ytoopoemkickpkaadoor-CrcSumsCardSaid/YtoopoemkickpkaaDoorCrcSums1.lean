import Derived.Test.YtoopoemkickpkaaDoorCrcRef
import Derived.OwnWalk
namespace Go.Proofs.YtoopoemkickpkaaDoor
open Go.RowKit CrcM

/-! Lists of pieces: their lengths, what they are behind each other, and what the document's helpers say of them. -/
abbrev Pieces := List (Nat × (Nat → Nat))
def Lst (w : World) (A : Option Addr) (ps : Pieces) : Prop :=
  0 < ps.length → ∃ b o, A = some ⟨b, o, none⟩ ∧ b < w.heap.size ∧ ∀ i p, ps[i]? = some p → ∃ Ai ci, w.cell? ⟨b, o + i, none⟩ = some (.slice Ai p.1 ci) ∧ Row w Ai p.1 p.2
theorem Lst.below {w w' : World} {A : Option Addr} {ps : Pieces} (h : Lst w A ps) (hb : Below w.heap.size w w') : Lst w' A ps := fun h0 => by
  obtain ⟨b, o, e, hlt, hc⟩ := h h0
  refine ⟨b, o, e, Nat.lt_of_lt_of_le hlt hb.size, fun i p hp => ?_⟩
  obtain ⟨Ai, ci, h1, h2⟩ := hc i p hp
  exact ⟨Ai, ci, (hb.cell (p := ⟨b, o + i, none⟩) hlt).trans h1, h2.below hb⟩
theorem Lst.drewN {w : World} {A : Option Addr} {ps : Pieces} (h : Lst w A ps) (d : Nat) : Lst (w.drewN d) A ps := h
def tot : Pieces → Nat
  | [] => 0
  | p :: ps => p.1 + tot ps
def cat : Pieces → Nat → Nat
  | [], _ => 0
  | p :: ps, i => if i < p.1 then p.2 i else cat ps (i - p.1)
theorem cat_lt {ps : Pieces} (h : ∀ p ∈ ps, ∀ i, p.2 i < 256) : ∀ i, cat ps i < 256 := by
  induction ps with
  | nil => intro i; show 0 < 256; omega
  | cons p ps ih =>
    intro i
    simp only [cat]
    split
    · exact h p (by simp) i
    · exact ih (fun q hq => h q (by simp [hq])) _
theorem tot_take_succ {ps : Pieces} : ∀ {k : Nat} {p : Nat × (Nat → Nat)}, ps[k]? = some p → tot (ps.take (k + 1)) = tot (ps.take k) + p.1 := by
  induction ps with
  | nil => intro k p h; simp at h
  | cons q ps ih =>
    intro k p h
    cases k with
    | zero => cases h; simp [tot]
    | succ k =>
      have := ih (k := k) (p := p) (by simpa using h)
      simp only [List.take_succ_cons, tot] at this ⊢
      omega
theorem tot_take_le (ps : Pieces) : ∀ k, tot (ps.take k) ≤ tot ps := by
  induction ps with
  | nil => intro k; simp [tot]
  | cons q ps ih =>
    intro k
    cases k with
    | zero => simp [tot]
    | succ k => have := ih k; simp only [List.take_succ_cons, tot]; omega
theorem cat_at {ps : Pieces} : ∀ {k : Nat} {p : Nat × (Nat → Nat)}, ps[k]? = some p → ∀ i, i < p.1 → cat ps (tot (ps.take k) + i) = p.2 i := by
  induction ps with
  | nil => intro k p h; simp at h
  | cons q ps ih =>
    intro k p h i hi
    cases k with
    | zero => cases h; simp [tot, cat, hi]
    | succ k =>
      have := ih (k := k) (p := p) (by simpa using h) i hi
      simp only [List.take_succ_cons, tot, cat]
      rw [if_neg (by omega), ← this]
      congr 1
      omega
theorem run_cat (ps : Pieces) : ∀ v, run v (cat ps) (tot ps) = runs v ps := by
  induction ps with
  | nil => intro v; rfl
  | cons p ps ih =>
    intro v
    show run v (cat (p :: ps)) (p.1 + tot ps) = runs (run v p.2 p.1) ps
    rw [run_append, ← ih]
    have e1 : run v (cat (p :: ps)) p.1 = run v p.2 p.1 := run_congr _ fun i hi => by simp [cat, hi]
    have e2 : (fun i => cat (p :: ps) (p.1 + i)) = cat ps := by
      funext i
      simp only [cat]
      rw [if_neg (by omega), Nat.add_sub_cancel_left]
    rw [e1, e2]
theorem sum_cat (ps : Pieces) : sum (cat ps) (tot ps) = sums ps := by
  unfold sum sums
  rw [run_cat]
theorem vals8_add (F f : Nat → Nat) (a : Nat) : ∀ n, (∀ i, i < n → F (a + i) = f i) → vals8 F (a + n) = vals8 F a ++ vals8 f n := by
  intro n
  induction n with
  | zero => intro _; simp [vals8]
  | succ n ih =>
    intro h
    have e : ∀ (g : Nat → Nat) (m : Nat), vals8 g (m + 1) = vals8 g m ++ [.int .u8 ((g m : Nat) : Int)] := fun g m => by
      unfold vals8
      rw [List.range_succ, List.map_append]
      rfl
    rw [← Nat.add_assoc, e, e, ih (fun i hi => h i (by omega)), h n (by omega), List.append_assoc]

/-- Too much? -/
def gr (left : Nat) : Pieces → Bool
  | [] => false
  | p :: ps => if left < p.1 then true else gr (left - p.1) ps
theorem gr_no {ps : Pieces} : ∀ {left : Nat}, gr left ps = false → tot ps ≤ left := by
  induction ps with
  | nil => intro left _; exact Nat.zero_le _
  | cons p ps ih =>
    intro left h
    simp only [gr] at h
    split at h
    · cases h
    · have := ih h
      simp only [tot]
      omega
theorem gr_step {ps : Pieces} {k : Nat} {p : Nat × (Nat → Nat)} (h : ps[k]? = some p) (left : Nat) : gr left (ps.drop k) = if left < p.1 then true else gr (left - p.1) (ps.drop (k + 1)) := by
  obtain ⟨hk, rfl⟩ := List.getElem?_eq_some_iff.1 h
  rw [List.drop_eq_getElem_cons hk]
  rfl

set_option maxHeartbeats 400000 in
theorem great_any (A : Option Addr) (c : Nat) (ps : Pieces) (w : World) (hL : Lst w A ps) :
    Calls Tryd.prog 10 #[.slice A ps.length c] w fun e w' => e = .returned (.bool (decide (100 < ps.length) || gr 20000 ps)) ∧ ∃ d, w' = w.drewN d := by
  have H := Lib.hid hL
  clear hL
  by_cases h1 : 100 < ps.length
  · have t1 : decide ((100 : Int) < (ps.length : Nat)) = true := by simp; omega
    have t2 : decide (100 < ps.length) = true := by simp; omega
    go_enter Tryd.func10, Tryd.ntmps10
    go_wp2
    go_ret
    exact ⟨by rw [t2]; rfl, 0, rfl⟩
  have t1 : decide ((100 : Int) < (ps.length : Nat)) = false := by simp; omega
  have t2 : Hid (decide (100 < ps.length) = false) := Lib.hid (by simp; omega)
  obtain ⟨m, hm⟩ : ∃ m, ps.length = m := ⟨_, rfl⟩
  have M := Lib.hid hm
  rw [hm] at t1 h1 t2 ⊢
  clear hm
  go_enter Tryd.func10, Tryd.ntmps10
  go_wp2
  go_loopw [3, 4] (fun v i wr => ∃ (k left : Nat), k ≤ m ∧ i = .int .i64 k ∧ left ≤ 20000 ∧ v = .int .i64 left ∧ Hid (gr 20000 ps = gr left (ps.drop k)) ∧ ∃ d, wr = w.drewN d) (fun _ i _ => m - (intOf i).toNat)
  case atStart => exact ⟨0, 20000, Nat.zero_le _, rfl, Nat.le_refl _, rfl, Lib.hid rfl, 0, rfl⟩
  case round =>
    obtain ⟨k, left, hk, rfl, hl0, rfl, HG, dd, rfl⟩ := hrel
    by_cases hlt : k < m
    · obtain ⟨p, hp⟩ : ∃ p, ps[k]? = some p := ⟨_, List.getElem?_eq_getElem (by have := M.out; omega)⟩
      have HP := Lib.hid hp
      obtain ⟨b, o, rfl, _, hc⟩ := H.out (by have := M.out; omega)
      obtain ⟨Ai, ci, ck, _⟩ := hc k p hp
      have l1 : (0 : Int) ≤ k := by omega
      have l2 : (k : Int) < m := by omega
      clear hc hp
      by_cases hg : left < p.1
      · have t3 : decide ((left : Int) < (p.1 : Nat)) = true := by simp; omega
        have HX : Hid (gr 20000 ps = true) := Lib.hid (by rw [HG.out, gr_step HP.out, if_pos hg])
        go_wp2
        go_ret
        exact ⟨by rw [HX.out, t2.out]; rfl, _, rfl⟩
      · have t3 : decide ((left : Int) < (p.1 : Nat)) = false := by simp; omega
        have HX : Hid (gr 20000 ps = gr (left - p.1) (ps.drop (k + 1))) := Lib.hid (by rw [HG.out, gr_step HP.out, if_neg hg])
        have e1 : (left : Int) - (p.1 : Nat) = ((left - p.1 : Nat) : Int) := by omega
        have e2 : left - p.1 ≤ 20000 := by omega
        go_wp2
        go_roundw
        case rel => exact ⟨k + 1, left - p.1, by omega, by go_num, e2, by go_num, HX, _, rfl⟩
        case measure => simp [intOf]; omega
    · have HX : Hid (gr 20000 ps = false) := Lib.hid (by rw [HG.out, List.drop_eq_nil_of_le (by have := M.out; omega)]; rfl)
      go_wp2
      go_ret
      exact ⟨by rw [HX.out, t2.out]; rfl, _, rfl⟩

end Go.Proofs.YtoopoemkickpkaaDoor
