import Derived.Test.YtjiooadakklmlaaJbL4
import Derived.Test.YtjiooadakklmlaaJbO2
import Derived.Test.YtjiooadakklmlaaJbO1
import Derived.Deep.Cut
import Derived.Deep.CutRange
namespace Go.Proofs.Ytjiooadakklmlaa
open Go.RowKit

/-! JblockBack: what is written, and what is read of it. -/
theorem wpListJ_of_quiet {P : Program} {ops : Array Oper} {Q : Exit → Act → World → Prop} {C : World → Prop} : ∀ (l : List Oper) (a : Act) (w : World), C w → wpQuiet P ops C (fun a' => ∀ w', C w' → Q .normal a' w') l a → wpList P ops Q l a w
  | [], _, w, hC, h => h w hC
  | o :: l, a, w, hC, h => by
    unfold wpList
    unfold wpQuiet at h
    split
    · rename_i hw
      simp only [hw, if_true] at h
      exact .inl (Oper.wp_of_quiet hC (fun a' w' hw' hk => wpListJ_of_quiet l a' w' hw' hk) h)
    · rename_i hw
      simp only [hw] at h
      exact wpListJ_of_quiet l _ w hC h
theorem wp_region_textJ {P : Program} {id : Nat} {Q : Exit → Act → World → Prop} {a : Act} {w : World} {l : List Oper} (C : World → Prop) (hC : C w) (h : wpQuiet P l.toArray C (fun a' => ∀ w', C w' → Q .normal a' w') l a) : (Code.region id l.toArray false).wp P Q a w :=
  wp_region_lit (wpListJ_of_quiet l a w hC h)
theorem store_newHG {ops : Array Oper} {rest : List Oper} {op : Oper} {a : Act} {w : World} {Q : Exit → Act → World → Prop} (hgd : op.guard = none) (x y : Operand) (ho : op.op = .store 24 x y) (s : HeadV) (hx : a.eval x = .pointer (some ⟨w.heap.size, 0, none⟩)) (hy : a.eval y = .agg (hcs s))
    (h : ∀ w', Below w.heap.size w w' → HVar w' w.heap.size s → wpList Try.prog ops Q rest (a.put op.dst undef) w') : wpList Try.prog ops Q (op :: rest) a (w.alloc (.cells (hcs .zero) 24)) :=
  store_newH hgd x y ho s hx hy (h _ (newH_low w s) (newH_var w s))
theorem zero_noH : ¬ IsJH .zero := fun h => zero_begins _ h.begins
theorem zero_noT : ¬ IsJT .zero := fun h => zero_begins _ h.begins
theorem zero_noR : ¬ IsJR .zero := fun h => zero_begins _ h.begins
theorem zero_noC : ¬ IsJC .zero := fun h => zero_begins _ h.begins
theorem one_zero (hS : JSays) (kd : Nat) (W : World) : Calls Try.prog 36 #[.agg (arr .zero), .bool false, .int .u8 (kd : Int)] W fun e w' => e = .returned (.bool true) ∧ Below W.heap.size W w' := jOneNo hS .zero kd W zero_noT zero_noC zero_noR zero_noH
/-- Whether it was written: what is read of it is told, then, or refused. -/
def HeadWR (h : HeadV) (P : Blk) (r : Int) (x : HeadV) (d : Int) : Prop :=
  (∀ W, Calls Try.prog 11 #[.agg (hcs h)] W fun e w' => e = .returned (.tuple #[.agg (arr P), .int .i64 r]) ∧ Below W.heap.size W w') ∧
  (∀ W, Calls Try.prog 21 #[.agg (arr P)] W fun e w' => e = .returned (.tuple #[.agg (hcs x), .int .i64 d]) ∧ Below W.heap.size W w') ∧
  (∀ W, Calls Try.prog 36 #[.agg (arr P), .bool (r == 0), .int .u8 4] W fun e w' => e = .returned (.bool true) ∧ Below W.heap.size W w') ∧
  ((r = 0 ∧ d = 0 ∧ x = h) ∨ (r = 2 ∧ d = 90))
theorem head_wr (hS : JSays) (h : HeadV) : ∃ P r x d, HeadWR h P r x d := by
  by_cases q : MayH h
  · refine ⟨listB (headL h), 0, h, 0, fun W => ?_, fun W => ?_, fun W => jOne4 hS _ W (head_is q), .inl ⟨rfl, rfl, rfl⟩⟩
    · have := hS.writeHead h W
      rwa [writeJH_yes q] at this
    · have := hS.readHead (listB (headL h)) W
      rwa [readJH_yes (head_is q), head_of q] at this
  · refine ⟨.zero, 2, .zero, 90, fun W => ?_, fun W => ?_, fun W => one_zero hS 4 W, .inr ⟨rfl, rfl⟩⟩
    · have := hS.writeHead h W
      rwa [writeJH_no q] at this
    · have := hS.readHead .zero W
      rwa [readJH_no zero_noH] at this
def ComWR (s : Nat) (ct : Int) (sm : Nat) (P : Blk) (r : Int) (s' : Nat) (c' : Int) (m' : Nat) (d : Int) : Prop :=
  (∀ W, Calls Try.prog 17 #[.int .u32 (s : Int), .int .i64 ct, .int .u32 (sm : Int)] W fun e w' => e = .returned (.tuple #[.agg (arr P), .int .i64 r]) ∧ Below W.heap.size W w') ∧
  (∀ W, Calls Try.prog 23 #[.agg (arr P)] W fun e w' => e = .returned (.tuple #[.int .u32 (s' : Int), .int .i64 c', .int .u32 (m' : Int), .int .i64 d]) ∧ Below W.heap.size W w') ∧
  (∀ W, Calls Try.prog 36 #[.agg (arr P), .bool (r == 0), .int .u8 2] W fun e w' => e = .returned (.bool true) ∧ Below W.heap.size W w') ∧
  ((r = 0 ∧ d = 0 ∧ s' = s ∧ c' = ct ∧ m' = sm) ∨ (r = 2 ∧ d = 90))
theorem com_wr (hS : JSays) (s : Nat) (ct : Int) (sm : Nat) (hm : sm < 4294967296) : ∃ P r s' c' m' d, ComWR s ct sm P r s' c' m' d := by
  by_cases q : MayC s ct
  · obtain ⟨i1, i2, i3, i4⟩ := commit_is q hm
    refine ⟨listB (commitL s ct sm), 0, s, ct, sm, 0, fun W => ?_, fun W => ?_, fun W => jOne2 hS _ W i1, .inl ⟨rfl, rfl, rfl, rfl, rfl⟩⟩
    · have := hS.writeCommit s ct sm W hm
      rwa [writeJC_yes q] at this
    · have := hS.readCommit (listB (commitL s ct sm)) W
      rw [readJC_yes i1] at this
      unfold tup4 at this
      simp only [i2, i3, i4] at this
      exact this
  · refine ⟨.zero, 2, 0, 0, 0, 90, fun W => ?_, fun W => ?_, fun W => one_zero hS 2 W, .inr ⟨rfl, rfl⟩⟩
    · have := hS.writeCommit s ct sm W hm
      rwa [writeJC_no q] at this
    · have := hS.readCommit .zero W
      rwa [readJC_no zero_noC] at this
def DescWR (s : Nat) (l : List TagV) (P : Blk) (r : Int) (s' : Nat) (l' : List TagV) (n' : Nat) (d : Int) : Prop :=
  (∀ A c W, TagsAt W A l → Calls Try.prog 13 #[.int .u32 (s : Int), .slice A l.length c] W fun e w' => e = .returned (.tuple #[.agg (arr P), .int .i64 r]) ∧ Below W.heap.size W w') ∧
  (∀ W, Calls Try.prog 29 #[.agg (arr P)] W fun e w' => (∃ A c, e = .returned (.tuple #[.int .u32 (s' : Int), .slice A n' c, .int .i64 d]) ∧ TagsAt w' A l') ∧ Below W.heap.size W w') ∧
  (∀ W, Calls Try.prog 36 #[.agg (arr P), .bool (r == 0), .int .u8 1] W fun e w' => e = .returned (.bool true) ∧ Below W.heap.size W w') ∧
  ((r = 0 ∧ d = 0 ∧ s' = s ∧ (∀ A B c c' W, TagsAt W A l' → TagsAt W B l → Calls Try.prog 19 #[.slice A n' c, .slice B l.length c'] W fun e w' => e = .returned (.bool true) ∧ Below W.heap.size W w')) ∨ (r = 2 ∧ d = 90))
theorem desc_wr (hS : JSays) (s : Nat) (l : List TagV) (hl : l.length ≤ 1000) (hs : SmallT l) : ∃ P r s' l' n' d, DescWR s l P r s' l' n' d := by
  by_cases q : MayT s l
  · have i1 := tags_is q hs
    obtain ⟨i2, i3, i4⟩ := tags_nums q hs
    refine ⟨listB (tagsL s l), 0, s, l, l.length, 0, fun A c W hT => ?_, fun W => (hS.readDesc (listB (tagsL s l)) W).mono fun e w' z => ⟨?_, z.2⟩, fun W => jOne1 hS _ W i1, .inl ⟨rfl, rfl, rfl, fun A B c c' W hA hB => ?_⟩⟩
    · have := hS.writeDesc s A c l W hl hs hT
      rwa [writeJT_yes q] at this
    · rcases z.1 with ⟨_, v, rfl, ho⟩ | ⟨n, _⟩
      · rw [i3, i4] at ho
        obtain ⟨A, c, rfl, _, hT⟩ := own_tagsN ho rfl
        exact ⟨A, c, by rw [i2], hT⟩
      · exact absurd i1 n
    · have := rSameTags A B c c' l l W hl hA hB
      rwa [decide_eq_true rfl] at this
  · refine ⟨.zero, 2, 0, [], 0, 90, fun A c W hT => ?_, fun W => (hS.readDesc .zero W).mono fun e w' z => ⟨?_, z.2⟩, fun W => one_zero hS 1 W, .inr ⟨rfl, rfl⟩⟩
    · have := hS.writeDesc s A c l W hl hs hT
      rwa [writeJT_no q] at this
    · rcases z.1 with ⟨n, _⟩ | ⟨_, rfl⟩
      · exact absurd n zero_noT
      · exact ⟨none, 0, rfl, TagsAt.nil _ _⟩
def RevWR (s : Nat) (l : List Nat) (P : Blk) (r : Int) (s' : Nat) (l' : List Nat) (n' : Nat) (d : Int) : Prop :=
  (∀ A c W, NumsAt W A l → Calls Try.prog 15 #[.int .u32 (s : Int), .slice A l.length c] W fun e w' => e = .returned (.tuple #[.agg (arr P), .int .i64 r]) ∧ Below W.heap.size W w') ∧
  (∀ W, Calls Try.prog 30 #[.agg (arr P)] W fun e w' => (∃ A c, e = .returned (.tuple #[.int .u32 (s' : Int), .slice A n' c, .int .i64 d]) ∧ NumsAt w' A l') ∧ Below W.heap.size W w') ∧
  (∀ W, Calls Try.prog 36 #[.agg (arr P), .bool (r == 0), .int .u8 3] W fun e w' => e = .returned (.bool true) ∧ Below W.heap.size W w') ∧
  ((r = 0 ∧ d = 0 ∧ s' = s ∧ (∀ A B c c' W, NumsAt W A l' → NumsAt W B l → Calls Try.prog 20 #[.slice A n' c, .slice B l.length c'] W fun e w' => e = .returned (.bool true) ∧ Below W.heap.size W w')) ∨ (r = 2 ∧ d = 90))
theorem rev_wr (hS : JSays) (s : Nat) (l : List Nat) (hl : l.length ≤ 1000) (hs : Small32 l) : ∃ P r s' l' n' d, RevWR s l P r s' l' n' d := by
  by_cases q : MayR s l
  · have i1 := revoke_is q hs
    obtain ⟨i2, i3, i4⟩ := revoke_nums q hs
    refine ⟨listB (revokeL s l), 0, s, l, l.length, 0, fun A c W hT => ?_, fun W => (hS.readRevoke (listB (revokeL s l)) W).mono fun e w' z => ⟨?_, z.2⟩, fun W => jOne3 hS _ W i1, .inl ⟨rfl, rfl, rfl, fun A B c c' W hA hB => ?_⟩⟩
    · have := hS.writeRevoke s A c l W hl hs hT
      rwa [writeJR_yes q] at this
    · rcases z.1 with ⟨_, v, rfl, ho⟩ | ⟨n, _⟩
      · rw [i3, i4] at ho
        obtain ⟨A, c, rfl, _, hT⟩ := own_numsN ho rfl
        exact ⟨A, c, by rw [i2], hT⟩
      · exact absurd i1 n
    · have := rSameNumbers A B c c' l l W hl hA hB
      rwa [decide_eq_true rfl] at this
  · refine ⟨.zero, 2, 0, [], 0, 90, fun A c W hT => ?_, fun W => (hS.readRevoke .zero W).mono fun e w' z => ⟨?_, z.2⟩, fun W => one_zero hS 3 W, .inr ⟨rfl, rfl⟩⟩
    · have := hS.writeRevoke s A c l W hl hs hT
      rwa [writeJR_no q] at this
    · rcases z.1 with ⟨n, _⟩ | ⟨_, rfl⟩
      · exact absurd n zero_noR
      · exact ⟨none, 0, rfl, NumsAt.nil _ _⟩
/-- What came in, as it lies. -/
structure JB (w0 w : World) (h : HeadV) (A B : Option Addr) (l : List TagV) (m : List Nat) : Prop where
  head : HVar w w0.heap.size h
  tags : TagsAt w A l
  nums : NumsAt w B m
  low : Below w0.heap.size w0 w
theorem JB.below {w0 w w' : World} {h : HeadV} {A B : Option Addr} {l : List TagV} {m : List Nat} (k : JB w0 w h A B l m) (hb : Below w.heap.size w w') : JB w0 w' h A B l m := ⟨k.head.below hb, k.tags.below hb, k.nums.below hb, low_go k.low hb⟩
end Go.Proofs.Ytjiooadakklmlaa
