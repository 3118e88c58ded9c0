import Derived.Test.YtjiooadakklmlaaJbO
namespace Go.Proofs.Ytjiooadakklmlaa
open Go.RowKit

/-! JblockBlocks: what is read, and what is written of it. -/
theorem load_blk_h {ops : Array Oper} {rest : List Oper} {op : Oper} {a : Act} {w : World} {Q : Exit → Act → World → Prop} (x : Operand) (ho : op.op = .load 28 x) (b o : Nat) (hx : a.eval x = .pointer (some ⟨b, o, none⟩)) (X : Blk) (hc : At w b o X) (hw : Region.wanted op (yielded ops a.tmps) = true)
    (h : wpList Try.prog ops Q rest (a.put op.dst (.agg (arr X))) w) : wpList Try.prog ops Q (op :: rest) a w := load_blk_w hw x ho b o hx X hc h
/-! Stores whose world is forgotten at once. -/
theorem store_newG {ops : Array Oper} {rest : List Oper} {op : Oper} {a : Act} {w : World} {Q : Exit → Act → World → Prop} (hgd : op.guard = none) (x y : Operand) (ho : op.op = .store 28 x y) (X : Blk) (hx : a.eval x = .pointer (some ⟨w.heap.size, 0, none⟩)) (hy : a.eval y = .agg (arr X))
    (h : ∀ w', Below w.heap.size w w' → BVar w' w.heap.size X → wpList Try.prog ops Q rest (a.put op.dst undef) w') : wpList Try.prog ops Q (op :: rest) a (w.alloc (.cells (arr .zero) 28)) :=
  store_newJ hgd x y ho X hx hy (h _ (newB_low w X) (newB_var w X))
theorem store_rowG {ops : Array Oper} {rest : List Oper} {op : Oper} {a : Act} {w0 w : World} {Q : Exit → Act → World → Prop} (hgd : op.guard = none) (x y : Operand) (ho : op.op = .store 28 x y) (b : Nat) (X Y : Blk) (hx : a.eval x = .pointer (some ⟨b, 0, none⟩)) (hy : a.eval y = .agg (arr X)) (hb : BVar w b Y) (h0 : Below w0.heap.size w0 w) (hle : w0.heap.size ≤ b)
    (h : ∀ w', Below w0.heap.size w0 w' → BVar w' b X → wpList Try.prog ops Q rest (a.put op.dst undef) w') : wpList Try.prog ops Q (op :: rest) a w :=
  store_row hgd x y ho b X Y 28 hx hy hb (h _ (row_low h0 hle _) (row_heap _ _ _ _ hb))
def DescRW (X : Blk) (s : Nat) (ed : Int) (P : Blk) (r : Int) : Prop := ∃ (n : Nat) (T : World → Option Addr → Prop), (∀ w w' A, T w A → Below w.heap.size w w' → T w' A) ∧
  (∀ W, Calls Try.prog 29 #[.agg (arr X)] W fun e w' => (∃ A c, e = .returned (.tuple #[.int .u32 (s : Int), .slice A n c, .int .i64 ed]) ∧ T w' A) ∧ Below W.heap.size W w') ∧
  (∀ A c W, T W A → Calls Try.prog 13 #[.int .u32 (s : Int), .slice A n c] W fun e w' => e = .returned (.tuple #[.agg (arr P), .int .i64 r]) ∧ Below W.heap.size W w')
def RevRW (X : Blk) (s : Nat) (ed : Int) (P : Blk) (r : Int) : Prop := ∃ (n : Nat) (T : World → Option Addr → Prop), (∀ w w' A, T w A → Below w.heap.size w w' → T w' A) ∧
  (∀ W, Calls Try.prog 30 #[.agg (arr X)] W fun e w' => (∃ A c, e = .returned (.tuple #[.int .u32 (s : Int), .slice A n c, .int .i64 ed]) ∧ T w' A) ∧ Below W.heap.size W w') ∧
  (∀ A c W, T W A → Calls Try.prog 15 #[.int .u32 (s : Int), .slice A n c] W fun e w' => e = .returned (.tuple #[.agg (arr P), .int .i64 r]) ∧ Below W.heap.size W w')
def HeadRW (X : Blk) (s : Nat) (ed : Int) (P : Blk) (r : Int) : Prop := ∃ (st : Int),
  (∀ W, Calls Try.prog 21 #[.agg (arr X)] W fun e w' => e = .returned (.tuple #[.agg (hcs ⟨s, st⟩), .int .i64 ed]) ∧ Below W.heap.size W w') ∧
  (∀ W, Calls Try.prog 11 #[.agg (hcs ⟨s, st⟩)] W fun e w' => e = .returned (.tuple #[.agg (arr P), .int .i64 r]) ∧ Below W.heap.size W w')
def ComRW (X : Blk) (s : Nat) (ed : Int) (P : Blk) (r : Int) : Prop := ∃ (ct : Int) (sm : Nat),
  (∀ W, Calls Try.prog 23 #[.agg (arr X)] W fun e w' => e = .returned (.tuple #[.int .u32 (s : Int), .int .i64 ct, .int .u32 (sm : Int), .int .i64 ed]) ∧ Below W.heap.size W w') ∧
  (∀ W, Calls Try.prog 17 #[.int .u32 (s : Int), .int .i64 ct, .int .u32 (sm : Int)] W fun e w' => e = .returned (.tuple #[.agg (arr P), .int .i64 r]) ∧ Below W.heap.size W w')
theorem no_seq0 : ¬ MaySeq 0 := by decide
theorem desc_yes (hS : JSays) {X : Blk} (h : IsJT X) : DescRW X (num X 2) 0 X 0 := by
  obtain ⟨hm, hX⟩ := is_tags h
  refine ⟨num X 3, fun W A => TagsAt W A (tagsOf X (num X 3)), fun _ _ _ h hb => h.below hb, fun W => (hS.readDesc X W).mono fun e w' q => ⟨?_, q.2⟩, fun A c W hT => ?_⟩
  · rcases q.1 with ⟨_, v, rfl, ho⟩ | ⟨n, _⟩
    · obtain ⟨A, c, rfl, _, hT⟩ := own_tagsN ho (tagsOf_length X _).symm
      exact ⟨A, c, rfl, hT⟩
    · exact absurd h n
  · have := hS.writeDesc (num X 2) A c (tagsOf X (num X 3)) W (by rw [tagsOf_length]; have := h.hi; omega) (fun t ht => by
      obtain ⟨i, _, rfl⟩ := List.mem_map.1 ht
      exact num_lt X _) hT
    rw [writeJT_yes hm, hX, tagsOf_length] at this
    exact this
theorem desc_no (hS : JSays) {X : Blk} (h : ¬ IsJT X) : DescRW X 0 90 .zero 2 := by
  refine ⟨0, fun _ A => A = none, fun _ _ _ h _ => h, fun W => (hS.readDesc X W).mono fun e w' q => ⟨?_, q.2⟩, fun A c W hT => ?_⟩
  · rcases q.1 with ⟨n, _⟩ | ⟨_, rfl⟩
    · exact absurd n h
    · exact ⟨none, 0, rfl, rfl⟩
  · have := hS.writeDesc 0 A c [] W (by decide) (fun _ h => absurd h (by simp)) (TagsAt.nil W A)
    rw [writeJT_no fun q => no_seq0 q.seq] at this
    exact this
theorem rev_yes (hS : JSays) {X : Blk} (h : IsJR X) : RevRW X (num X 2) 0 X 0 := by
  obtain ⟨hm, hX⟩ := is_revoke h
  refine ⟨num X 3, fun W A => NumsAt W A (numsOf X (num X 3)), fun _ _ _ h hb => h.below hb, fun W => (hS.readRevoke X W).mono fun e w' q => ⟨?_, q.2⟩, fun A c W hT => ?_⟩
  · rcases q.1 with ⟨_, v, rfl, ho⟩ | ⟨n, _⟩
    · obtain ⟨A, c, rfl, _, hT⟩ := own_numsN ho (numsOf_length X _).symm
      exact ⟨A, c, rfl, hT⟩
    · exact absurd h n
  · have := hS.writeRevoke (num X 2) A c (numsOf X (num X 3)) W (by rw [numsOf_length]; have := h.hi; omega) (fun t ht => by
      obtain ⟨i, _, rfl⟩ := List.mem_map.1 ht
      exact num_lt X _) hT
    rw [writeJR_yes hm, hX, numsOf_length] at this
    exact this
theorem rev_no (hS : JSays) {X : Blk} (h : ¬ IsJR X) : RevRW X 0 90 .zero 2 := by
  refine ⟨0, fun _ A => A = none, fun _ _ _ h _ => h, fun W => (hS.readRevoke X W).mono fun e w' q => ⟨?_, q.2⟩, fun A c W hT => ?_⟩
  · rcases q.1 with ⟨n, _⟩ | ⟨_, rfl⟩
    · exact absurd n h
    · exact ⟨none, 0, rfl, rfl⟩
  · have := hS.writeRevoke 0 A c [] W (by decide) (fun _ h => absurd h (by simp)) (NumsAt.nil W A)
    rw [writeJR_no fun q => no_seq0 q.seq] at this
    exact this
theorem head_yes (hS : JSays) {X : Blk} (h : IsJH X) : HeadRW X (num X 2) 0 X 0 := by
  obtain ⟨hm, hX⟩ := is_head h
  refine ⟨((num X 3 : Nat) : Int), fun W => ?_, fun W => ?_⟩
  · have := hS.readHead X W
    rw [readJH_yes h] at this
    exact this
  · have := hS.writeHead (headOf X) W
    rw [writeJH_yes hm, hX] at this
    exact this
theorem head_no (hS : JSays) {X : Blk} (h : ¬ IsJH X) : HeadRW X 0 90 .zero 2 := by
  refine ⟨0, fun W => ?_, fun W => ?_⟩
  · have := hS.readHead X W
    rw [readJH_no h] at this
    exact this
  · have := hS.writeHead .zero W
    rw [writeJH_no fun q => no_seq0 q.seq] at this
    exact this
theorem com_yes (hS : JSays) {X : Blk} (h : IsJC X) : ComRW X (num X 2) 0 X 0 := by
  obtain ⟨hm, hX⟩ := is_commit h
  refine ⟨((num X 3 : Nat) : Int), num X 4, fun W => ?_, fun W => ?_⟩
  · have := hS.readCommit X W
    rw [readJC_yes h] at this
    exact this
  · have := hS.writeCommit (num X 2) ((num X 3 : Nat) : Int) (num X 4) W (num_lt X 4)
    rw [writeJC_yes hm, hX] at this
    exact this
theorem com_no (hS : JSays) {X : Blk} (h : ¬ IsJC X) : ComRW X 0 90 .zero 2 := by
  refine ⟨0, 0, fun W => ?_, fun W => ?_⟩
  · have := hS.readCommit X W
    rw [readJC_no h] at this
    exact this
  · have := hS.writeCommit 0 0 0 W (by decide)
    rw [writeJC_no fun q => no_seq0 q.seq] at this
    exact this
end Go.Proofs.Ytjiooadakklmlaa
