import Derived.Test.YtaipcciokhkmnaaDDoes
namespace Go.Proofs.Ytaipcciokhkmnaa
open Go.RowKit

section
variable {D : World → Addr → DS → Av → Prop}
theorem Both.gbound {w : World} {a : Addr} {b : Nat} {sd sr : DS} {G : Av} (h : Both D w a b sd sr G) : ∀ i, G i → i < w.heap.size := by
  obtain ⟨F, h⟩ := h
  exact fun i hi => (h.g i hi).1
theorem Does.grow (hD : DiskSays D) {w w' w0 : World} {a : Addr} {b gx kind f km kc : Nat} {p : Int} {K : Option Addr} {sd sr : DS} {G : Av} (h : Does D w a b sd sr G gx kind p f K km kc w0) (hb : Below w.heap.size w w') : Does D w' a b sd sr G gx kind p f K km kc w0 :=
  h.next (h.t.below hD hb) ((Keep.of_below hb).mono h.t.gbound)
theorem Both.callRRead {w : World} {a : Addr} {b : Nat} {sd sr : DS} {G : Av} (p : Int) (h : Both D w a b sd sr G) :
    Calls Try.prog 35 #[.pointer (some ⟨b, 0, none⟩), .int .i64 p] w fun e w' => e = .returned (.tuple #[.agg (arr (sr.read p)), .int .i64 (sr.err p)]) ∧ Below w.heap.size w w' := by
  obtain ⟨F, h⟩ := h
  exact rRead_any w b sr _ p h.r
set_option maxRecDepth 100000 in
set_option maxHeartbeats 1000000 in
theorem does8 (hD : DiskSays D) (w : World) (a : Addr) (b : Nat) (s : DS) (G : Av) (kind f km kc : Nat) (p : Int) (K : Option Addr) (hT : Both D w a b s s G) (hG : ∀ i, G i → i < w.heap.size) (ha : s.acts < 1000000) (hk : kind < 256) (q : kind % 8 < 4) (hf : f < 4294967296) :
    Calls Try.prog 16 #[.pointer (some a), .pointer (some ⟨b, 0, none⟩), .agg #[.int .u8 (kind : Int), .int .i64 p, .int .u32 (f : Int), .slice K km kc]] w fun e w' => e = .returned (.bool true) ∧ Both D w' a b (s.write p (fillB f)) (s.write p (fillB f)) G ∧ Keep G w w' := by
  have HD := Lib.hid hD
  have T0 := Lib.hid (Does.start hD (kind := kind) (f := f) (km := km) (kc := kc) (p := p) (K := K) (t := 41) hT hG)
  have s4 : ((kind : Int) % 8 == 4) = false := by rw [beq_eq_false_iff_ne]; omega
  have s5 : ((kind : Int) % 8 == 5) = false := by rw [beq_eq_false_iff_ne]; omega
  have s6 : ((kind : Int) % 8 == 6) = false := by rw [beq_eq_false_iff_ne]; omega
  have s7 : ((kind : Int) % 8 == 7) = false := by rw [beq_eq_false_iff_ne]; omega
  clear hD hT hG q
  have c1 := T0.out.c1
  have c2 := T0.out.c2
  have tok1 : True := trivial
  have tok2 : True := trivial
  go_enter Try.func16, Try.ntmps16
  go_wp2_with fail
  generalize w.alloc (.cells #[.int .u8 (kind : Int), .int .i64 p, .int .u32 (f : Int), .slice K km kc] 41) = w1 at T0 c1 c2 ⊢
  generalize w.heap.size = gx at T0 c1 c2 ⊢
  have T1 := Lib.hid (T0.out.grow HD.out (w' := w1.drew) ⟨rfl, rfl, rfl, Nat.le_refl _, fun _ _ => rfl⟩)
  clear T0
  go_region_held3 (fun w' => w'.cell? ⟨gx, 1, none⟩ = some (.int .i64 p) ∧ w'.cell? ⟨gx, 2, none⟩ = some (.int .u32 (f : Int)))
    (first
      | go_keep
      | exact ⟨hh1, hh2⟩
      | fail "KEEP")
    (first
      | (go_at_call 10; have _t := tok1; refine (fill_any f _ hf).mono ?_; rintro e w2 ⟨rfl, hb⟩; have T2 := Lib.hid (T1.out.grow HD.out hb); have hh1 := T2.out.c1; have hh2 := T2.out.c2; clear tok1 hb)
      | (go_at_call 18; refine (T2.out.t.callD fun av h => HD.out.write a s av p (fillB f) _ h ha).mono ?_; rintro e w3 ⟨rfl, ht, hk2, _⟩; have T3 := Lib.hid (T2.out.next ht hk2); have hh1 := T3.out.c1; have hh2 := T3.out.c2; clear ht hk2)
      | (go_at_call 10; have _t := tok2; refine (fill_any f _ hf).mono ?_; rintro e w4 ⟨rfl, hb⟩; have T4 := Lib.hid (T3.out.grow HD.out hb); have hh1 := T4.out.c1; have hh2 := T4.out.c2; clear tok2 hb)
      | (go_at_call 38; refine (T4.out.t.callR HD.out fun av h _ => rWrite_any _ b s av p (fillB f) h ha).mono ?_; rintro e w5 ⟨rfl, ht, hk2⟩; have T5 := Lib.hid (T4.out.next ht hk2); have hh1 := T5.out.c1; have hh2 := T5.out.c2; clear ht hk2)
      | fail "ARM")
  all_goals
    go_wp2_with fail
    go_ret
    exact ⟨by simp, (T5.out.done HD.out).1, (T5.out.done HD.out).2⟩
set_option maxRecDepth 100000 in
set_option maxHeartbeats 1000000 in
theorem does5 (hD : DiskSays D) (w : World) (a : Addr) (b : Nat) (s : DS) (G : Av) (kind f km kc : Nat) (p : Int) (K : Option Addr) (hT : Both D w a b s s G) (hG : ∀ i, G i → i < w.heap.size) (hk : kind < 256) (q5 : kind % 8 = 5) :
    Calls Try.prog 16 #[.pointer (some a), .pointer (some ⟨b, 0, none⟩), .agg #[.int .u8 (kind : Int), .int .i64 p, .int .u32 (f : Int), .slice K km kc]] w fun e w' => e = .returned (.bool true) ∧ Both D w' a b s s G ∧ Keep G w w' := by
  have HD := Lib.hid hD
  have T0 := Lib.hid (Does.start hD (kind := kind) (f := f) (km := km) (kc := kc) (p := p) (K := K) (t := 41) hT hG)
  have s4 : ((kind : Int) % 8 == 4) = false := by rw [beq_eq_false_iff_ne]; omega
  have s5 : ((kind : Int) % 8 == 5) = true := by rw [beq_iff_eq]; omega
  have hz := fun W => zero_blk W
  clear hD hT hG q5
  have c1 := T0.out.c1
  go_enter Try.func16, Try.ntmps16
  go_wp2_with fail
  refine (T0.out.t.callD fun av h => HD.out.read a s av p _ h).mono ?_
  rintro e w2 ⟨rfl, ht, hk2, _⟩
  have T2 := Lib.hid (T0.out.next ht hk2)
  clear ht hk2 T0 c1
  have c1' := alloc1_cell T2.out.c1 (.cells (arr (s.read p)) 26)
  go_wp2_with (refine store_row rfl (.tmp 7) (.tmp 30) rfl w2.heap.size (s.read p) .zero 26 rfl rfl (heap_alloc_new w2 _) ?_; rw [World.setRow_alloc_new])
  have T3 := Lib.hid (T2.out.grow HD.out ((Below.refl _ _).alloc (Nat.le_refl _) (.cells (arr (s.read p)) 26)))
  have X3 := Lib.hid (At.row (heap_alloc_new w2 (.cells (arr (s.read p)) 26)))
  generalize w2.alloc (.cells (arr (s.read p)) 26) = w3 at T3 X3 ⊢
  generalize w2.heap.size = h7 at X3 ⊢
  clear T2 c1'
  refine (T3.out.t.callRRead p).mono ?_
  rintro e w4 ⟨rfl, hb⟩
  have T4 := Lib.hid (T3.out.grow HD.out hb)
  have X4 := Lib.hid (X3.out.below hb)
  clear hb T3 X3
  have T5 := Lib.hid (T4.out.grow HD.out ((Below.refl _ _).alloc (Nat.le_refl _) (.cells (arr (s.read p)) 26)))
  have X5 := Lib.hid (X4.out.alloc (.cells (arr (s.read p)) 26))
  have Y5 := Lib.hid (At.row (heap_alloc_new w4 (.cells (arr (s.read p)) 26)))
  have heq := fun W => equalIn_blk (s.read p) (s.read p) W
  have hgd := blk_guard
  have hdec : decide (s.read p = s.read p) = true := decide_eq_true rfl
  go_wp2_with (first
    | (refine store_row rfl (.tmp 9) (.tmp 37) rfl w4.heap.size (s.read p) .zero 26 rfl rfl (heap_alloc_new w4 _) ?_; rw [World.setRow_alloc_new])
    | (refine load_blk rfl (.tmp 7) rfl h7 0 rfl (s.read p) X5.out ?_)
    | (refine load_blk rfl (.tmp 9) rfl w4.heap.size 0 rfl (s.read p) Y5.out ?_))
  go_ret
  exact ⟨by simp, (T5.out.done HD.out).1, (T5.out.done HD.out).2⟩
end
end Go.Proofs.Ytaipcciokhkmnaa
