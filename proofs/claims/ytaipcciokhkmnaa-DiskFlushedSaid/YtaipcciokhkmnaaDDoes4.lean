import Derived.Test.YtaipcciokhkmnaaDDoes3
namespace Go.Proofs.Ytaipcciokhkmnaa
open Go.RowKit

section
variable {D : World → Addr → DS → Av → Prop}
set_option maxRecDepth 100000 in
set_option maxHeartbeats 1000000 in
theorem does70 (hD : DiskSays D) (w : World) (a : Addr) (b : Nat) (s : DS) (G : Av) (kind f kc : Nat) (p : Int) (K : Option Addr) (hT : Both D w a b s s G) (hG : ∀ i, G i → i < w.heap.size) (hk : kind < 256) (q7 : kind % 8 = 7) :
    Calls Try.prog 16 #[.pointer (some a), .pointer (some ⟨b, 0, none⟩), .agg #[.int .u8 (kind : Int), .int .i64 p, .int .u32 (f : Int), .slice K 0 kc]] w fun e w' => e = .returned (.bool true) ∧ Both D w' a b (s.crash []) (s.crash []) G ∧ Keep G w w' := by
  have HD := Lib.hid hD
  have T0 := Lib.hid (Does.start hD (kind := kind) (f := f) (km := 0) (kc := kc) (p := p) (K := K) (t := 41) hT hG)
  have s4 : ((kind : Int) % 8 == 4) = false := by rw [beq_eq_false_iff_ne]; omega
  have s5 : ((kind : Int) % 8 == 5) = false := by rw [beq_eq_false_iff_ne]; omega
  have s6 : ((kind : Int) % 8 == 6) = false := by rw [beq_eq_false_iff_ne]; omega
  have s7 : ((kind : Int) % 8 == 7) = true := by rw [beq_iff_eq]; omega
  clear hD hT hG q7
  have c3 := T0.out.c3
  have c3b := alloc1_cell c3 (.cells #[] 4)
  have BE : Hid (Below (w.alloc (.cells #[.int .u8 (kind : Int), .int .i64 p, .int .u32 (f : Int), .slice K 0 kc] 41)).heap.size (w.alloc (.cells #[.int .u8 (kind : Int), .int .i64 p, .int .u32 (f : Int), .slice K 0 kc] 41)) ((w.alloc (.cells #[.int .u8 (kind : Int), .int .i64 p, .int .u32 (f : Int), .slice K 0 kc] 41)).alloc (.cells #[] 4))) := Lib.hid ((Below.refl _ _).alloc (Nat.le_refl _) _)
  have T1 := Lib.hid (T0.out.grow HD.out BE.out)
  have TG : Hid (Both D ((w.alloc (.cells #[.int .u8 (kind : Int), .int .i64 p, .int .u32 (f : Int), .slice K 0 kc] 41)).alloc (.cells #[] 4)) a b s s (fun i => (G i ∨ i = w.heap.size + 1) ∨ i = w.heap.size)) := Lib.hid ((T0.out.t.new' HD.out BE.out).mono HD.out (by
    rintro i ((q | rfl) | rfl)
    · exact .inl (.inl q)
    · exact .inr ⟨by simp, by simp⟩
    · exact .inl (.inr rfl)))
  clear T0 BE
  cases K
  all_goals
    go_enter Try.func16, Try.ntmps16
    go_wp2_with fail
    generalize (w.alloc (.cells _ 41)).alloc (.cells #[] 4) = w5 at T1 TG ⊢
    have T6 : Hid (Does D w5 a b s s (fun i => G i ∨ i = w.heap.size + 1) w.heap.size kind p f _ 0 kc w5) := Lib.hid ⟨TG.out, Keep.refl _ _, T1.out.c0, T1.out.c1, T1.out.c2, T1.out.c3⟩
    have K5 := Lib.hid T1.out.k
    clear T1 TG c3 c3b
    generalize w.heap.size = gx at T6 ⊢
    refine (T6.out.t.callD2 fun av h hv => HD.out.crash a s av _ 0 0 [] _ h rfl (fun h0 => absurd h0 (by simp)) (fun h0 => absurd h0 (by simp)) (by omega)).mono ?_
    rintro e w6 ⟨rfl, ht, hk2⟩
    have T7 := Lib.hid (T6.out.next ht hk2)
    have K7 := Lib.hid (K5.out.trans (hk2.mono fun _ hi => .inl (.inl hi)))
    have c3 := T7.out.c3
    clear ht hk2 T6 K5
    go_wp2_with fail
    refine (T7.out.t.callR HD.out fun av h hv => rCrash_any _ b s av _ 0 kc [] h rfl (fun h0 => absurd h0 (by simp)) (fun h0 => absurd h0 (by simp)) (by omega)).mono ?_
    rintro e w7 ⟨rfl, ht, hk2⟩
    have T8 := Lib.hid (T7.out.next ht hk2)
    have K8 := Lib.hid (K7.out.trans (hk2.mono fun _ hi => .inl (.inl hi)))
    clear ht hk2 T7 K7 c3
    go_wp2_with fail
    go_loopw [12] (fun i wr => i = .int .i64 0 ∧ wr = w7) (fun _ _ => 0)
    case atStart => exact ⟨rfl, rfl⟩
    case round =>
      obtain ⟨rfl, rfl⟩ := hrel
      go_wp2_with fail
      go_ret
      exact ⟨rfl, T8.out.t.mono HD.out fun _ hi => .inl (.inl hi), K8.out⟩
end
end Go.Proofs.Ytaipcciokhkmnaa
