import Derived.Test.YtaipcciokhkmnaaDAlike
namespace Go.Proofs.Ytaipcciokhkmnaa
open Go.RowKit

/-- What an act makes of a disk. -/
def DS.does (s : DS) (kind : Nat) (p : Int) (f : Nat) (kl : List Bool) : DS :=
  if kind % 8 = 4 then s.flush else if kind % 8 = 5 then s else if kind % 8 = 6 then s.power p else if kind % 8 = 7 then s.crash kl else s.write p (fillB f)
section
variable {D : World → Addr → DS → Av → Prop}
/-- What every case of 'does' begins with. -/
structure Does (D : World → Addr → DS → Av → Prop) (w : World) (a : Addr) (b : Nat) (sd sr : DS) (G : Av) (gx : Nat) (kind : Nat) (p : Int) (f : Nat) (K : Option Addr) (km kc : Nat) (w0 : World) : Prop where
  t : Both D w a b sd sr (fun i => G i ∨ i = gx)
  k : Keep G w0 w
  c0 : w.cell? ⟨gx, 0, none⟩ = some (.int .u8 (kind : Int))
  c1 : w.cell? ⟨gx, 1, none⟩ = some (.int .i64 p)
  c2 : w.cell? ⟨gx, 2, none⟩ = some (.int .u32 (f : Int))
  c3 : w.cell? ⟨gx, 3, none⟩ = some (.slice K km kc)
theorem Does.next {w w' w0 : World} {a : Addr} {b gx kind f km kc : Nat} {p : Int} {K : Option Addr} {sd sr sd' sr' : DS} {G : Av} (h : Does D w a b sd sr G gx kind p f K km kc w0) (ht : Both D w' a b sd' sr' (fun i => G i ∨ i = gx)) (hk : Keep (fun i => G i ∨ i = gx) w w') : Does D w' a b sd' sr' G gx kind p f K km kc w0 :=
  ⟨ht, h.k.trans (hk.mono fun _ hi => .inl hi), (hk.cell (.inr rfl)).trans h.c0, (hk.cell (.inr rfl)).trans h.c1, (hk.cell (.inr rfl)).trans h.c2, (hk.cell (.inr rfl)).trans h.c3⟩
theorem Does.start (hD : DiskSays D) {w : World} {a : Addr} {b kind f km kc : Nat} {p : Int} {K : Option Addr} {s : DS} {G : Av} {t : TypeId} (hT : Both D w a b s s G) (hG : ∀ i, G i → i < w.heap.size) : Does D (w.alloc (.cells #[.int .u8 (kind : Int), .int .i64 p, .int .u32 (f : Int), .slice K km kc] t)) a b s s G w.heap.size kind p f K km kc w := by
  have hb : Below w.heap.size w (w.alloc (.cells #[.int .u8 (kind : Int), .int .i64 p, .int .u32 (f : Int), .slice K km kc] t)) := (Below.refl _ _).alloc (Nat.le_refl _) _
  have hc := fun j => cell_of_row _ w.heap.size j _ _ (0, 0) (heap_alloc_new w (.cells #[.int .u8 (kind : Int), .int .i64 p, .int .u32 (f : Int), .slice K km kc] t))
  refine ⟨(hT.new' hD hb).mono hD ?_, (Keep.of_below hb).mono hG, (hc 0).trans (by rfl), (hc 1).trans (by rfl), (hc 2).trans (by rfl), (hc 3).trans (by rfl)⟩
  rintro i (q | rfl)
  · exact .inl q
  · exact .inr ⟨Nat.le_refl _, by simp⟩
theorem Does.done (hD : DiskSays D) {w w0 : World} {a : Addr} {b gx kind f km kc : Nat} {p : Int} {K : Option Addr} {sd sr : DS} {G : Av} (h : Does D w a b sd sr G gx kind p f K km kc w0) : Both D w a b sd sr G ∧ Keep G w0 w := ⟨h.t.mono hD fun _ hi => .inl hi, h.k⟩
set_option maxRecDepth 100000 in
set_option maxHeartbeats 1000000 in
theorem does4 (hD : DiskSays D) (w : World) (a : Addr) (b : Nat) (s : DS) (G : Av) (kind f km kc : Nat) (p : Int) (K : Option Addr) (hT : Both D w a b s s G) (hG : ∀ i, G i → i < w.heap.size) (ha : s.acts < 1000000) (hk : kind < 256) (q4 : kind % 8 = 4) :
    Calls Try.prog 16 #[.pointer (some a), .pointer (some ⟨b, 0, none⟩), .agg #[.int .u8 (kind : Int), .int .i64 p, .int .u32 (f : Int), .slice K km kc]] w fun e w' => e = .returned (.bool true) ∧ Both D w' a b s.flush s.flush G ∧ Keep G w w' := by
  have HD := Lib.hid hD
  have T0 := Lib.hid (Does.start hD (kind := kind) (f := f) (km := km) (kc := kc) (p := p) (K := K) (t := 41) hT hG)
  have s4 : ((kind : Int) % 8 == 4) = true := by rw [beq_iff_eq]; omega
  clear hD hT hG q4
  go_enter Try.func16, Try.ntmps16
  go_wp2_with fail
  refine (T0.out.t.callD fun av h => HD.out.flush a s av _ h ha).mono ?_
  rintro e w2 ⟨rfl, ht, hk2, _⟩
  have T2 := Lib.hid (T0.out.next ht hk2)
  clear ht hk2 T0
  go_wp2_with fail
  refine (T2.out.t.callR HD.out fun av h _ => rFlush_any _ b s av h ha).mono ?_
  rintro e w3 ⟨rfl, ht, hk2⟩
  have T3 := Lib.hid (T2.out.next ht hk2)
  clear ht hk2 T2
  go_wp2_with fail
  go_ret
  exact ⟨by simp, (T3.out.done HD.out).1, (T3.out.done HD.out).2⟩
set_option maxRecDepth 100000 in
set_option maxHeartbeats 1000000 in
theorem does6 (hD : DiskSays D) (w : World) (a : Addr) (b : Nat) (s : DS) (G : Av) (kind f km kc : Nat) (p : Int) (K : Option Addr) (hT : Both D w a b s s G) (hG : ∀ i, G i → i < w.heap.size) (hk : kind < 256) (q6 : kind % 8 = 6) (hp : p ≤ 9223372036854775807) :
    Calls Try.prog 16 #[.pointer (some a), .pointer (some ⟨b, 0, none⟩), .agg #[.int .u8 (kind : Int), .int .i64 p, .int .u32 (f : Int), .slice K km kc]] w fun e w' => e = .returned (.bool true) ∧ Both D w' a b (s.power p) (s.power p) G ∧ Keep G w w' := by
  have HD := Lib.hid hD
  have T0 := Lib.hid (Does.start hD (kind := kind) (f := f) (km := km) (kc := kc) (p := p) (K := K) (t := 41) hT hG)
  have s4 : ((kind : Int) % 8 == 4) = false := by rw [beq_eq_false_iff_ne]; omega
  have s5 : ((kind : Int) % 8 == 5) = false := by rw [beq_eq_false_iff_ne]; omega
  have s6 : ((kind : Int) % 8 == 6) = true := by rw [beq_iff_eq]; omega
  clear hD hT hG q6
  go_enter Try.func16, Try.ntmps16
  go_wp2_with fail
  refine (T0.out.t.callD fun av h => HD.out.power a s av p _ h hp).mono ?_
  rintro e w2 ⟨rfl, ht, hk2, _⟩
  have T2 := Lib.hid (T0.out.next ht hk2)
  have c1 := T2.out.c1
  clear ht hk2 T0
  go_wp2_with fail
  refine (T2.out.t.callR HD.out fun av h _ => rPower_any _ b s av p h hp).mono ?_
  rintro e w3 ⟨rfl, ht, hk2⟩
  have T3 := Lib.hid (T2.out.next ht hk2)
  clear ht hk2 T2
  go_wp2_with fail
  go_ret
  exact ⟨rfl, (T3.out.done HD.out).1, (T3.out.done HD.out).2⟩
end
end Go.Proofs.Ytaipcciokhkmnaa
