import Derived.Test.YtaipcciokhkmnaaDDoes2
namespace Go.Proofs.Ytaipcciokhkmnaa
open Go.RowKit

section
variable {D : World → Addr → DS → Av → Prop}
theorem Both.callD2 {w : World} {a : Addr} {b : Nat} {sd sd' sr : DS} {G : Av} (h : Both D w a b sd sr G) {f : FuncId} {args : Array Value} {Q : Ending → Prop}
    (hc : ∀ av, D w a sd av → (∀ i, G i → av i) → Calls Try.prog f args w fun e w' => Q e ∧ D w' a sd' av ∧ Keep av w w') : Calls Try.prog f args w fun e w' => Q e ∧ Both D w' a b sd' sr G ∧ Keep G w w' := by
  obtain ⟨F, h⟩ := h
  refine (hc _ h.d fun _ hi => .inl hi).mono ?_
  rintro e w' ⟨he, hd, hk⟩
  exact ⟨he, ⟨F, h.dNext hd hk⟩, hk.mono fun _ hi => .inl hi⟩
theorem bool_row : (Try.prog.info? 4).map (fun i => (i.zero, i.size, i.bytes)) = some (some (.bool false), 1, 1) := by kernel_rfl
def bvals (kl : List Bool) : List Value := kl.map Value.bool
theorem bvals_news {w : World} {g o : Nat} {kl : List Bool} (h : ∀ i x, kl[i]? = some x → w.cell? ⟨g, o + i, none⟩ = some (.bool x)) : ∀ j u, (bvals kl)[j]? = some u → w.cell? ((⟨g, o, none⟩ : Addr).add j) = some u := by
  intro j u hu
  have hadd : (⟨g, o, none⟩ : Addr).add j = ⟨g, o + j, none⟩ := by unfold Addr.add; split <;> simp_all
  unfold bvals at hu
  rw [List.getElem?_map] at hu
  obtain ⟨x, hx, rfl⟩ := Option.map_eq_some_iff.1 hu
  rw [hadd]
  exact h j x hx
theorem bvals_one (kl : List Bool) : ∀ u ∈ bvals kl, u.oneCell' = true := by
  intro u hu
  obtain ⟨x, _, rfl⟩ := List.mem_map.1 hu
  rfl
theorem bools_of_row {w : World} {base gg n cap : Nat} {kl : List Bool} (h : w.ownsRow base 4 1 (.slice (some ⟨gg, 0, none⟩) n cap) n (bvals kl)) : Bools w (some ⟨gg, 0, none⟩) kl := by
  intro _
  obtain ⟨h1, h2 | ⟨g, c, cur, e, hb, hg, _, _, hc, ht⟩⟩ := h
  · cases h2.1
  · injection e with e e2 e3
    injection e with e
    injection e with e
    subst e
    refine ⟨gg, 0, rfl, ?_, fun i x hx => ?_⟩
    · rcases Nat.lt_or_ge gg w.heap.size with q | q
      · exact q
      · rw [Array.getElem?_eq_none q] at hg; cases hg
    · rw [cell_of_row w gg _ cur _ (0, 0) hg, Nat.zero_add, ← Array.getElem?_toList]
      have : (bvals kl)[i]? = some (.bool x) := by unfold bvals; rw [List.getElem?_map, hx]; rfl
      rw [← ht] at this
      have hlt : i < n * 1 := by
        rcases Nat.lt_or_ge i (n * 1) with q | q
        · exact q
        · rw [List.getElem?_eq_none (by rw [List.length_take]; omega)] at this; cases this
      rw [List.getElem?_take_of_lt hlt] at this
      exact this
set_option maxRecDepth 100000 in
set_option maxHeartbeats 1000000 in
theorem does7 (hD : DiskSays D) (w : World) (a : Addr) (b : Nat) (s : DS) (G : Av) (kind f km kc : Nat) (p : Int) (K : Option Addr) (kl : List Bool) (hT : Both D w a b s s G) (hG : ∀ i, G i → i < w.heap.size) (hk : kind < 256) (q7 : kind % 8 = 7) (hkm : km = kl.length) (hK : Bools w K kl) (hKG : ∀ g o, K = some ⟨g, o, none⟩ → G g) (hpos : 0 < km) (h8 : km ≤ 140737488355328) :
    Calls Try.prog 16 #[.pointer (some a), .pointer (some ⟨b, 0, none⟩), .agg #[.int .u8 (kind : Int), .int .i64 p, .int .u32 (f : Int), .slice K km kc]] w fun e w' => e = .returned (.bool true) ∧ Both D w' a b (s.crash kl) (s.crash kl) G ∧ Keep G w w' := by
  have HD := Lib.hid hD
  have T0 := Lib.hid (Does.start hD (kind := kind) (f := f) (km := km) (kc := kc) (p := p) (K := K) (t := 41) hT hG)
  have s4 : ((kind : Int) % 8 == 4) = false := by rw [beq_eq_false_iff_ne]; omega
  have s5 : ((kind : Int) % 8 == 5) = false := by rw [beq_eq_false_iff_ne]; omega
  have s6 : ((kind : Int) % 8 == 6) = false := by rw [beq_eq_false_iff_ne]; omega
  have s7 : ((kind : Int) % 8 == 7) = true := by rw [beq_iff_eq]; omega
  have HKM := Lib.hid hkm
  have HKG := Lib.hid hKG
  obtain ⟨bK, oK, rfl, lK, hcK⟩ := hK (by omega)
  have GK : Hid (G bK) := Lib.hid (hKG _ _ rfl)
  have HCK := Lib.hid hcK
  clear hD hT hG q7 hkm hK hKG hcK
  have BE : Hid (Below (w.heap.size + 1) (w.alloc (.cells #[.int .u8 (kind : Int), .int .i64 p, .int .u32 (f : Int), .slice (some ⟨bK, oK, none⟩) km kc] 41)) ((w.alloc (.cells #[.int .u8 (kind : Int), .int .i64 p, .int .u32 (f : Int), .slice (some ⟨bK, oK, none⟩) km kc] 41)).alloc (.cells #[] 4))) := Lib.hid ((Below.refl _ _).alloc (by simp) _)
  have SE : Hid ((w.alloc (.cells #[.int .u8 (kind : Int), .int .i64 p, .int .u32 (f : Int), .slice (some ⟨bK, oK, none⟩) km kc] 41)).heap.size = w.heap.size + 1) := Lib.hid (by simp)
  have CK : Hid (∀ i x, kl[i]? = some x → ((w.alloc (.cells #[.int .u8 (kind : Int), .int .i64 p, .int .u32 (f : Int), .slice (some ⟨bK, oK, none⟩) km kc] 41)).alloc (.cells #[] 4)).cell? ⟨bK, oK + i, none⟩ = some (.bool x)) := Lib.hid fun i x hx => alloc2_cell (HCK.out i x hx) _ _
  have c3 := T0.out.c3
  have c3b := alloc1_cell c3 (.cells #[] 4)
  have O1 : Hid (((w.alloc (.cells #[.int .u8 (kind : Int), .int .i64 p, .int .u32 (f : Int), .slice (some ⟨bK, oK, none⟩) km kc] 41)).alloc (.cells #[] 4)).ownsRow (w.heap.size + 1) 4 1 (.slice (some ⟨w.heap.size + 1, 0, none⟩) 0 0) 0 []) := Lib.hid ⟨rfl, .inr ⟨w.heap.size + 1, 0, #[], rfl, Nat.le_refl _, by have h := heap_alloc_new (w.alloc (.cells #[.int .u8 (kind : Int), .int .i64 p, .int .u32 (f : Int), .slice (some ⟨bK, oK, none⟩) km kc] 41)) (.cells #[] 4); rw [SE.out] at h; exact h, Nat.le_refl _, Nat.zero_le _, rfl, rfl⟩⟩
  have N1 := Lib.hid (bvals_news CK.out)
  obtain ⟨i0, hi0, hzz⟩ := Option.map_eq_some_iff.1 bool_row
  simp only [Prod.mk.injEq] at hzz
  obtain ⟨hz0, hz1, hz2⟩ := hzz
  have HZ0 := Lib.hid hz0
  have HZ1 := Lib.hid hz1
  have HZ2 := Lib.hid hz2
  have HI0 := Lib.hid hi0
  clear hz0 hz1 hz2 hi0
  have tok0 : True := trivial
  go_enter Try.func16, Try.ntmps16
  go_wp2_with (at_builtin; have _t := tok0; refine wpList_append_lies _ rfl (.tmp 59) (.tmp 61) 39 rfl (w.heap.size + 1) 4 i0 _ 1 1 Try.underlying39 HI0.out HZ0.out HZ1.out HZ2.out rfl (by omega) _ 0 [] rfl O1.out ⟨bK, oK, none⟩ km kc (bvals kl) rfl (by unfold bvals; rw [List.length_map, HKM.out]; omega) N1.out (bvals_one _) hpos (by simp only [maxLen]; omega) (by omega) (by simp) (w.heap.size + 2) (by simp) ?_; intro gg cap w5 hown1 hgrow hat hltg; clear tok0)
  rw [List.nil_append, Nat.zero_add] at hown1
  have B5 := Lib.hid (bools_of_row hown1)
  have BW : Below (w.alloc (.cells #[.int .u8 (kind : Int), .int .i64 p, .int .u32 (f : Int), .slice (some ⟨bK, oK, none⟩) km kc] 41)).heap.size (w.alloc (.cells #[.int .u8 (kind : Int), .int .i64 p, .int .u32 (f : Int), .slice (some ⟨bK, oK, none⟩) km kc] 41)) w5 := by
    rw [SE.out]
    exact BE.out.grown hgrow (by simp) (by intro g e; cases e; exact Nat.le_refl _)
  have T1 := Lib.hid (T0.out.grow HD.out BW)
  have K5 := Lib.hid T1.out.k
  have TG := (T0.out.t.new' HD.out BW).mono HD.out (G' := fun i => (G i ∨ i = gg) ∨ i = w.heap.size) (by
    rw [SE.out]
    rintro i ((q | rfl) | rfl)
    · exact .inl (.inl q)
    · refine .inr ⟨?_, hltg⟩
      rcases hat with q | q
      · have q' : some (w.heap.size + 1) = some i := q
        injection q' with q'
        omega
      · omega
    · exact .inl (.inr rfl))
  have T6 : Hid (Does D w5 a b s s (fun i => G i ∨ i = gg) w.heap.size kind p f (some ⟨bK, oK, none⟩) km kc w5) := Lib.hid ⟨TG, Keep.refl _ _, T1.out.c0, T1.out.c1, T1.out.c2, T1.out.c3⟩
  have CK5 : Hid (Bools w5 (some ⟨bK, oK, none⟩) kl) := Lib.hid fun _ => ⟨bK, oK, rfl, Nat.lt_of_lt_of_le lK (by have := BW.size; have := SE.out; omega), fun i x hx => (K5.out.cell (p := ⟨bK, oK + i, none⟩) GK.out).trans (HCK.out i x hx)⟩
  clear hown1 BW TG hat hltg hgrow T1 T0 c3 c3b O1 N1 CK BE SE
  generalize w.heap.size = gx at T6 ⊢
  refine (T6.out.t.callD2 fun av h hv => HD.out.crash a s av _ km cap kl _ h HKM.out B5.out (by intro _ g o e; cases e; exact hv _ (.inl (.inr rfl))) h8).mono ?_
  rintro e w6 ⟨rfl, ht, hk2⟩
  have T7 := Lib.hid (T6.out.next ht hk2)
  have B7 : Hid (∀ i x, kl[i]? = some x → w6.cell? ⟨gg, i, none⟩ = some (.bool x)) := Lib.hid fun i x hx => by
    obtain ⟨bb, oo, e, _, hc⟩ := B5.out (by rcases Nat.eq_zero_or_pos kl.length with q | q; (rw [List.eq_nil_of_length_eq_zero q] at hx; cases hx); exact q)
    cases e
    have := hc i x hx
    rw [Nat.zero_add] at this
    exact (hk2.cell (p := ⟨gg, i, none⟩) (.inl (.inr rfl))).trans this
  have CK7 : Hid (Bools w6 (some ⟨bK, oK, none⟩) kl) := Lib.hid fun h0 => by
    obtain ⟨bb, oo, e, hl, hc⟩ := CK5.out h0
    cases e
    exact ⟨bK, oK, rfl, Nat.lt_of_lt_of_le hl hk2.size, fun i x hx => (hk2.cell (p := ⟨bK, oK + i, none⟩) (.inl (.inl GK.out))).trans (hc i x hx)⟩
  have K7 := Lib.hid (K5.out.trans (hk2.mono fun _ hi => .inl (.inl hi)))
  have c3 := T7.out.c3
  clear ht hk2 T6 B5 CK5 K5
  go_wp2_with fail
  refine (T7.out.t.callR HD.out fun av h hv => rCrash_any _ b s av _ km kc kl h HKM.out CK7.out (by intro _ g o e; cases e; exact hv _ (.inl (.inl GK.out))) h8).mono ?_
  rintro e w7 ⟨rfl, ht, hk2⟩
  have T8 := Lib.hid (T7.out.next ht hk2)
  have B8 : Hid (∀ i x, kl[i]? = some x → w7.cell? ⟨gg, i, none⟩ = some (.bool x)) := Lib.hid fun i x hx => (hk2.cell (p := ⟨gg, i, none⟩) (.inl (.inr rfl))).trans (B7.out i x hx)
  have CK8 : Hid (∀ i x, kl[i]? = some x → w7.cell? ⟨bK, oK + i, none⟩ = some (.bool x)) := Lib.hid fun i x hx => by
    obtain ⟨bb, oo, e, hl, hc⟩ := CK7.out (by rcases Nat.eq_zero_or_pos kl.length with q | q; (rw [List.eq_nil_of_length_eq_zero q] at hx; cases hx); exact q)
    cases e
    exact (hk2.cell (p := ⟨bK, oK + i, none⟩) (.inl (.inl GK.out))).trans (hc i x hx)
  have K8 := Lib.hid (K7.out.trans (hk2.mono fun _ hi => .inl (.inl hi)))
  clear ht hk2 T7 B7 CK7 K7 c3
  have c3 := T8.out.c3
  go_wp2_with fail
  go_loopw [12] (fun i wr => ∃ k : Nat, k ≤ km ∧ i = .int .i64 k ∧ ∃ q, wr = w7.drewN q) (fun i _ => km - (intOf i).toNat)
  case atStart => exact ⟨0, Nat.zero_le _, rfl, 0, rfl⟩
  case round =>
    obtain ⟨k, hk, rfl, q, rfl⟩ := hrel
    by_cases hlt : k < km
    · have hgK : kl[k]? = some (kl[k]'(by have := HKM.out; omega)) := List.getElem?_eq_getElem _
      generalize kl[k]'(by have := HKM.out; omega) = x at hgK
      have d1 := B8.out k x hgK
      have d2 := CK8.out k x hgK
      have j1 : (0 : Int) ≤ k := by omega
      have j2 : (k : Int) < km := by omega
      have t5 : (x != x) = false := by cases x <;> rfl
      go_wp2_with fail
      go_quiet (fail)
      go_wp2_with fail
      go_roundw
      case rel => exact ⟨k + 1, by omega, by go_num, q + nq, rfl⟩
      case measure => simp [intOf]; omega
    · obtain rfl : k = km := by omega
      go_wp2_with fail
      go_ret
      exact ⟨rfl, (T8.out.t.mono HD.out fun _ hi => .inl (.inl hi)).drewN HD.out q, K8.out.trans ⟨rfl, rfl, rfl, Nat.le_refl _, fun _ _ => rfl⟩⟩
end
end Go.Proofs.Ytaipcciokhkmnaa
