import Derived.Test.YtogdjjanladghaaNumsMut
import Derived.Deep.RegionWith
namespace Go.Proofs.Ytogdjjanladghaa
open Go.RowKit

/-- The bytes f, and then 77. -/
def tail77 (n : Nat) (f : Nat → Nat) : Nat → Nat := fun i => if i < n then f i else 77
theorem tail77_lt {n : Nat} {f : Nat → Nat} (hf : ∀ i, f i < 256) : ∀ i, tail77 n f i < 256 := by
  intro i; unfold tail77; split
  · exact hf i
  · omega
theorem vals_tail77 (n : Nat) (f : Nat → Nat) : vals8 f n ++ vals8 (lit8 [77, 77, 77, 77, 77]) 5 = vals8 (tail77 n f) (n + 5) := by
  apply List.ext_getElem?
  intro i
  by_cases h1 : i < n
  · rw [List.getElem?_append_left (by rw [vals8_length]; exact h1), vals8_get h1, vals8_get (by omega)]
    unfold tail77; rw [if_pos h1]
  · rw [List.getElem?_append_right (by rw [vals8_length]; omega), vals8_length]
    by_cases h2 : i < n + 5
    · rw [vals8_get (show i - n < 5 by omega), vals8_get h2]
      unfold tail77; rw [if_neg h1]
      have : lit8 [77, 77, 77, 77, 77] (i - n) = 77 := by
        have h3 : i - n < 5 := by omega
        generalize i - n = j at h3
        match j, h3 with
        | 0, _ => rfl
        | 1, _ => rfl
        | 2, _ => rfl
        | 3, _ => rfl
        | 4, _ => rfl
      rw [this]
    · rw [List.getElem?_eq_none (by rw [vals8_length]; omega), List.getElem?_eq_none (by rw [vals8_length]; omega)]
theorem lit77_row (w : World) (t : TypeId) : Row (w.alloc (.cells #[.int .u8 77, .int .u8 77, .int .u8 77, .int .u8 77, .int .u8 77] t)) (some ⟨w.heap.size, 0, none⟩) 5 (lit8 [77, 77, 77, 77, 77]) :=
  (Own.lit w 0 t [77, 77, 77, 77, 77] (Nat.zero_le _) (by decide)).row (Nat.le_refl _)

/-- '[]byte' of nothing, and bytes that came in appended to it. -/
theorem at_append_empty {P : Program} (w : World) {ops : Array Oper} {rest : List Oper} {o : Oper} {a : Act} {Q : Exit → Act → World → Prop} (hgd : o.guard = none) (s x : Operand) (t : TypeId)
    (ho : o.op = .call { callee := .builtin .append, args := #[s, x], argTypes := #[t, t] })
    (e : TypeId) (i : TypeInfo) (ht : P.underlying t = some (.slice e)) (hi : P.info? e = some i) (hz : i.zero = some (.int .u8 0)) (hsize : i.size = 1) (hby : i.bytes = 1)
    (hs : a.eval s = .slice (some ⟨w.heap.size, 0, none⟩) 0 0) (A : Option Addr) (n c : Nat) (f : Nat → Nat) (hx : a.eval x = .slice A n c) (hR : Row w A n f) (hlen : n ≤ 1000000)
    (h : ∀ v' w', w'.ownsRow w.heap.size e 1 v' n (vals8 f n) → Below w.heap.size w w' → wpList P ops Q rest (a.put o.dst v') w') :
    wpList P ops Q (o :: rest) a (w.alloc (.cells #[] e)) := by
  refine at_append_row _ hgd s x t ho w.heap.size e i ht hi hz hsize hby _ 0 [] hs (World.ownsRow_made w #[] 0 (Nat.le_refl _) (Nat.zero_le _) rfl) A n c f hx (hR.below ((Below.refl _ _).alloc (Nat.le_refl _) _)) (by omega) (by simp) fun v' w' h1 h2 _ => ?_
  rw [Nat.zero_add, List.nil_append] at h1
  refine h v' w' h1 (((Below.refl _ _).alloc (Nat.le_refl _) _).grown h2 (by simp) fun k hk => ?_)
  simp only [Value.ownBlock, Option.some.injEq] at hk
  omega
/-- Five bytes 77, appended to bytes of the call's own. -/
theorem at_append_77 {P : Program} (w : World) {ops : Array Oper} {rest : List Oper} {o : Oper} {a : Act} {Q : Exit → Act → World → Prop} (hgd : o.guard = none) (s x : Operand) (t : TypeId)
    (ho : o.op = .call { callee := .builtin .append, args := #[s, x], argTypes := #[t, t] })
    (e : TypeId) (i : TypeInfo) (ht : P.underlying t = some (.slice e)) (hi : P.info? e = some i) (hz : i.zero = some (.int .u8 0)) (hsize : i.size = 1) (hby : i.bytes = 1)
    (B : Nat) (v : Value) (n : Nat) (f : Nat → Nat) (hf : ∀ i, f i < 256) (hs : a.eval s = v) (hown : w.ownsRow B e 1 v n (vals8 f n)) (hBw : B ≤ w.heap.size) (hx : a.eval x = .slice (some ⟨w.heap.size, 0, none⟩) 5 5) (hlen : n ≤ 100000)
    (h : ∀ A' c' w', n + 5 ≤ c' → c' ≤ maxLen → Own w' B A' (n + 5) (tail77 n f) → Below B w w' → wpList P ops Q rest (a.put o.dst (.slice A' (n + 5) c')) w') :
    wpList P ops Q (o :: rest) a (w.alloc (.cells #[.int .u8 77, .int .u8 77, .int .u8 77, .int .u8 77, .int .u8 77] e)) := by
  refine at_append_row _ hgd s x t ho B e i ht hi hz hsize hby v n (vals8 f n) hs (hown.alloc _) _ 5 5 _ hx (lit77_row w e) (by omega) (by simp; omega) fun v' w' h1 h2 _ => ?_
  rw [vals_tail77] at h1
  obtain ⟨A', c', rfl, h3, h4, h5⟩ := own_of_row (tail77_lt hf) h1
  exact h A' c' w' h3 h4 h5 (((Below.refl _ _).alloc hBw _).grown h2 (by simp; omega) fun k hk => (hown.lt k hk).1)

set_option maxRecDepth 100000 in
set_option maxHeartbeats 2000000 in
theorem numsPut_any (A : Option Addr) (n c : Nat) (at_ v : Int) (f : Nat → Nat) (w : World) (hR : Row w A n f) (_hcap : n ≤ c ∧ c ≤ 9223372036854775807) (_h0 : -9223372036854775808 ≤ at_ ∧ at_ ≤ 9223372036854775807) (hv : 0 ≤ v ∧ v < 4294967296) :
    Calls Try.prog 4 #[.slice A n c, .int .i64 at_, .int .u32 v] w fun e w' => e = .returned (.bool true) ∧ Below w.heap.size w w' := by
  have HR := Lib.hid hR
  clear hR
  by_cases hn : 20000 < n
  · have d1 : decide ((20000 : Int) < n) = true := by simp; omega
    go_enter Try.func4, Try.ntmps4
    go_wp2
    go_ret
    exact ⟨rfl, Below.refl _ _⟩
  have d1 : decide ((20000 : Int) < n) = false := by simp; omega
  have hn2 : n ≤ 20000 := by omega
  have hn' : n ≤ 140737488355328 := by omega
  have HV := Lib.hid hv
  have HT := Lib.hid (vals_tail77 n f)
  have HF := Lib.hid (tail77_lt (n := n) HR.out.1)
  clear hn hv
  obtain ⟨i0, hi0, hz0, hz1, hz2⟩ := info_parts u8_info
  go_enter Try.func4, Try.ntmps4
  go_wp2_with fail
  refine wp_loop_rounds 3 ?_
  rw [rounds_succ]
  go_wp2_with (first
    | (at_builtin; refine at_append_empty w rfl (.tmp 19) (.tmp 20) _ rfl 5 i0 Try.underlying22 hi0 hz0 hz1 hz2 rfl A n c f rfl HR.out (by omega) ?_; intro v1 w1 h1 h2; have H1 := Lib.hid h1; have HB1 := Lib.hid h2; clear h1 h2)
    | (at_builtin; refine at_append_77 w1 rfl (.tmp 21) (.tmp 22) _ rfl 5 i0 Try.underlying22 hi0 hz0 hz1 hz2 w.heap.size v1 n f HR.out.1 rfl H1.out HB1.out.size rfl (by omega) ?_; intro A1 c1 w2 h1 h2 h3 h4; have HO2 := Lib.hid h3; have HB2 := Lib.hid (HB1.out.trans h4); have hc1 : n ≤ c1 := (by omega); have hc2 : c1 ≤ 9223372036854775807 := (by unfold maxLen at h2; omega); have HR2 := Lib.hid (HR.out.below HB2.out); clear h1 h2 h3 h4 H1)
    | (at_builtin; refine at_append_empty w2 rfl (.tmp 24) (.tmp 25) _ rfl 5 i0 Try.underlying22 hi0 hz0 hz1 hz2 rfl A n c f rfl HR2.out (by omega) ?_; intro v3 w3 h1 h2; have H3 := Lib.hid h1; have HB3 := Lib.hid h2; clear h1 h2)
    | (at_builtin; refine at_append_77 w3 rfl (.tmp 26) (.tmp 27) _ rfl 5 i0 Try.underlying22 hi0 hz0 hz1 hz2 w2.heap.size v3 n f HR.out.1 rfl H3.out HB3.out.size rfl (by omega) ?_; intro A2 c2 w4 h1 h2 h3 h4; have HO4 := Lib.hid h3; have HB4 := Lib.hid (HB3.out.trans h4); have hc3 : n ≤ c2 := (by omega); have hc4 : c2 ≤ 9223372036854775807 := (by unfold maxLen at h2; omega); clear h1 h2 h3 h4 H3))
  have s1 : (n : Int) ≤ c1 := by omega
  have s2 : (n : Int) ≤ c2 := by omega
  have HAP := Lib.hid (apart_of HO2.out HO4.out)
  have HX4 := Lib.hid (HO2.out.below (HB4.out))
  have HBW := Lib.hid (HB2.out.trans (HB4.out.mono HB2.out.size))
  go_region_with (first
    | (go_at_call 18; refine (Put16_any _ _ _ (n + 5) w.heap.size _ _ (tail77 n f) _ hn' (by omega) (by exact HX4.out) HV.out.1 HV.out.2).mono ?_; rintro e w5 ⟨rfl, o, m⟩; have HX5 := Lib.hid o; have HY5 := Lib.hid (Own.mut (by exact HO4.out) m HAP.out.symm); have HB5 := Lib.hid m; clear o m)
    | (go_at_call 19; refine (rPut16_any _ _ _ (n + 5) w2.heap.size _ _ (tail77 n f) _ hn' (by omega) (by exact HY5.out) HV.out.1 HV.out.2).mono ?_; rintro e w6 ⟨rfl, o, m⟩; have HY6 := Lib.hid o; have HX6 := Lib.hid (Own.mut (by exact HX5.out) m HAP.out); have HB6 := Lib.hid m; clear o m))
  have HB57 := Lib.hid ((HBW.out.drew).trans (HB5.out.below (Nat.le_refl _) (by exact HBW.out.size)))
  have HB7 := Lib.hid (HB57.out.trans (HB6.out.below HB2.out.size HB57.out.size))
  clear HB1 HB3 HB5 HB6 HB57 HO2 HO4 HX4 HX5 HY5 HR2 s1 s2 hc1 hc2 hc3 hc4
  go_wp2_with fail
  refine (Same_yes _ _ _ _ _ _ _ _ (by omega) ((show Own w6 _ _ _ _ from HX6.out).row (Nat.le_refl _)) ((show Own w6 _ _ _ _ from HY6.out).row (Nat.le_refl _)) (fun _ _ => rfl)).mono ?_
  rintro e w' ⟨rfl, d3, rfl⟩
  have HB8 := Lib.hid (HB7.out.drewN d3)
  go_wp2_with fail
  have HRu := Lib.hid (HR.out.below HB8.out)
  clear HB7 HB4 HBW HB2 HAP HX6 HY6
  generalize w6.drewN d3 = u at HB8 HRu ⊢
  rw [rounds_succ]
  go_wp2_with (first
    | (at_builtin; refine at_append_empty u rfl (.tmp 19) (.tmp 20) _ rfl 5 i0 Try.underlying22 hi0 hz0 hz1 hz2 rfl A n c f rfl HRu.out (by omega) ?_; intro x1 u1 h1 h2; have H1 := Lib.hid h1; have HC1 := Lib.hid h2; clear h1 h2)
    | (at_builtin; refine at_append_77 u1 rfl (.tmp 21) (.tmp 22) _ rfl 5 i0 Try.underlying22 hi0 hz0 hz1 hz2 u.heap.size x1 n f HR.out.1 rfl H1.out HC1.out.size rfl (by omega) ?_; intro D1 e1 u2 h1 h2 h3 h4; have HO2 := Lib.hid h3; have HC2 := Lib.hid (HC1.out.trans h4); have hc1 : n ≤ e1 := (by omega); have hc2 : e1 ≤ 9223372036854775807 := (by unfold maxLen at h2; omega); have HR2 := Lib.hid (HRu.out.below HC2.out); clear h1 h2 h3 h4 H1)
    | (at_builtin; refine at_append_empty u2 rfl (.tmp 24) (.tmp 25) _ rfl 5 i0 Try.underlying22 hi0 hz0 hz1 hz2 rfl A n c f rfl HR2.out (by omega) ?_; intro x3 u3 h1 h2; have H3 := Lib.hid h1; have HC3 := Lib.hid h2; clear h1 h2)
    | (at_builtin; refine at_append_77 u3 rfl (.tmp 26) (.tmp 27) _ rfl 5 i0 Try.underlying22 hi0 hz0 hz1 hz2 u2.heap.size x3 n f HR.out.1 rfl H3.out HC3.out.size rfl (by omega) ?_; intro D2 e2 u4 h1 h2 h3 h4; have HO4 := Lib.hid h3; have HC4 := Lib.hid (HC3.out.trans h4); have hc3 : n ≤ e2 := (by omega); have hc4 : e2 ≤ 9223372036854775807 := (by unfold maxLen at h2; omega); clear h1 h2 h3 h4 H3))
  have s1 : (n : Int) ≤ e1 := by omega
  have s2 : (n : Int) ≤ e2 := by omega
  have HAP := Lib.hid (apart_of HO2.out HO4.out)
  have HX4 := Lib.hid (HO2.out.below (HC4.out))
  have HBW := Lib.hid (HC2.out.trans (HC4.out.mono HC2.out.size))
  go_region_with (first
    | (go_at_call 20; refine (Put32_any _ _ _ (n + 5) u.heap.size _ _ (tail77 n f) _ hn' (by omega) (by exact HX4.out) HV.out.1 HV.out.2).mono ?_; rintro e u5 ⟨rfl, o, m⟩; have HX5 := Lib.hid o; have HY5 := Lib.hid (Own.mut (by exact HO4.out) m HAP.out.symm); have HC5 := Lib.hid m; clear o m)
    | (go_at_call 21; refine (rPut32_any _ _ _ (n + 5) u2.heap.size _ _ (tail77 n f) _ hn' (by omega) (by exact HY5.out) HV.out.1 HV.out.2).mono ?_; rintro e u6 ⟨rfl, o, m⟩; have HY6 := Lib.hid o; have HX6 := Lib.hid (Own.mut (by exact HX5.out) m HAP.out); have HC6 := Lib.hid m; clear o m))
  have HC57 := Lib.hid ((HBW.out.drew).trans (HC5.out.below (Nat.le_refl _) (by exact HBW.out.size)))
  have HC7 := Lib.hid (HC57.out.trans (HC6.out.below HC2.out.size HC57.out.size))
  clear HC1 HC3 HC5 HC6 HC57 HO2 HO4 HX4 HX5 HY5 HR2 s1 s2 hc1 hc2 hc3 hc4
  go_wp2_with fail
  refine (Same_yes _ _ _ _ _ _ _ _ (by omega) ((show Own u6 _ _ _ _ from HX6.out).row (Nat.le_refl _)) ((show Own u6 _ _ _ _ from HY6.out).row (Nat.le_refl _)) (fun _ _ => rfl)).mono ?_
  rintro e w' ⟨rfl, d4, rfl⟩
  have HC8 := Lib.hid (HB8.out.trans ((HC7.out.drewN d4).mono HB8.out.size))
  go_wp2_with fail
  rw [rounds_succ]
  go_wp2_with fail
  go_ret
  exact ⟨rfl, HC8.out⟩

end Go.Proofs.Ytogdjjanladghaa
