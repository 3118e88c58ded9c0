import Derived.Test.YtoopoemkickpkaaDoorCrcLaw4
import Derived.Test.YtoopoemkickpkaaDoorNumsMath3
import Derived.Deep.RegionHeld3
namespace Go.Proofs.YtoopoemkickpkaaDoor
open Go.RowKit CrcM

theorem runs_cut (f : Nat → Nat) {k n : Nat} (h : k ≤ n) : sums [(k, f), (n - k, fun i => f (k + i))] = sums [(n, f)] := by
  show runs (run (run ff f k) (fun i => f (k + i)) (n - k)) [] ^^^ ff = run ff f n ^^^ ff
  rw [show run (run ff f k) (fun i => f (k + i)) (n - k) = run ff f n by rw [← run_append, show k + (n - k) = n by omega]]
  rfl

set_option maxRecDepth 100000 in
set_option maxHeartbeats 600000 in
theorem crcPieces_any (hS : SumSays) (hJ : JoinSays) (A : Option Addr) (n c : Nat) (cut : Int) (f : Nat → Nat) (w : World) (hE : Env w) (hA : Row w A n f) (hcap : n ≤ c ∧ c ≤ 9223372036854775807) (hcut : -9223372036854775808 ≤ cut ∧ cut ≤ 9223372036854775807) :
    Calls Tryd.prog 8 #[.slice A n c, .int .i64 cut] w fun e w' => e = .returned (.bool true) ∧ Below w.heap.size w w' := by
  have HE := Lib.hid hE
  clear hE
  have HS := Lib.hid hS
  have HJ := Lib.hid hJ
  have HA := Lib.hid hA
  clear hS hJ hA
  by_cases h1 : 20000 < n
  · have t1 : decide ((20000 : Int) < n) = true := by simp; omega
    go_enter Tryd.func8, Tryd.ntmps8
    go_wp2_with fail
    refine (crcAwake_any HS.out HJ.out _ HE.out).mono ?_
    rintro e1 w1 ⟨rfl, hb⟩
    have B1 := Lib.hid hb
    clear hb
    go_wp2_with fail
    go_ret
    exact ⟨rfl, B1.out⟩
  have t1 : decide ((20000 : Int) < n) = false := by simp; omega
  by_cases h2 : cut < 0
  · go_enter Tryd.func8, Tryd.ntmps8
    go_wp2_with fail
    refine (crcAwake_any HS.out HJ.out _ HE.out).mono ?_
    rintro e1 w1 ⟨rfl, hb⟩
    have B1 := Lib.hid hb
    clear hb
    go_wp2_with fail
    go_ret
    exact ⟨rfl, B1.out⟩
  obtain ⟨k, rfl⟩ := Int.eq_ofNat_of_zero_le (show 0 ≤ cut by omega)
  clear h2
  by_cases h3 : n < k
  · have t3 : decide ((n : Int) < k) = true := by simp; omega
    go_enter Tryd.func8, Tryd.ntmps8
    go_wp2_with fail
    refine (crcAwake_any HS.out HJ.out _ HE.out).mono ?_
    rintro e1 w1 ⟨rfl, hb⟩
    have B1 := Lib.hid hb
    clear hb
    go_wp2_with fail
    go_ret
    exact ⟨rfl, B1.out⟩
  have t3 : decide ((n : Int) < k) = false := by simp; omega
  have k1 : k ≤ n := by omega
  have n1 : n ≤ 20000 := by omega
  have s1 : (0 : Int) ≤ k := by omega
  have s2 : (k : Int) ≤ n := by omega
  have s3 : (k : Int) ≤ c := by omega
  have s4 : (n : Int) ≤ c := by omega
  obtain ⟨A', hA'⟩ : ∃ A', (if c = k then A else Option.map (fun x => x.add k) A) = A' := ⟨_, rfl⟩
  have hAA : k < n → ∀ b o, A = some ⟨b, o, none⟩ → A' = some ⟨b, o + k, none⟩ := by
    intro hlt b o e
    rw [← hA', if_neg (by omega), e]
    exact congrArg some (add_plain' b o k)
  have HAA := Lib.hid hAA
  have E1 := Lib.hid (runs_cut f k1)
  have E2 : Hid (sums [(0, fun _ => 0), (n, f), (0, fun _ => 0)] = sums [(n, f)]) := Lib.hid rfl
  have E3 : Hid (sums [(k, f), (0, fun _ => 0), (n - k, fun i => f (k + i))] = sums [(n, f)]) := Lib.hid (runs_cut f k1)
  have z0 : ∀ i : Nat, (fun _ => 0) i < 256 := fun _ => by show 0 < 256; omega
  clear hAA h1 h3
  go_enter Tryd.func8, Tryd.ntmps8
  go_wp2_with fail
  refine (crcAwake_any HS.out HJ.out _ HE.out).mono ?_
  rintro e1 w1 ⟨rfl, hb⟩
  have B1 := Lib.hid hb
  have RA1 := Lib.hid (HA.out.below hb)
  clear hb
  go_wp2_with fail
  have P2 := Lib.hid (Pcs.one (c := c) (HE.out.below B1.out) 24 RA1.out (by omega))
  have Q2 := Lib.hid (B1.out.alloc B1.out.size (.cells #[.slice A n c] 24))
  refine (HS.out _ 1 _ [(n, f)] _ rfl (by omega) P2.out).mono ?_
  rintro e2 w2 ⟨rfl, hb⟩
  have B2 := Lib.hid (Q2.out.trans (hb.mono Q2.out.size))
  have RA2 := Lib.hid (HA.out.below B2.out)
  clear hb P2 Q2
  go_wp2_with fail
  have tok1 : True := trivial
  have tok2 : True := trivial
  have tok3 : True := trivial
  go_region_held3 (fun _ => True) (exact trivial) (first
    | (go_at_call 11; have _t := tok1; refine (HS.out _ 2 _ [(k, f), (n - k, fun i => f (k + i))] _ rfl (by omega) (by exact Pcs.two (c := c) (d := c - k) (HE.out.below B2.out) 24 (RA2.out.cut' k1) (by omega) (RA2.out.from' HAA.out) (by omega))).mono ?_; rintro e3 w3 ⟨rfl, hb⟩; have B3 : Hid (Below w.heap.size w w3) := Lib.hid (((B2.out.alloc B2.out.size (.cells #[.slice A k c, .slice A' (n - k) (c - k)] 24)).drew).trans (hb.mono (B2.out.alloc B2.out.size (.cells #[.slice A k c, .slice A' (n - k) (c - k)] 24)).size)); have RA3 := Lib.hid (HA.out.below B3.out); rw [E1.out]; clear tok1 hb)
    | (go_at_call 11; have _t := tok2; refine (HS.out _ 3 _ [(0, fun _ => 0), (n, f), (0, fun _ => 0)] _ rfl (by omega) (by exact Pcs.three (c := 0) (d := c) (e := 0) (HE.out.below B3.out) 24 (Row.none_ _ _ z0) (by omega) RA3.out (by omega) (Row.none_ _ _ z0) (by omega))).mono ?_; rintro e4 w4 ⟨rfl, hb⟩; have B4 : Hid (Below w.heap.size w w4) := Lib.hid ((B3.out.alloc B3.out.size (.cells #[.slice none 0 0, .slice A n c, .slice none 0 0] 24)).trans (hb.mono (B3.out.alloc B3.out.size (.cells #[.slice none 0 0, .slice A n c, .slice none 0 0] 24)).size)); have RA4 := Lib.hid (HA.out.below B4.out); rw [E2.out]; clear tok2 hb)
    | (go_at_call 11; have _t := tok3; refine (HS.out _ 3 _ [(k, f), (0, fun _ => 0), (n - k, fun i => f (k + i))] _ rfl (by omega) (by exact Pcs.three (c := c) (d := 0) (e := c - k) (HE.out.below B4.out) 24 (RA4.out.cut' k1) (by omega) (Row.none_ _ _ z0) (by omega) (RA4.out.from' HAA.out) (by omega))).mono ?_; rintro e5 w5 ⟨rfl, hb⟩; have B5 : Hid (Below w.heap.size w w5) := Lib.hid ((B4.out.alloc B4.out.size (.cells #[.slice A k c, .slice none 0 0, .slice A' (n - k) (c - k)] 24)).trans (hb.mono (B4.out.alloc B4.out.size (.cells #[.slice A k c, .slice none 0 0, .slice A' (n - k) (c - k)] 24)).size)); have RA5 := Lib.hid (HA.out.below B5.out); rw [E3.out]; clear tok3 hb))
  go_wp2_with fail
  go_ret
  exact ⟨rfl, B5.out⟩

end Go.Proofs.YtoopoemkickpkaaDoor
