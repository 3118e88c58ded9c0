import Derived.Test.YtfijagjkgmhimaaNums1
import Derived.Test.YtfijagjkgmhimaaNums2
import Derived.Deep.QuietTactic
import Derived.BigQuiet
namespace Go.Proofs.Ytfijagjkgmhimaa
open Go.RowKit

set_option maxHeartbeats 400000 in
theorem Get32_yes (A : Option Addr) (n c : Nat) (at_ : Int) (f : Nat → Nat) (w : World) (hn : n ≤ 140737488355328) (hR : Row w A n f) (h0 : 0 ≤ at_) (h1 : at_ ≤ n - 4) :
    Calls Try.prog 37 #[.slice A n c, .int .i64 at_] w fun e w' => e = .returned (.tuple #[.int .u32 (g32 f at_.toNat : Nat), .bool true]) ∧ w = w' := by
  have H := Lib.hid hR
  clear hR
  go_enter Try.func37, Try.ntmps37
  go_wp2_with (go_at_call 42; refine (get32_yes _ _ _ _ _ _ hn H.out h0 h1).mono ?_; rintro e w' ⟨rfl, rfl⟩)
  go_ret2
  exact ⟨rfl, rfl⟩
set_option maxHeartbeats 400000 in
theorem Get32_no (A : Option Addr) (n c : Nat) (at_ : Int) (w : World) (hn : n ≤ 140737488355328) (h : at_ < 0 ∨ (n : Int) - 4 < at_) :
    Calls Try.prog 37 #[.slice A n c, .int .i64 at_] w fun e w' => e = .returned (.tuple #[.int .u32 0, .bool false]) ∧ w = w' := by
  have H := Lib.hid h
  clear h
  go_enter Try.func37, Try.ntmps37
  go_wp2_with (go_at_call 42; refine (get32_no _ _ _ _ _ hn H.out).mono ?_; rintro e w' ⟨rfl, rfl⟩)
  go_ret2
  exact ⟨rfl, rfl⟩
set_option maxHeartbeats 400000 in
theorem Get16_yes (A : Option Addr) (n c : Nat) (at_ : Int) (f : Nat → Nat) (w : World) (hn : n ≤ 140737488355328) (hR : Row w A n f) (h0 : 0 ≤ at_) (h1 : at_ ≤ n - 2) :
    Calls Try.prog 36 #[.slice A n c, .int .i64 at_] w fun e w' => e = .returned (.tuple #[.int .u32 (g16 f at_.toNat : Nat), .bool true]) ∧ w = w' := by
  have H := Lib.hid hR
  clear hR
  go_enter Try.func36, Try.ntmps36
  go_wp2_with (go_at_call 41; refine (get16_yes _ _ _ _ _ _ hn H.out h0 h1).mono ?_; rintro e w' ⟨rfl, rfl⟩)
  go_ret2
  exact ⟨rfl, rfl⟩
set_option maxHeartbeats 400000 in
theorem Get16_no (A : Option Addr) (n c : Nat) (at_ : Int) (w : World) (hn : n ≤ 140737488355328) (h : at_ < 0 ∨ (n : Int) - 2 < at_) :
    Calls Try.prog 36 #[.slice A n c, .int .i64 at_] w fun e w' => e = .returned (.tuple #[.int .u32 0, .bool false]) ∧ w = w' := by
  have H := Lib.hid h
  clear h
  go_enter Try.func36, Try.ntmps36
  go_wp2_with (go_at_call 41; refine (get16_no _ _ _ _ _ hn H.out).mono ?_; rintro e w' ⟨rfl, rfl⟩)
  go_ret2
  exact ⟨rfl, rfl⟩

set_option maxHeartbeats 400000 in
theorem Put32_yes (A : Option Addr) (n c N base : Nat) (at_ v : Int) (f : Nat → Nat) (w : World) (hn : n ≤ 140737488355328) (hN : n ≤ N) (hR : Own w base A N f) (h0 : 0 ≤ at_) (h1 : at_ ≤ n - 4) (hv0 : 0 ≤ v) (hv1 : v < 4294967296) :
    Calls Try.prog 29 #[.slice A n c, .int .i64 at_, .int .u32 v] w fun e w' => e = .returned (.bool true) ∧ Own w' base A N (p32 f at_.toNat v.toNat) ∧ ∀ g o, A = some ⟨g, o, none⟩ → Only g w w' := by
  have H := Lib.hid hR
  clear hR
  go_enter Try.func29, Try.ntmps29
  go_wp2_with (go_at_call 35; refine (put32_yes _ _ _ _ _ _ _ _ _ hn hN H.out h0 h1 hv0 hv1).mono ?_; rintro e w' ⟨rfl, hq⟩; have Hq := Lib.hid hq; clear hq)
  go_ret
  exact ⟨rfl, Hq.out⟩
set_option maxHeartbeats 400000 in
theorem Put32_no (A : Option Addr) (n c : Nat) (at_ v : Int) (w : World) (hn : n ≤ 140737488355328) (h : at_ < 0 ∨ (n : Int) - 4 < at_) :
    Calls Try.prog 29 #[.slice A n c, .int .i64 at_, .int .u32 v] w fun e w' => e = .returned (.bool false) ∧ w = w' := by
  have H := Lib.hid h
  clear h
  go_enter Try.func29, Try.ntmps29
  go_wp2_with (go_at_call 35; refine (put32_no _ _ _ _ _ _ hn H.out).mono ?_; rintro e w' ⟨rfl, rfl⟩)
  go_ret
  exact ⟨rfl, rfl⟩
set_option maxHeartbeats 400000 in
theorem Put16_yes (A : Option Addr) (n c N base : Nat) (at_ v : Int) (f : Nat → Nat) (w : World) (hn : n ≤ 140737488355328) (hN : n ≤ N) (hR : Own w base A N f) (h0 : 0 ≤ at_) (h1 : at_ ≤ n - 2) (hv0 : 0 ≤ v) (hv1 : v ≤ 65535) :
    Calls Try.prog 28 #[.slice A n c, .int .i64 at_, .int .u32 v] w fun e w' => e = .returned (.bool true) ∧ Own w' base A N (p16 f at_.toNat v.toNat) ∧ ∀ g o, A = some ⟨g, o, none⟩ → Only g w w' := by
  have H := Lib.hid hR
  clear hR
  go_enter Try.func28, Try.ntmps28
  go_wp2_with (go_at_call 34; refine (put16_yes _ _ _ _ _ _ _ _ _ hn hN H.out h0 h1 (by omega) (by omega)).mono ?_; rintro e w' ⟨rfl, hq⟩; have Hq := Lib.hid hq; clear hq)
  go_ret
  exact ⟨rfl, Hq.out⟩
set_option maxHeartbeats 400000 in
theorem Put16_no (A : Option Addr) (n c : Nat) (at_ v : Int) (w : World) (hn : n ≤ 140737488355328) (h : at_ < 0 ∨ (n : Int) - 2 < at_) (hv0 : 0 ≤ v) (hv1 : v ≤ 65535) :
    Calls Try.prog 28 #[.slice A n c, .int .i64 at_, .int .u32 v] w fun e w' => e = .returned (.bool false) ∧ w = w' := by
  have H := Lib.hid h
  clear h
  go_enter Try.func28, Try.ntmps28
  go_wp2_with (go_at_call 34; refine (put16_no _ _ _ _ _ _ hn H.out).mono ?_; rintro e w' ⟨rfl, rfl⟩)
  go_ret
  exact ⟨rfl, rfl⟩
set_option maxHeartbeats 400000 in
theorem Put16_great (A : Option Addr) (n c : Nat) (at_ v : Int) (w : World) (hv0 : 65535 < v) :
    Calls Try.prog 28 #[.slice A n c, .int .i64 at_, .int .u32 v] w fun e w' => e = .returned (.bool false) ∧ w = w' := by
  have hd : decide (v ≤ 65535) = false := by simp; omega
  go_enter Try.func28, Try.ntmps28
  go_wp2
  go_ret
  exact ⟨rfl, rfl⟩

end Go.Proofs.Ytfijagjkgmhimaa
