import Derived.Test.YtfijagjkgmhimaaInoP1
namespace Go.Proofs.Ytfijagjkgmhimaa
open Go.RowKit

/-! The landed package: what bytes tell. -/
theorem short_any (b a : Nat) (f : Nat → Nat) (w : World) (hM : MVar w b f) (hf : ∀ i, f i < 256) (ha : a + 2 ≤ 64) :
    Calls Try.prog 30 #[.pointer (some ⟨b, 0, none⟩), .int .i64 a] w fun e w' => e = .returned (.int .i64 ((g16 f a : Nat) : Int)) ∧ w' = w := by
  have R := Lib.hid (hM.row hf)
  have hlt := g16_lt hf a
  clear hM hf
  go_enter Try.func30, Try.ntmps30
  go_wp2_with (go_at_call 36; refine (Get16_yes _ 64 64 a f _ (by omega) R.out (by omega) (by omega)).mono ?_; rw [Int.toNat_natCast]; rintro e w' ⟨rfl, rfl⟩)
  go_ret
  exact ⟨rfl, rfl⟩
theorem long_any (b a : Nat) (f : Nat → Nat) (w : World) (hM : MVar w b f) (hf : ∀ i, f i < 256) (ha : a + 4 ≤ 64) :
    Calls Try.prog 31 #[.pointer (some ⟨b, 0, none⟩), .int .i64 a] w fun e w' => e = .returned (.int .u32 ((g32 f a : Nat) : Int)) ∧ w' = w := by
  have R := Lib.hid (hM.row hf)
  clear hM hf
  go_enter Try.func31, Try.ntmps31
  go_wp2_with (go_at_call 37; refine (Get32_yes _ 64 64 a f _ (by omega) R.out (by omega) (by omega)).mono ?_; rw [Int.toNat_natCast]; rintro e w' ⟨rfl, rfl⟩)
  go_ret
  exact ⟨rfl, rfl⟩
end Go.Proofs.Ytfijagjkgmhimaa
