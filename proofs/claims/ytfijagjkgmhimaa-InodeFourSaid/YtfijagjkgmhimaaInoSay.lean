import Derived.Test.YtfijagjkgmhimaaInoP7
namespace Go.Proofs.Ytfijagjkgmhimaa
open Go.RowKit

/-- What a package says of inodes (the functions May, Put, Get, by their numbers). -/
structure InodeSays (fM fP fG : Nat) : Prop where
  may : ∀ (x : InoV) (w : World), x.Fits → Calls Try.prog fM #[.agg (ics x)] w fun e w' => e = .returned (.bool (mayB x)) ∧ Below w.heap.size w w'
  putNil : ∀ (at_ : Int) (x : InoV) (w : World), Calls Try.prog fP #[.pointer none, .int .i64 at_, .agg (ics x)] w fun e w' => e = .returned (.int .i64 1) ∧ Below w.heap.size w w'
  put : ∀ (b : Nat) (X : Blk) (at_ : Int) (x : InoV) (w : World), BVar w b X → -9223372036854775808 ≤ at_ → at_ ≤ 9223372036854775807 → x.Fits →
    Calls Try.prog fP #[.pointer (some ⟨b, 0, none⟩), .int .i64 at_, .agg (ics x)] w fun e w' => e = .returned (.int .i64 (putI X at_ x).2) ∧ BVar w' b (putI X at_ x).1 ∧ Only b w w'
  get : ∀ (X : Blk) (at_ : Int) (w : World), -9223372036854775808 ≤ at_ → at_ ≤ 9223372036854775807 →
    Calls Try.prog fG #[.agg (arr X), .int .i64 at_] w fun e w' => e = .returned (.tuple #[.agg (ics (getI X at_).1), .int .i64 (getI X at_).2]) ∧ Below w.heap.size w w'
abbrev ISays := InodeSays 12 10 14
theorem pInodeSays : ISays := ⟨pMay, pPut_nil, pPut, pGet⟩
end Go.Proofs.Ytfijagjkgmhimaa
