import Derived.Test.YtogdjjanladghaaNums4
namespace Go.Proofs.Ytogdjjanladghaa
open Go.RowKit

set_option maxHeartbeats 1000000 in
theorem awake_any (w : World) :
    Calls Try.prog 23 #[] w fun e w' => e = .returned (.bool true) ∧ Below w.heap.size w w' := by
  go_enter Try.func23, Try.ntmps23
  go_wp2_with fail
  have o1 : Hid (Own (w.alloc (.cells #[.int .u8 1, .int .u8 2, .int .u8 3] 5)) w.heap.size (some ⟨w.heap.size, 0, none⟩) 3 (lit8 [1, 2, 3])) := Lib.hid (Own.lit w _ 5 [1, 2, 3] (Nat.le_refl _) (by decide))
  have B1 : Hid (Below w.heap.size w (w.alloc (.cells #[.int .u8 1, .int .u8 2, .int .u8 3] 5))) := Lib.hid ((Below.refl _ _).alloc (Nat.le_refl _) _)
  generalize w.alloc (.cells #[.int .u8 1, .int .u8 2, .int .u8 3] 5) = w1 at o1 B1 ⊢
  refine (Get16_yes _ 3 _ 1 (lit8 [1, 2, 3]) _ (by omega) (o1.out.row (Nat.le_refl _)) (by omega) (by omega)).mono ?_
  rintro e w' ⟨rfl, rfl⟩
  rw [show ((g16 (lit8 [1, 2, 3]) (1 : Int).toNat : Nat) : Int) = 770 from rfl]
  clear o1
  go_wp2_with fail
  have o2 : Hid (Own (w1.alloc (.cells #[.int .u8 1, .int .u8 2, .int .u8 3, .int .u8 4, .int .u8 255] 5)) w.heap.size (some ⟨w1.heap.size, 0, none⟩) 5 (lit8 [1, 2, 3, 4, 255])) := Lib.hid (Own.lit w1 _ 5 [1, 2, 3, 4, 255] B1.out.size (by decide))
  have B2 : Hid (Below w.heap.size w (w1.alloc (.cells #[.int .u8 1, .int .u8 2, .int .u8 3, .int .u8 4, .int .u8 255] 5))) := Lib.hid (B1.out.alloc B1.out.size _)
  generalize w1.alloc (.cells #[.int .u8 1, .int .u8 2, .int .u8 3, .int .u8 4, .int .u8 255] 5) = w2 at o2 B2 ⊢
  refine (Get32_yes _ 5 _ 1 (lit8 [1, 2, 3, 4, 255]) _ (by omega) (o2.out.row (Nat.le_refl _)) (by omega) (by omega)).mono ?_
  rintro e w' ⟨rfl, rfl⟩
  rw [show ((g32 (lit8 [1, 2, 3, 4, 255]) (1 : Int).toNat : Nat) : Int) = 4278452994 from by decide]
  clear o2
  go_wp2_with fail
  have B3 : Hid (Below w.heap.size w (w2.alloc (.cells #[.int .u8 1, .int .u8 2, .int .u8 3, .int .u8 4, .int .u8 255] 5))) := Lib.hid (B2.out.alloc B2.out.size _)
  generalize w2.alloc (.cells #[.int .u8 1, .int .u8 2, .int .u8 3, .int .u8 4, .int .u8 255] 5) = w3 at B3 ⊢
  refine (Get32_no _ 5 _ 2 _ (by omega) (by omega)).mono ?_
  rintro e w' ⟨rfl, rfl⟩
  go_wp2_with fail
  have o4 : Hid (Own (w3.alloc (.cells #[.int .u8 0, .int .u8 0, .int .u8 0] 5)) w.heap.size (some ⟨w3.heap.size, 0, none⟩) 3 (lit8 [0, 0, 0])) := Lib.hid (Own.lit w3 _ 5 [0, 0, 0] B3.out.size (by decide))
  have B4 : Hid (Below w.heap.size w (w3.alloc (.cells #[.int .u8 0, .int .u8 0, .int .u8 0] 5))) := Lib.hid (B3.out.alloc B3.out.size _)
  have l4 : Hid (w3.heap.size < (w3.alloc (.cells #[.int .u8 0, .int .u8 0, .int .u8 0] 5)).heap.size) := Lib.hid (by simp)
  have hs3 : w.heap.size ≤ w3.heap.size := B3.out.size
  generalize w3.alloc (.cells #[.int .u8 0, .int .u8 0, .int .u8 0] 5) = w4 at o4 B4 l4 ⊢
  generalize w3.heap.size = g at o4 l4 hs3 ⊢
  refine (Put16_yes _ 3 _ 3 _ 1 65535 _ _ (by omega) (by omega) o4.out (by omega) (by omega) (by omega) (by omega)).mono ?_
  rintro e w5 ⟨rfl, o5, hO⟩
  have B5 := Lib.hid (B4.out.trans ((hO g 0 rfl).below hs3 B4.out.size))
  clear hO o4
  obtain ⟨g', o', e', hb', hc⟩ := o5.2 (by omega)
  injection e' with e'
  injection e' with e1 e2
  subst e1 e2
  have c0 : w5.cell? ⟨g, 0, none⟩ = some (.int .u8 0) := hc.cell 0 (by omega)
  have c1 : w5.cell? ⟨g, 1, none⟩ = some (.int .u8 255) := hc.cell 1 (by omega)
  have c2 : w5.cell? ⟨g, 2, none⟩ = some (.int .u8 255) := hc.cell 2 (by omega)
  have O5 := Lib.hid o5
  clear hc o5 hb'
  go_wp2_with fail
  refine (Put16_great _ _ _ _ _ _ (by omega)).mono ?_
  rintro e w' ⟨rfl, rfl⟩
  go_wp2_with fail
  have o6 : Hid (Own (w5.alloc (.cells #[.int .u8 0, .int .u8 0] 5)) w.heap.size (some ⟨w5.heap.size, 0, none⟩) 2 (lit8 [0, 0])) := Lib.hid (Own.lit w5 _ 5 [0, 0] B5.out.size (by decide))
  have B6 : Hid (Below w.heap.size w (w5.alloc (.cells #[.int .u8 0, .int .u8 0] 5))) := Lib.hid (B5.out.alloc B5.out.size _)
  have O6 := Lib.hid (O5.out.alloc (.cells #[.int .u8 0, .int .u8 0] 5))
  generalize w5.alloc (.cells #[.int .u8 0, .int .u8 0] 5) = w6 at o6 B6 O6 ⊢
  refine (Zero_yes _ 2 _ (lit8 [0, 0]) _ (by omega) (o6.out.row (Nat.le_refl _)) (by intro i hi; match i, hi with | 0, _ => rfl | 1, _ => rfl)).mono ?_
  rintro e w' ⟨rfl, rfl⟩
  go_wp2_with fail
  refine (Zero_no _ 3 _ _ _ 1 (by omega) (O6.out.row (Nat.le_refl _)) (by omega) (by decide)).mono ?_
  rintro e w' ⟨rfl, rfl⟩
  go_wp2_with fail
  go_ret
  exact ⟨rfl, B6.out⟩
end Go.Proofs.Ytogdjjanladghaa
