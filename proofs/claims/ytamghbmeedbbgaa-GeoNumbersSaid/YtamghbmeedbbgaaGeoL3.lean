import Derived.Test.YtamghbmeedbbgaaGeoM3
import Derived.Test.YtamghbmeedbbgaaGeoL2
namespace Go.Proofs.Ytamghbmeedbbgaa
open Go.RowKit

/-- How the two tests of a number come out. -/
theorem in_cases (g : GeoV) (a : Int) : (inInode g a = true ∧ decide (1 ≤ a) = true ∧ decide (a ≤ inodesG g) = true) ∨ (inInode g a = false ∧ decide (1 ≤ a) = false) ∨ (inInode g a = false ∧ decide (1 ≤ a) = true ∧ decide (a ≤ inodesG g) = false) := by
  unfold inInode
  by_cases h1 : 1 ≤ a <;> by_cases h2 : a ≤ inodesG g <;> simp [h1, h2]

set_option maxRecDepth 100000 in
set_option maxHeartbeats 8000000 in
theorem geoNumbers_tt (hS : GeoSays) (g : GeoV) (a b : Int) (w : World) (h1 : g.Fits) (h2 : I64 a) (h3 : I64 b) (qa : inInode g a = true) (qb : inInode g b = true) : Calls Try.prog 8 #[.agg (gcs g), .int .i64 a, .int .i64 b] w fun e w' => e = .returned (.bool true) ∧ Below w.heap.size w w' := by
  have HS := Lib.hid hS
  have H1 := Lib.hid h1
  have P0 : Hid (GP w g (w.alloc (.cells (gcs g) 23))) := Lib.hid ⟨(Below.refl w.heap.size w).alloc (Nat.le_refl _) (.cells (gcs g) 23), heap_alloc_new w _⟩
  have CHA : Hid (∀ W, Calls Try.prog 24 #[.agg (gcs g), .int .i64 a] W fun e w' => e = .returned (.tuple #[.int .i64 (homeG g a).1, .int .i64 (homeG g a).2, .bool (inInode g a)]) ∧ Below W.heap.size W w') := Lib.hid fun W => HS.out.home g a W H1.out h2
  have CHB : Hid (∀ W, Calls Try.prog 24 #[.agg (gcs g), .int .i64 b] W fun e w' => e = .returned (.tuple #[.int .i64 (homeG g b).1, .int .i64 (homeG g b).2, .bool (inInode g b)]) ∧ Below W.heap.size W w') := Lib.hid fun W => HS.out.home g b W H1.out h3
  have CIA : Hid (∀ W, Calls Try.prog 22 #[.agg (gcs g), .int .i64 a] W fun e w' => e = .returned (.tuple #[.int .i64 (inodeG g a).1, .int .i64 (inodeG g a).2, .bool (inInode g a)]) ∧ Below W.heap.size W w') := Lib.hid fun W => HS.out.inode g a W H1.out h2
  have CIB : Hid (∀ W, Calls Try.prog 22 #[.agg (gcs g), .int .i64 b] W fun e w' => e = .returned (.tuple #[.int .i64 (inodeG g b).1, .int .i64 (inodeG g b).2, .bool (inInode g b)]) ∧ Below W.heap.size W w') := Lib.hid fun W => HS.out.inode g b W H1.out h3
  have CN : Hid (∀ W, Calls Try.prog 18 #[.agg (gcs g)] W fun e w' => e = .returned (.int .i64 (inodesG g)) ∧ Below W.heap.size W w') := Lib.hid fun W => HS.out.inodes g W H1.out
  have CM : inInode g a = true → Hid (∀ W, Calls Try.prog 27 #[.agg (gcs g), .int .i64 (homeG g a).1, .int .i64 (homeG g a).2] W fun e w' => e = .returned (.int .i64 a) ∧ Below W.heap.size W w') := fun h => Lib.hid fun W => (HS.out.number g _ _ W H1.out (by have := home_bounds h; have := (in_may h).1.2.1; unfold I64; omega) (by have := home_bounds h; have := (in_may h).1.2.2.2.2.2.1; unfold I64; omega)).mono fun e w' q => ⟨by rw [q.1, number_home h], q.2⟩
  have HI : inInode g a = true → inInode g b = true → Hid ((homeG g a).1 = (homeG g b).1 → (homeG g a).2 = (homeG g b).2 → a = b) := fun p q => Lib.hid (home_inj p q)
  have II : inInode g a = true → inInode g b = true → Hid ((inodeG g a).1 = (inodeG g b).1 → (inodeG g a).2 = (inodeG g b).2 → a = b) := fun p q => Lib.hid (inode_inj p q)
  have EQ : Hid (a = b → homeG g a = homeG g b ∧ inodeG g a = inodeG g b) := Lib.hid fun h => by rw [h]; exact ⟨rfl, rfl⟩
  have ca := in_cases g a
  have cb := in_cases g b
  clear hS h1 h2 h3
  generalize homeG g a = ha at *
  generalize homeG g b = hb0 at *
  generalize inodeG g a = pa at *
  generalize inodeG g b = pb at *
  generalize inInode g a = oa at *
  generalize inInode g b = ob at *
  generalize inodesG g = N at *
  obtain ⟨x1, i1⟩ := ha
  obtain ⟨x2, i2⟩ := hb0
  obtain ⟨p1, m1⟩ := pa
  obtain ⟨p2, m2⟩ := pb
  go_enter Try.func8, Try.ntmps8
  go_wp2_with fail
  generalize w.alloc (.cells (gcs g) 23) = w1 at P0 ⊢
  refine (gAwake_any HS.out w1).mono ?_
  rintro e w2 ⟨rfl, hb⟩
  have P := Lib.hid (P0.out.step hb)
  clear hb P0
  rcases ca with ⟨rfl, ta1, ta2⟩ | ⟨rfl, ta1⟩ | ⟨rfl, ta1, ta2⟩
  · replace CM := CM rfl
    have ta3 : (a != a) = false := by simp
    rcases cb with ⟨rfl, tb1, tb2⟩ | ⟨rfl, tb1⟩ | ⟨rfl, tb1, tb2⟩
    · replace HI := HI rfl rfl
      replace II := II rfl rfl
      by_cases hab : a = b
      · obtain ⟨q1, q2⟩ := EQ.out hab
        have s1 : (x1 == x2) = true := by have := congrArg (·.1) q1; simpa using this
        have s2 : (i1 == i2) = true := by have := congrArg (·.2) q1; simpa using this
        have s3 : (p1 == p2) = true := by have := congrArg (·.1) q2; simpa using this
        have s4 : (m1 == m2) = true := by have := congrArg (·.2) q2; simpa using this
        have s5 : (a == b) = true := by simpa using hab
        clear hab q1 q2 EQ HI II
        go_wp2_with (first
          | (refine load_geo rfl (.tmp 3) rfl w.heap.size 0 rfl g P.out.2.at ?_)
          | (refine load_geo_w (by rfl) (.tmp 3) rfl w.heap.size 0 rfl g P.out.2.at ?_)
          | (go_at_call 24; (first | with_reducible refine (CHA.out _).mono ?_ | with_reducible refine (CHB.out _).mono ?_); rintro e wn ⟨rfl, hb⟩; have P := Lib.hid (P.out.step hb); clear hb)
          | (go_at_call 18; refine (CN.out _).mono ?_; rintro e wn ⟨rfl, hb⟩; have P := Lib.hid (P.out.step hb); clear hb)
          | (go_at_call 27; with_reducible refine (CM.out _).mono ?_; rintro e wn ⟨rfl, hb⟩; have P := Lib.hid (P.out.step hb); clear hb)
          | (go_at_call 22; (first | with_reducible refine (CIA.out _).mono ?_ | with_reducible refine (CIB.out _).mono ?_); rintro e wn ⟨rfl, hb⟩; have P := Lib.hid (P.out.step hb); clear hb))
        go_ret
        exact ⟨rfl, P.out.1⟩
      · have s5 : (a == b) = false := by simpa using hab
        have HAB := Lib.hid hab
        clear EQ hab
        by_cases hx : x1 = x2
        · have s1 : (x1 == x2) = true := by simpa using hx
          have s2 : (i1 == i2) = false := by
            rw [beq_eq_false_iff_ne]; intro h; exact HAB.out (HI.out hx h)
          clear hx HI
          by_cases hp : p1 = p2
          · have s3 : (p1 == p2) = true := by simpa using hp
            have s4 : (m1 == m2) = false := by
              rw [beq_eq_false_iff_ne]; intro h; exact HAB.out (II.out hp h)
            clear hp II
            go_wp2_with (first
              | (refine load_geo rfl (.tmp 3) rfl w.heap.size 0 rfl g P.out.2.at ?_)
              | (refine load_geo_w (by rfl) (.tmp 3) rfl w.heap.size 0 rfl g P.out.2.at ?_)
              | (go_at_call 24; (first | with_reducible refine (CHA.out _).mono ?_ | with_reducible refine (CHB.out _).mono ?_); rintro e wn ⟨rfl, hb⟩; have P := Lib.hid (P.out.step hb); clear hb)
              | (go_at_call 18; refine (CN.out _).mono ?_; rintro e wn ⟨rfl, hb⟩; have P := Lib.hid (P.out.step hb); clear hb)
              | (go_at_call 27; with_reducible refine (CM.out _).mono ?_; rintro e wn ⟨rfl, hb⟩; have P := Lib.hid (P.out.step hb); clear hb)
              | (go_at_call 22; (first | with_reducible refine (CIA.out _).mono ?_ | with_reducible refine (CIB.out _).mono ?_); rintro e wn ⟨rfl, hb⟩; have P := Lib.hid (P.out.step hb); clear hb))
            go_ret
            exact ⟨rfl, P.out.1⟩
          · have s3 : (p1 == p2) = false := by simpa using hp
            clear hp II
            go_wp2_with (first
              | (refine load_geo rfl (.tmp 3) rfl w.heap.size 0 rfl g P.out.2.at ?_)
              | (refine load_geo_w (by rfl) (.tmp 3) rfl w.heap.size 0 rfl g P.out.2.at ?_)
              | (go_at_call 24; (first | with_reducible refine (CHA.out _).mono ?_ | with_reducible refine (CHB.out _).mono ?_); rintro e wn ⟨rfl, hb⟩; have P := Lib.hid (P.out.step hb); clear hb)
              | (go_at_call 18; refine (CN.out _).mono ?_; rintro e wn ⟨rfl, hb⟩; have P := Lib.hid (P.out.step hb); clear hb)
              | (go_at_call 27; with_reducible refine (CM.out _).mono ?_; rintro e wn ⟨rfl, hb⟩; have P := Lib.hid (P.out.step hb); clear hb)
              | (go_at_call 22; (first | with_reducible refine (CIA.out _).mono ?_ | with_reducible refine (CIB.out _).mono ?_); rintro e wn ⟨rfl, hb⟩; have P := Lib.hid (P.out.step hb); clear hb))
            go_ret
            exact ⟨rfl, P.out.1⟩
        · have s1 : (x1 == x2) = false := by simpa using hx
          clear hx HI
          by_cases hp : p1 = p2
          · have s3 : (p1 == p2) = true := by simpa using hp
            have s4 : (m1 == m2) = false := by
              rw [beq_eq_false_iff_ne]; intro h; exact HAB.out (II.out hp h)
            clear hp II
            go_wp2_with (first
              | (refine load_geo rfl (.tmp 3) rfl w.heap.size 0 rfl g P.out.2.at ?_)
              | (refine load_geo_w (by rfl) (.tmp 3) rfl w.heap.size 0 rfl g P.out.2.at ?_)
              | (go_at_call 24; (first | with_reducible refine (CHA.out _).mono ?_ | with_reducible refine (CHB.out _).mono ?_); rintro e wn ⟨rfl, hb⟩; have P := Lib.hid (P.out.step hb); clear hb)
              | (go_at_call 18; refine (CN.out _).mono ?_; rintro e wn ⟨rfl, hb⟩; have P := Lib.hid (P.out.step hb); clear hb)
              | (go_at_call 27; with_reducible refine (CM.out _).mono ?_; rintro e wn ⟨rfl, hb⟩; have P := Lib.hid (P.out.step hb); clear hb)
              | (go_at_call 22; (first | with_reducible refine (CIA.out _).mono ?_ | with_reducible refine (CIB.out _).mono ?_); rintro e wn ⟨rfl, hb⟩; have P := Lib.hid (P.out.step hb); clear hb))
            go_ret
            exact ⟨rfl, P.out.1⟩
          · have s3 : (p1 == p2) = false := by simpa using hp
            clear hp II
            go_wp2_with (first
              | (refine load_geo rfl (.tmp 3) rfl w.heap.size 0 rfl g P.out.2.at ?_)
              | (refine load_geo_w (by rfl) (.tmp 3) rfl w.heap.size 0 rfl g P.out.2.at ?_)
              | (go_at_call 24; (first | with_reducible refine (CHA.out _).mono ?_ | with_reducible refine (CHB.out _).mono ?_); rintro e wn ⟨rfl, hb⟩; have P := Lib.hid (P.out.step hb); clear hb)
              | (go_at_call 18; refine (CN.out _).mono ?_; rintro e wn ⟨rfl, hb⟩; have P := Lib.hid (P.out.step hb); clear hb)
              | (go_at_call 27; with_reducible refine (CM.out _).mono ?_; rintro e wn ⟨rfl, hb⟩; have P := Lib.hid (P.out.step hb); clear hb)
              | (go_at_call 22; (first | with_reducible refine (CIA.out _).mono ?_ | with_reducible refine (CIB.out _).mono ?_); rintro e wn ⟨rfl, hb⟩; have P := Lib.hid (P.out.step hb); clear hb))
            go_ret
            exact ⟨rfl, P.out.1⟩
    · cases qb
    · cases qb
  · cases qa
  · cases qa
end Go.Proofs.Ytamghbmeedbbgaa
