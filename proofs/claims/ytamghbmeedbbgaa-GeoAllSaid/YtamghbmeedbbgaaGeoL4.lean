import Derived.Test.YtamghbmeedbbgaaGeoM4
import Derived.Test.YtamghbmeedbbgaaGeoL2
import Derived.Deep.OwnRows
namespace Go.Proofs.Ytamghbmeedbbgaa
open Go.RowKit

/-! GeoAll. -/
structure CR (w : World) (bc : Nat) (c : Nat → Int) : Prop where
  cell : ∀ i, i < 9 → w.cell? ⟨bc, i, none⟩ = some (.int .i64 (c i))
  frz : ∀ i, i < 9 → w.frozen? ⟨bc, i, none⟩ = false
theorem CR.below {w w' : World} {bc : Nat} {c : Nat → Int} (h : CR w bc c) (hl : bc < w.heap.size) (hb : Below w.heap.size w w') : CR w' bc c :=
  ⟨fun i hi => (hb.cell (p := ⟨bc, i, none⟩) hl).trans (h.cell i hi), fun i hi => (hb.frozen (p := ⟨bc, i, none⟩) hl).trans (h.frz i hi)⟩
theorem CR.lt {w : World} {bc : Nat} {c : Nat → Int} (h : CR w bc c) : bc < w.heap.size := by
  have h := h.cell 0 (by omega)
  unfold World.cell? at h
  cases ho : w.heap[bc]? with
  | none => simp [ho] at h
  | some o => exact (Array.getElem?_eq_some_iff.1 ho).1
theorem CR.set {w : World} {bc : Nat} {c : Nat → Int} (h : CR w bc c) {k : Nat} (hk : k < 9) (v : Int) : CR (w.setCell ⟨bc, k, none⟩ (.int .i64 v)) bc (fun i => if i = k then v else c i) := by
  refine ⟨fun i hi => ?_, fun i hi => ?_⟩
  · by_cases e : i = k
    · subst e
      rw [if_pos rfl]
      exact World.cell?_setCell_same _ _ _ (h.cell i hi)
    · rw [if_neg e]
      exact (World.cell?_setCell_other _ _ _ _ (by intro q; injection q with _ q _; first | exact e q | exact e q.symm)).trans (h.cell i hi)
  · rw [World.frozen?_setCell]; exact h.frz i hi
abbrev row9 : Array Value := #[.int .i64 0, .int .i64 0, .int .i64 0, .int .i64 0, .int .i64 0, .int .i64 0, .int .i64 0, .int .i64 0, .int .i64 0]
theorem int_info : (Try.prog.info? 3).map (fun i => (i.zero, i.size, i.bytes)) = some (some (.int .i64 0), 1, 8) := by kernel_rfl
theorem make9 (W : World) : (Instr.makeSlice 36 (.int .i64 9) (.int .i64 9)).run Try.prog W = .ok (.slice (some ⟨W.heap.size, 0, none⟩) 9 9) (W.alloc (.cells row9 3)) := by
  have h := run_make_row' (P := Try.prog) 36 3 (.int .i64 0) 8 Try.underlying36 int_info rfl .i64 .i64 9 (by omega) (by omega) W
  rw [show madeCells #[.int .i64 0] 9 = row9 by kernel_rfl] at h
  exact h
theorem CR.new (W : World) : CR (W.alloc (.cells row9 3)) W.heap.size (fun _ => 0) := by
  have hh := heap_alloc_new W (.cells row9 3)
  refine ⟨fun i hi => ?_, fun i _ => by unfold World.frozen?; rw [hh]; simp⟩
  have h : i = 0 ∨ i = 1 ∨ i = 2 ∨ i = 3 ∨ i = 4 ∨ i = 5 ∨ i = 6 ∨ i = 7 ∨ i = 8 := by omega
  rcases h with rfl | rfl | rfl | rfl | rfl | rfl | rfl | rfl | rfl <;> exact (cell_of_row _ _ _ _ _ _ hh).trans rfl
/-- What is held on the way. -/
structure GQ (w : World) (g : GeoV) (bc : Nat) (c : Nat → Int) (a : World) : Prop where
  gp : GP w g a
  cr : CR a bc c
  le : w.heap.size < bc
theorem GQ.step {w a b : World} {g : GeoV} {bc : Nat} {c : Nat → Int} (h : GQ w g bc c a) (hb : Below a.heap.size a b) : GQ w g bc c b := ⟨h.gp.step hb, h.cr.below h.cr.lt hb, h.le⟩
theorem GQ.set {w a : World} {g : GeoV} {bc : Nat} {c : Nat → Int} (h : GQ w g bc c a) {k : Nat} (hk : k < 9) (v : Int) : GQ w g bc (fun i => if i = k then v else c i) (a.setCell ⟨bc, k, none⟩ (.int .i64 v)) :=
  ⟨⟨h.gp.1.setCell (p := ⟨bc, k, none⟩) (Nat.le_of_lt h.le) _, (Below.heap_setCell _ _ _ _ (by have := h.le; show w.heap.size ≠ bc; omega)).trans h.gp.2⟩, h.cr.set hk v, h.le⟩

set_option maxRecDepth 100000 in
set_option maxHeartbeats 4000000 in
theorem geoAll_may (hS : GeoSays) (g : GeoV) (w : World) (h1 : g.Fits) (hm : May g) : Calls Try.prog 5 #[.agg (gcs g)] w fun e w' => e = .returned (.bool true) ∧ Below w.heap.size w w' := by
  have HS := Lib.hid hS
  have H1 := Lib.hid h1
  have HM := Lib.hid hm
  have P0 : Hid (GP w g (w.alloc (.cells (gcs g) 23))) := Lib.hid ⟨(Below.refl w.heap.size w).alloc (Nat.le_refl _) (.cells (gcs g) 23), heap_alloc_new w _⟩
  have M : Hid (mayB g = true) := Lib.hid (decide_eq_true hm)
  have eb : Hid (blocksG g = 2 + g.jr + g.gr * g.sz) := Lib.hid (if_pos hm)
  have ei : Hid (inodesG g = g.gr * g.ino) := Lib.hid (if_pos hm)
  have ed : Hid (dataG g = g.sz - 2 - g.ino / 4) := Lib.hid (if_pos hm)
  have CB : Hid (∀ W, Calls Try.prog 16 #[.agg (gcs g)] W fun e w' => e = .returned (.int .i64 (2 + g.jr + g.gr * g.sz)) ∧ Below W.heap.size W w') := Lib.hid fun W => (HS.out.blocks g W H1.out).mono fun e w' q => ⟨by rw [q.1, eb.out], q.2⟩
  have CI : Hid (∀ W, Calls Try.prog 18 #[.agg (gcs g)] W fun e w' => e = .returned (.int .i64 (g.gr * g.ino)) ∧ Below W.heap.size W w') := Lib.hid fun W => (HS.out.inodes g W H1.out).mono fun e w' q => ⟨by rw [q.1, ei.out], q.2⟩
  have CD : Hid (∀ W, Calls Try.prog 20 #[.agg (gcs g)] W fun e w' => e = .returned (.int .i64 (g.sz - 2 - g.ino / 4)) ∧ Below W.heap.size W w') := Lib.hid fun W => (HS.out.data g W H1.out).mono fun e w' q => ⟨by rw [q.1, ed.out], q.2⟩
  have CM : Hid (∀ W, Calls Try.prog 14 #[.agg (gcs g)] W fun e w' => e = .returned (.bool true) ∧ Below W.heap.size W w') := Lib.hid fun W => (HS.out.may g W H1.out).mono fun e w' q => ⟨by rw [q.1, M.out], q.2⟩
  obtain ⟨m1, m2, m3, m4, m5, m6, m7, m8, m9, m10, m11⟩ := hm
  have p1 : 0 ≤ g.gr * g.sz := Int.mul_nonneg (by omega) (by omega)
  have p2 : 0 ≤ g.gr * g.ino := Int.mul_nonneg (by omega) (by omega)
  have p3 : g.gr * g.ino ≤ 4 * 64 := Int.mul_le_mul m2 m6 (by omega) (by omega)
  clear hS h1
  go_enter Try.func5, Try.ntmps5
  go_wp2_with fail
  generalize w.alloc (.cells (gcs g) 23) = w1 at P0 ⊢
  refine (gAwake_any HS.out w1).mono ?_
  rintro e w2 ⟨rfl, hb⟩
  have P := Lib.hid (P0.out.step hb)
  clear hb P0
  go_wp2_with (first
    | (refine load_geo rfl (.tmp 1) rfl w.heap.size 0 rfl g P.out.2.at ?_)
    | (go_at_call 14; with_reducible refine (CM.out _).mono ?_; rintro e wn ⟨rfl, hb⟩; have P := Lib.hid (P.out.step hb); clear hb)
    | (go_at_call 16; with_reducible refine (CB.out _).mono ?_; rintro e w3 ⟨rfl, hb⟩; have P := Lib.hid (P.out.step hb); clear hb))
  have te0 : decide (2 + g.jr + g.gr * g.sz < 2) = false := decide_eq_false (by omega)
  have te1 : decide (2048 < 2 + g.jr + g.gr * g.sz) = false := decide_eq_false (by omega)
  have te2 : (2 + g.jr + g.gr * g.sz != 2 + g.jr + g.gr * g.sz) = false := by simp
  have te3 : decide (g.sz - 2 - g.ino / 4 < 1) = false := decide_eq_false (by omega)
  have te4 : (g.gr * g.ino != g.gr * g.ino) = false := by simp
  have c0 := P.out.2.c0
  have c1 := P.out.2.c1
  have c2 := P.out.2.c2
  have c3 := P.out.2.c3
  have hlt := P.out.2.lt
  refine wp_region_class (More w3) (by kernel_rfl) (by kernel_rfl) (More.drew _) ?_
  repeat (first | go_big_quiet_skip | (go_big_quiet_want; first | (refine quiet_geo _ rfl _ _ rfl g (by intro w' hw'; exact (P.out.2.below hw').at) ?_; simp only [Act.put, List.setIfInBounds_toArray, List.set_cons_zero, List.set_cons_succ]; go_big_quiet_on) | (refine quiet_int _ rfl _ rfl _ (by intro w' hw'; first | exact (hw'.cell (p := ⟨_, _, none⟩) hlt).trans c0 | exact (hw'.cell (p := ⟨_, _, none⟩) hlt).trans c1 | exact (hw'.cell (p := ⟨_, _, none⟩) hlt).trans c2 | exact (hw'.cell (p := ⟨_, _, none⟩) hlt).trans c3) ?_; simp only [Act.put, List.setIfInBounds_toArray, List.set_cons_zero, List.set_cons_succ]; go_big_quiet_on) | (go_big_quiet_op; first | go_big_quiet_on | (apply Exists.intro; refine ⟨fun _ _ => ?_, ?_⟩; (with_reducible exact rfl); go_big_quiet_on) | go_big_quiet_call ((intro hC; (first | (with_reducible refine (CI.out _).mono ?_) | (with_reducible refine (CD.out _).mono ?_)); exact fun e w' h => ⟨h.1, hC.on h.2⟩)))))
  refine wpQuiet_nil ?_
  intro w4 hw4
  have P4 := Lib.hid (P.out.step hw4)
  clear hw4 c0 c1 c2 c3 hlt P te0 te1 te2 te3 te4
  have hb5 : Below w4.heap.size w4 (w4.alloc (.cells row9 3)) := (Below.refl _ w4).alloc (Nat.le_refl _) _
  have Q : Hid (GQ w g w4.heap.size (fun i => cntW g i 0) (w4.alloc (.cells row9 3))) := Lib.hid ⟨P4.out.step hb5, CR.new w4, P4.out.2.lt⟩
  clear hb5
  have hmk := fun W => make9 W
  go_wp2_with fail
  generalize w4.heap.size = bc at Q ⊢
  generalize w4.alloc (.cells row9 3) = w5 at Q ⊢
  obtain ⟨n, hn⟩ : ∃ n, 2 + g.jr + g.gr * g.sz = n := ⟨_, rfl⟩
  have HN := Lib.hid hn
  have n1 : 2 ≤ n := by omega
  have n2 : n ≤ 2048 := by omega
  have CW : Hid (∀ (b : Int) W, -1 ≤ b → b ≤ n → Calls Try.prog 12 #[.agg (gcs g), .int .i64 b] W fun e w' => e = .returned (.tuple #[.int .u8 (whatG g b).1, .int .i64 (whatG g b).2.1, .int .i64 (whatG g b).2.2]) ∧ Below W.heap.size W w') := Lib.hid fun b W h1 h2 => HS.out.what g b W H1.out (by unfold I64; omega)
  have CS : Hid (∀ (k : Int) W, inGroup g k = true → Calls Try.prog 10 #[.agg (gcs g), .int .i64 k] W fun e w' => e = .returned (.tuple #[.int .i64 (startG g k), .bool true]) ∧ Below W.heap.size W w') := Lib.hid fun k W h => by
    have hk := of_decide_eq_true h
    exact (HS.out.start g k W H1.out (by have := hk.1.2.1; unfold I64; omega)).mono fun e w' q => ⟨by rw [q.1, h], q.2⟩
  have FA : Hid (∀ b : Int, 0 ≤ b → b < n → ∃ k q a : Int, whatG g b = (k, q, a) ∧ 1 ≤ k ∧ k ≤ 7 ∧ inGroup g q = true ∧ 0 ≤ a ∧ a ≤ 4096 ∧ (4 ≤ k → startG g q + a = b) ∧ (k = 3 → a + 2 = b) ∧ (k ≤ 2 → b = k - 1)) := Lib.hid fun b h1 h2 => what_facts HM.out h1 (by rw [eb.out, hn]; exact h2)
  rw [hn]
  clear hn hmk P4 m1 m2 m3 m4 m5 m6 m7 m8 m9 m10 m11 p1
  go_loopw [5] (fun bv wr => ∃ b : Nat, (b : Int) ≤ n ∧ bv = .int .i64 b ∧ Hid (GQ w g bc (fun i => cntW g i b) wr)) (fun bv _ => (n - intOf bv).toNat)
  case atStart => exact ⟨0, by omega, rfl, Q⟩
  case round =>
    obtain ⟨b, hb, rfl, Q⟩ := hrel
    by_cases hlt : (b : Int) < n
    · have t1 : decide ((b : Int) < n) = true := decide_eq_true hlt
      obtain ⟨k, q, a, hw, k1, k2, hq, a1, a2, h4, h3, h2⟩ := FA.out b (by omega) hlt
      have CWb : Hid (∀ W, Calls Try.prog 12 #[.agg (gcs g), .int .i64 b] W fun e w' => e = .returned (.tuple #[.int .u8 k, .int .i64 q, .int .i64 a]) ∧ Below W.heap.size W w') := Lib.hid fun W => by have := CW.out b W (by omega) (by omega); rw [hw] at this; exact this
      have CSq : Hid (∀ W, Calls Try.prog 10 #[.agg (gcs g), .int .i64 q] W fun e w' => e = .returned (.tuple #[.int .i64 (startG g q), .bool true]) ∧ Below W.heap.size W w') := Lib.hid fun W => CS.out q W hq
      obtain ⟨kn, rfl⟩ := Int.eq_ofNat_of_zero_le (show 0 ≤ k by omega)
      have hk9 : kn < 9 := by omega
      have hcb := cnt_bounds g kn b
      have HC : Hid (∀ W, GQ w g bc (fun i => if i = kn then cntW g kn b + 1 else cntW g i b) W → GQ w g bc (fun i => cntW g i (b + 1)) W) := Lib.hid fun W h => by
        have e : (fun i : Nat => if i = kn then cntW g kn b + 1 else cntW g i b) = (fun i : Nat => cntW g i (b + 1)) := by
          funext i
          show _ = cntW g i b + if (whatG g (b : Int)).1 = (i : Int) then 1 else 0
          rw [hw]
          by_cases h : i = kn
          · subst h; simp
          · rw [if_neg h, if_neg (by show ¬ (kn : Int) = i; omega), Int.add_zero]
        rwa [e] at h
      have hs := start_fits' hq
      clear hw hq
      generalize startG g q = st at *
      have u1 : decide ((kn : Int) < 1) = false := decide_eq_false (by omega)
      have u2 : decide ((7 : Int) < kn) = false := decide_eq_false (by omega)
      have fc : ∀ W, GQ w g bc (fun i => cntW g i b) W → W.cell? ⟨bc, kn, none⟩ = some (.int .i64 (cntW g kn b)) ∧ W.frozen? ⟨bc, kn, none⟩ = false := fun W h => ⟨h.cr.cell kn hk9, h.cr.frz kn hk9⟩
      have FC := Lib.hid fc
      clear fc
      generalize cntW g kn b = cv at *
      by_cases g4 : 4 ≤ (kn : Int)
      · have v1 : decide (4 ≤ (kn : Int)) = true := decide_eq_true g4
        have v2 : (st + a != b) = false := by have := h4 g4; simp [this]
        have v3 : ((kn : Int) == 3) = false := by simp; omega
        have v4 : decide ((kn : Int) ≤ 2) = false := decide_eq_false (by omega)
        clear h4 h3 h2 g4
        go_wp2_with (first
          | (refine load_geo rfl (.tmp 1) rfl w.heap.size 0 rfl g (by first | exact Q.out.gp.2.at | exact Q2.out.gp.2.at) ?_)
          | (go_at_call 12; with_reducible refine (CWb.out _).mono ?_; rintro e wn ⟨rfl, hb⟩; have Q := Lib.hid (Q.out.step hb); clear hb; have c5 := (FC.out _ Q.out).1; have f5 := (FC.out _ Q.out).2; have Q2 := Lib.hid (HC.out _ (Q.out.set hk9 (cv + 1))))
          | (go_at_call 10; with_reducible refine (CSq.out _).mono ?_; rintro e wm ⟨rfl, hb⟩; have Q3 := Lib.hid (Q2.out.step hb); clear hb))
        go_roundw
        case rel => exact ⟨b + 1, by omega, by go_num, Q3⟩
        case measure => simp [intOf]; omega
      · have v1 : decide (4 ≤ (kn : Int)) = false := decide_eq_false g4
        by_cases g3 : (kn : Int) = 3
        · have v3 : ((kn : Int) == 3) = true := by simp [g3]
          have v2 : (a + 2 != b) = false := by have := h3 g3; simp [this]
          have v4 : decide ((kn : Int) ≤ 2) = false := decide_eq_false (by omega)
          clear h4 h3 h2 g4 g3
          go_wp2_with (first
            | (refine load_geo rfl (.tmp 1) rfl w.heap.size 0 rfl g (by first | exact Q.out.gp.2.at | exact Q2.out.gp.2.at) ?_)
            | (go_at_call 12; with_reducible refine (CWb.out _).mono ?_; rintro e wn ⟨rfl, hb⟩; have Q := Lib.hid (Q.out.step hb); clear hb; have c5 := (FC.out _ Q.out).1; have f5 := (FC.out _ Q.out).2; have Q2 := Lib.hid (HC.out _ (Q.out.set hk9 (cv + 1))))
            | (go_at_call 10; with_reducible refine (CSq.out _).mono ?_; rintro e wm ⟨rfl, hb⟩; have Q3 := Lib.hid (Q2.out.step hb); clear hb))
          go_roundw
          case rel => exact ⟨b + 1, by omega, by go_num, Q3⟩
          case measure => simp [intOf]; omega
        · have v3 : ((kn : Int) == 3) = false := by simp [g3]
          have v4 : decide ((kn : Int) ≤ 2) = true := decide_eq_true (by omega)
          have v2 : ((b : Int) != (kn : Int) - 1) = false := by have := h2 (by omega); simp [this]
          clear h4 h3 h2 g4 g3
          go_wp2_with (first
            | (refine load_geo rfl (.tmp 1) rfl w.heap.size 0 rfl g (by first | exact Q.out.gp.2.at | exact Q2.out.gp.2.at) ?_)
            | (go_at_call 12; with_reducible refine (CWb.out _).mono ?_; rintro e wn ⟨rfl, hb⟩; have Q := Lib.hid (Q.out.step hb); clear hb; have c5 := (FC.out _ Q.out).1; have f5 := (FC.out _ Q.out).2; have Q2 := Lib.hid (HC.out _ (Q.out.set hk9 (cv + 1))))
            | (go_at_call 10; with_reducible refine (CSq.out _).mono ?_; rintro e wm ⟨rfl, hb⟩; have Q3 := Lib.hid (Q2.out.step hb); clear hb))
          go_roundw
          case rel => exact ⟨b + 1, by omega, by go_num, Q3⟩
          case measure => simp [intOf]; omega
    · have t1 : decide ((b : Int) < n) = false := decide_eq_false hlt
      have hbn : b = (blocksG g).toNat := by rw [eb.out, HN.out]; omega
      have HC : Hid (∀ i : Int, cntW g i b = baseW g i + g.gr * perW g i) := Lib.hid fun i => by rw [hbn]; exact cnt_all HM.out i
      have CZ : Hid (∀ x W, x = -1 ∨ x = n → Calls Try.prog 12 #[.agg (gcs g), .int .i64 x] W fun e w' => e = .returned (.tuple #[.int .u8 0, .int .i64 0, .int .i64 0]) ∧ Below W.heap.size W w') := Lib.hid fun x W h => by
        have h0 : whatG g x = (0, 0, 0) := by
          unfold whatG
          rw [if_pos]
          rcases h with rfl | rfl
          · exact .inr (.inl (by omega))
          · exact .inr (.inr (by rw [eb.out, HN.out]; exact Int.le_refl _))
        have := CW.out x W (by omega) (by omega)
        rwa [h0] at this
      clear hbn CW CS FA hlt
      go_wp2_with fail
      go_loopw [11] (fun xv wr2 => ∃ x : Int, (x = -1 ∨ x = n ∨ x = 2 * n + 1) ∧ xv = .int .i64 x ∧ Hid (GQ w g bc (fun i => cntW g i b) wr2)) (fun xv _ => (2 * n + 2 - intOf xv).toNat)
      case atStart => exact ⟨-1, .inl rfl, rfl, Q⟩
      case round =>
        obtain ⟨x, hx, rfl, Q⟩ := hrel
        by_cases hle : x ≤ n
        · have t2 : decide (x ≤ n) = true := decide_eq_true hle
          have hx2 : x = -1 ∨ x = n := by omega
          have CZx := Lib.hid (fun W => CZ.out x W hx2)
          clear hx
          go_wp2_with (first
            | (refine load_geo rfl (.tmp 1) rfl w.heap.size 0 rfl g Q.out.gp.2.at ?_)
            | (go_at_call 12; with_reducible refine (CZx.out _).mono ?_; rintro e wn ⟨rfl, hb⟩; have Q3 := Lib.hid (Q.out.step hb); clear hb))
          go_roundw
          case rel => exact ⟨x + n + 1, by omega, by go_num, Q3⟩
          case measure => simp [intOf]; omega
        · have t2 : decide (x ≤ n) = false := decide_eq_false hle
          clear hx hle CZ
          have hm := HM.out
          have k1 : g.gr * (g.ino / 4) * 4 = g.gr * g.ino := by rw [Int.mul_assoc]; congr 1; have := hm.2.2.2.2.2.2.1; omega
          have k2 : 0 ≤ g.gr * (g.sz - 2 - g.ino / 4) := Int.mul_nonneg (by have := hm.1; omega) (by have := hm.2.2.2.2.2.2.2.2.2.1; omega)
          have k3 : g.gr * (g.sz - 2 - g.ino / 4) ≤ 4 * 512 := Int.mul_le_mul hm.2.1 (by have := hm.2.2.2.1; have := hm.2.2.2.2.1; omega) (by have := hm.2.2.2.2.2.2.2.2.2.1; omega) (by omega)
          have ho : ownG g - 2 = g.ino / 4 := by unfold ownG; omega
          have ho2 : g.sz - ownG g = g.sz - 2 - g.ino / 4 := by unfold ownG; omega
          have FIN : Hid (∀ W, GQ w g bc (fun i => cntW g i b) W → (W.cell? ⟨bc, 1, none⟩ = some (.int .i64 1) ∧ W.cell? ⟨bc, 2, none⟩ = some (.int .i64 1) ∧ W.cell? ⟨bc, 3, none⟩ = some (.int .i64 g.jr) ∧ W.cell? ⟨bc, 4, none⟩ = some (.int .i64 g.gr) ∧ W.cell? ⟨bc, 5, none⟩ = some (.int .i64 g.gr) ∧ W.cell? ⟨bc, 6, none⟩ = some (.int .i64 (g.gr * (g.ino / 4))) ∧ W.cell? ⟨bc, 7, none⟩ = some (.int .i64 (g.gr * (g.sz - 2 - g.ino / 4))))) := Lib.hid fun W h => by
            have e1 := h.cr.cell 1 (by decide)
            have e2 := h.cr.cell 2 (by decide)
            have e3 := h.cr.cell 3 (by decide)
            have e4 := h.cr.cell 4 (by decide)
            have e5 := h.cr.cell 5 (by decide)
            have e6 := h.cr.cell 6 (by decide)
            have e7 := h.cr.cell 7 (by decide)
            simp only [HC.out] at e1 e2 e3 e4 e5 e6 e7
            simp [baseW, perW, ho, ho2] at e1 e2 e3 e4 e5 e6 e7
            exact ⟨e1, e2, e3, e4, e5, e6, e7⟩
          clear HC hm ho ho2
          have w1 : ((1 : Int) == 1) = true := rfl
          have w3 : (g.jr == g.jr) = true := by simp
          have w4' : (g.gr == g.gr) = true := by simp
          have w6 : (4 * (g.gr * (g.ino / 4)) == g.gr * g.ino) = true := by rw [← k1]; simp [Int.mul_comm]
          have w7 : (g.gr * (g.sz - 2 - g.ino / 4) == g.gr * (g.sz - 2 - g.ino / 4)) = true := by simp
          go_wp2_with fail
          refine wp_region_class (GQ w g bc (fun i => cntW g i b)) (by kernel_rfl) (by kernel_rfl) (Q.out.step (Below.refl _ _).drew) ?_
          repeat (first | go_big_quiet_skip | (go_big_quiet_want; first | (refine quiet_geo _ rfl _ _ rfl g (by intro w' hw'; exact hw'.gp.2.at) ?_; simp only [Act.put, List.setIfInBounds_toArray, List.set_cons_zero, List.set_cons_succ]; go_big_quiet_on) | (refine quiet_int _ rfl _ rfl _ (by intro w' hw'; first | exact hw'.gp.2.c0 | exact hw'.gp.2.c1 | exact hw'.gp.2.c2 | exact hw'.gp.2.c3 | exact (FIN.out _ hw').1 | exact (FIN.out _ hw').2.1 | exact (FIN.out _ hw').2.2.1 | exact (FIN.out _ hw').2.2.2.1 | exact (FIN.out _ hw').2.2.2.2.1 | exact (FIN.out _ hw').2.2.2.2.2.1 | exact (FIN.out _ hw').2.2.2.2.2.2) ?_; simp only [Act.put, List.setIfInBounds_toArray, List.set_cons_zero, List.set_cons_succ]; go_big_quiet_on) | (go_big_quiet_op; first | go_big_quiet_on | (apply Exists.intro; refine ⟨fun _ _ => ?_, ?_⟩; (with_reducible exact rfl); go_big_quiet_on) | go_big_quiet_call ((intro hC; (first | (with_reducible refine (CI.out _).mono ?_) | (with_reducible refine (CD.out _).mono ?_)); exact fun e w' h => ⟨h.1, hC.step h.2⟩)))))
          refine wpQuiet_nil ?_
          intro w6' hw6
          have QF := Lib.hid hw6
          clear hw6
          go_wp2
          go_ret
          exact ⟨rfl, QF.out.gp.1⟩
end Go.Proofs.Ytamghbmeedbbgaa
