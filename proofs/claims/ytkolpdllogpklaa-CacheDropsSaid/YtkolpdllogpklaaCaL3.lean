import Derived.Test.YtkolpdllogpklaaCaL1
import Derived.Test.YtkolpdllogpklaaCaE
namespace Go.Proofs.Ytkolpdllogpklaa
open Go.RowKit Go.Maps

/-! CacheDrops. -/
theorem setPin_in {c : CS} {b : Int} (h : c.err b = 0) (on : Bool) : c.setPin b on = { c with pin := setM c.pin b on } := if_pos h
theorem pinned_notC {c : CS} {b : Int} (h : c.pin b = true) : b ∉ c.clean := fun q => by
  have h1 := (mem_clean.1 q).2
  unfold CS.isC at h1
  cases hm : c.m b with
  | none => rw [hm] at h1; cases h1
  | some e => rw [hm] at h1; simp [h] at h1
set_option maxRecDepth 100000 in
set_option maxHeartbeats 16000000 in
theorem cacheDrops_any (n B : Int) (pin : Bool) (A : Option Addr) (len cp : Nat) (l : List DoV) (w : World) (hl : len = l.length) (hA : DosAt w A l) (hf : ∀ x ∈ l, x.Fits) :
    Calls Try.prog 7 #[.int .i64 n, .slice A len cp, .int .i64 B, .bool pin] w fun e w' => e = .returned (.bool true) ∧ Below w.heap.size w w' := by
  have hz := fun W => zero_blk W
  by_cases h200 : 200 < len
  · have t0 : decide ((200 : Int) < len) = true := decide_eq_true (by omega)
    have t1 : decide (200 < len) = true := decide_eq_true h200
    go_enter Try.func7, Try.ntmps7
    go_wp2
    go_ret
    exact ⟨rfl, Below.refl _ _⟩
  · have t0 : decide ((200 : Int) < len) = false := decide_eq_false (by omega)
    have t1 : decide (200 < len) = false := decide_eq_false h200
    have RA := Lib.hid (ran_any n A len cp l w hl (by omega) hA hf)
    clear hl hA hf h200
    go_enter Try.func7, Try.ntmps7
    go_upto_region 6 with (go_at_call 26; refine RA.out.mono ?_; rintro e w1 ⟨p, a, g, N, k, c, M, rfl, n1, n64, hk, hr⟩; have R1 := Lib.hid hr; clear hr RA)
    obtain ⟨b, hb, hbN⟩ := ran_b B N n1 n64
    have j5 : (N : Int) ≤ 64 := by omega
    have j6 : (0 : Int) < N := by omega
    have j7 : ((N : Int) == 0) = false := by simp; omega
    go_upto_region 7 with fail
    rw [hb]
    have CN : Hid (c.n = N) := Lib.hid (R1.out.fine.len.trans R1.out.len)
    have E0 : c.err (b : Int) = 0 := cerr_in (by omega) (by rw [CN.out]; omega)
    have DD : Hid (c.a = a) := Lib.hid R1.out.disk
    cases pin
    · -- the block is dropped
      have hc1 : Hid (c.setPin (b : Int) false = { c with pin := setM c.pin (b : Int) false }) := Lib.hid (setPin_in E0 false)
      obtain ⟨c1, h1⟩ : ∃ c1 : CS, c.setPin (b : Int) false = c1 := ⟨_, rfl⟩
      have F1 : Hid (Fine c1 M) := Lib.hid (h1 ▸ R1.out.fine.pin _ _)
      have P1 : Hid (c1.pin (b : Int) = false) := Lib.hid (by rw [← h1, hc1.out]; exact setM_same _ _ _)
      have N1 : Hid (c1.n = N) := Lib.hid (by rw [← h1, hc1.out]; exact CN.out)
      have A1 : Hid (c1.a = a) := Lib.hid (by rw [← h1, hc1.out]; exact DD.out)
      have E1 : c1.err (b : Int) = 0 := cerr_in (by omega) (by rw [N1.out]; omega)
      have DE : Hid (c1.dropE (b : Int) = 0) := Lib.hid (by unfold CS.dropE; rw [if_pos E1, P1.out]; rfl)
      have DC : Hid (c1.drop (b : Int) = c1.cut (b : Int)) := Lib.hid (by unfold CS.drop; rw [if_pos ⟨E1, P1.out⟩])
      have LD0 : c1.d.err (b : Int) = 0 := F1.out.err (by omega) (by rw [N1.out]; omega)
      have E2 : (c1.cut (b : Int)).err (b : Int) = 0 := E1
      have M2 : (c1.cut (b : Int)).m (b : Int) = none := setM_same _ _ _
      have RV : Hid ((c1.cut (b : Int)).readV (b : Int) = c1.d.read (b : Int)) := Lib.hid (by unfold CS.readV; rw [if_pos E2, M2]; rfl)
      have RE : Hid ((c1.cut (b : Int)).readE (b : Int) = 0) := Lib.hid (by unfold CS.readE; rw [if_pos E2, M2]; exact LD0)
      have RC : (c1.cut (b : Int)).read (b : Int) = { c1 with m := setM (setM c1.m (b : Int) none) (b : Int) (some (c1.d.read (b : Int), false)) } := by unfold CS.read; rw [if_pos ⟨E2, M2, LD0⟩]; rfl
      obtain ⟨c3, h3⟩ : ∃ c3 : CS, (c1.cut (b : Int)).read (b : Int) = c3 := ⟨_, rfl⟩
      have A3 : Hid (c3.a = a ∧ c3.d = c1.d) := Lib.hid (by rw [← h3, RC]; exact ⟨A1.out, rfl⟩)
      have ND : Hid (decide ((b : Int) ∈ c3.dirty) = false) := Lib.hid (decide_eq_false fun q => by
        have hq := (mem_dirty.1 q).2
        unfold CS.isD at hq
        rw [← h3, RC] at hq
        have : CS.m { c1 with m := setM (setM c1.m (b : Int) none) (b : Int) (some (c1.d.read (b : Int), false)) } (b : Int) = some (c1.d.read (b : Int), false) := setM_same _ _ _
        rw [this] at hq
        cases hq)
      have L3 : Hid (c3.dirty.length ≤ 64) := Lib.hid (Nat.le_trans (pickL_length _ _) (by rw [show c3.n = c3.d.safe.length from rfl, A3.out.2]; show c1.n ≤ 64; rw [N1.out]; exact n64))
      have DR := Lib.hid (fun (W : World) (av : Av) (h : CA W p c3 av) => ca_dread W p c3 av (b : Int) h)
      rw [A3.out.1, A3.out.2, LD0] at DR
      obtain ⟨Y, hY⟩ : ∃ Y, c1.d.read (b : Int) = Y := ⟨_, rfl⟩
      rw [hY] at RV DR
      clear E0 E1 E2 M2 LD0 RC hY
      go_upto_region 12 with (first
        | (go_at_call 11; refine (ca_pin w1 p c _ (b : Int) false R1.out.ca).mono ?_; rintro e w2 ⟨rfl, hc2, hk2⟩; rw [h1] at hc2)
        | (go_at_call 19; refine (ca_drop w2 p c1 _ (b : Int) hc2).mono ?_; rintro e w3 ⟨rfl, hc3, hk3⟩; rw [DE.out]; rw [DC.out] at hc3)
        | (go_at_call 10; refine (ca_read w3 p _ _ (b : Int) hc3).mono ?_; rintro e w4 ⟨rfl, hc4, hk4⟩; rw [RV.out, RE.out]; rw [h3] at hc4)
        | (refine store_row rfl (.tmp 14) (.tmp 68) rfl w4.heap.size Y .zero 41 rfl rfl (heap_alloc_new _ _) ?_; rw [World.setRow_alloc_new]))
      have C5 := Lib.hid (hc4.below (below_newI w4 (.cells (arr Y) 41)))
      have V5 := Lib.hid (At.row (heap_alloc_new w4 (.cells (arr Y) 41)))
      have L5 : Hid (Below w.heap.size w (w4.alloc (.cells (arr Y) 41))) := Lib.hid (by
        have h := R1.out.low.trans (hk2.below fun _ hi => .inl hi)
        have h := h.trans (hk3.below fun _ hi => .inl hi)
        have h := h.trans (hk4.below fun _ hi => .inl hi)
        exact h.alloc h.size _)
      clear hc2 hk2 hc3 hk3 hc4 hk4 R1 h1 h3
      generalize w4.alloc (.cells (arr Y) 41) = w5 at *
      generalize w4.heap.size = g5 at *
      go_upto_region 13 with (first
        | (go_at_call 28; refine (DR.out w5 _ C5.out).mono ?_; rintro e w6 ⟨rfl, hb6⟩)
        | (refine store_row rfl (.tmp 16) (.tmp 74) rfl w6.heap.size Y .zero 41 rfl rfl (heap_alloc_new _ _) ?_; rw [World.setRow_alloc_new]))
      have C7 := Lib.hid ((C5.out.below hb6).below (below_newI w6 (.cells (arr Y) 41)))
      have V7 := Lib.hid ((V5.out.below hb6).below (below_newI w6 (.cells (arr Y) 41)))
      have U7 := Lib.hid (At.row (heap_alloc_new w6 (.cells (arr Y) 41)))
      have L7 : Hid (Below w.heap.size w (w6.alloc (.cells (arr Y) 41))) := Lib.hid (by
        have h := L5.out.trans (hb6.mono L5.out.size)
        exact h.alloc h.size _)
      clear hb6 C5 V5 L5 DR
      generalize w6.alloc (.cells (arr Y) 41) = w7 at *
      generalize w6.heap.size = g7 at *
      have heq := fun W => equalIn_blk Y Y W
      have hdy : decide (Y = Y) = true := decide_eq_true rfl
      have hgd := blk_guard
      clear RV RE A3 P1 N1 A1 DE DC F1 hc1
      go_wp2_with (first
        | (refine load_blk_w rfl (.tmp 14) rfl g5 0 rfl Y V7.out ?_)
        | (refine load_blk_w rfl (.tmp 16) rfl g7 0 rfl Y U7.out ?_)
        | (go_at_call 15; refine (ca_dirty _ p c3 _ C7.out).mono ?_; rintro e w8 ⟨⟨v8, rfl, ho8⟩, hb8⟩; obtain ⟨A8, q8, rfl, hq8, hd8⟩ := own_ints ho8 rfl; have D8 := Lib.hid hd8; have L8 := Lib.hid (L7.out.trans (hb8.mono L7.out.size)); clear ho8 hq8 hd8 hb8)
        | (go_at_call 29; refine (has_any A8 _ q8 c3.dirty (b : Int) _ rfl (by have := L3.out; omega) D8.out).mono ?_; rintro e w9 ⟨rfl, hw9⟩; obtain rfl := hw9.symm; rw [ND.out]))
      go_ret
      exact ⟨rfl, L8.out⟩
    · -- the block is pinned
      have hc1 : Hid (c.setPin (b : Int) true = { c with pin := setM c.pin (b : Int) true }) := Lib.hid (setPin_in E0 true)
      obtain ⟨c1, h1⟩ : ∃ c1 : CS, c.setPin (b : Int) true = c1 := ⟨_, rfl⟩
      have P1 : Hid (c1.pin (b : Int) = true) := Lib.hid (by rw [← h1, hc1.out]; exact setM_same _ _ _)
      have N1 : Hid (c1.n = N) := Lib.hid (by rw [← h1, hc1.out]; exact CN.out)
      have E1 : c1.err (b : Int) = 0 := cerr_in (by omega) (by rw [N1.out]; omega)
      have DE : Hid (c1.dropE (b : Int) = 110) := Lib.hid (by unfold CS.dropE; rw [if_pos E1, P1.out]; rfl)
      have DC : Hid (c1.drop (b : Int) = c1) := Lib.hid (by unfold CS.drop; rw [if_neg (by rw [P1.out]; simp)])
      have NC : Hid (decide ((b : Int) ∈ c1.clean) = false) := Lib.hid (decide_eq_false (pinned_notC P1.out))
      have L3 : Hid (c1.clean.length ≤ 64) := Lib.hid (Nat.le_trans (pickL_length _ _) (by rw [N1.out]; exact n64))
      clear E0 E1
      go_wp2_with (first
        | (go_at_call 11; refine (ca_pin w1 p c _ (b : Int) true R1.out.ca).mono ?_; rintro e w2 ⟨rfl, hc2, hk2⟩; rw [h1] at hc2)
        | (go_at_call 19; refine (ca_drop w2 p c1 _ (b : Int) hc2).mono ?_; rintro e w3 ⟨rfl, hc3, hk3⟩; rw [DE.out]; rw [DC.out] at hc3; have L3' : Hid (Below w.heap.size w w3) := Lib.hid ((R1.out.low.trans (hk2.below fun _ hi => .inl hi)).trans (hk3.below fun _ hi => .inl hi)))
        | (go_at_call 16; refine (ca_clean _ p c1 _ hc3).mono ?_; rintro e w8 ⟨⟨v8, rfl, ho8⟩, hb8⟩; obtain ⟨A8, q8, rfl, hq8, hd8⟩ := own_ints ho8 rfl; have D8 := Lib.hid hd8; have L8 := Lib.hid (L3'.out.trans (hb8.mono L3'.out.size)); have C8 := Lib.hid (hc3.below hb8); clear ho8 hq8 hd8 hb8)
        | (go_at_call 30; refine (evicted_any p c1 _ w8 C8.out (by rw [N1.out]; exact n64)).mono ?_; rintro e w9 ⟨⟨v9, rfl, ho9⟩, _, hk9⟩; obtain ⟨A9, q9, rfl, hq9, hd9⟩ := own_ints ho9 rfl; have D9 := Lib.hid hd9; have L9 : Hid (Below w.heap.size w w9) := Lib.hid (L8.out.trans (hk9.below fun _ hi => .inl hi)); clear ho9 hq9 hd9)
        | (go_at_call 29; first
            | (with_reducible refine (has_any A9 _ q9 c1.clean (b : Int) _ rfl (by have := L3.out; omega) D9.out).mono ?_); (rintro e w11 ⟨rfl, hw11⟩; obtain rfl := hw11.symm; rw [NC.out])
            | (with_reducible refine (has_any A8 _ q8 c1.clean (b : Int) _ rfl (by have := L3.out; omega) D8.out).mono ?_); (rintro e w10 ⟨rfl, hw10⟩; obtain rfl := hw10.symm; rw [NC.out])))
      go_ret
      exact ⟨rfl, L9.out⟩
end Go.Proofs.Ytkolpdllogpklaa
