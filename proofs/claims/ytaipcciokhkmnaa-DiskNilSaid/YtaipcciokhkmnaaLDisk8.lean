import Derived.Test.YtaipcciokhkmnaaLDisk7
namespace Go.Proofs.Ytaipcciokhkmnaa
open Go.RowKit

theorem now_set (s : DS) (k : Nat) (X : Blk) : over s.safe (s.wait ++ [(k, X)]) = s.now.set k X := by rw [over_append]; rfl
theorem ldead (s : DS) : s.dead = true ↔ (lsOf s).left = some 0 := by unfold DS.dead lsOf; simp
theorem oimg_made {w : World} {g n : Nat} {t : TypeId} (h : w.heap[g]? = some (.cells (madeBlks n) t (0, 0))) : OImg w g 0 (List.replicate n .zero) := by
  refine ⟨t, _, h, fun i x hx j hj => ?_⟩
  rw [List.getElem?_replicate] at hx
  split at hx
  · cases hx
    rename_i hi
    rw [madeBlks_get (by omega)]
    rfl
  · cases hx
/-- The program's own disk does what the contract says. -/
theorem lSays : DiskSays LD where
  frame := by
    rintro w w' a s av av' ⟨⟨b, g, o, g2, o2, n, c, c2, v, rfl, h⟩, hl⟩ hs hk hv
    exact ⟨⟨b, g, o, g2, o2, n, c, c2, v, rfl, h.frame hs hk hv⟩, hl⟩
  bound := by
    rintro w a s av ⟨⟨b, g, o, g2, o2, n, c, c2, v, rfl, h⟩, _⟩
    exact h.bound
  ok := by
    rintro w a s av ⟨⟨b, g, o, g2, o2, n, c, c2, v, rfl, h⟩, hl⟩
    obtain ⟨o1, o2, o3, o4, o5⟩ := h.ok
    have hn : n = s.safe.length := h.len
    exact ⟨by omega, by omega, fun p hp => by rw [← hn]; exact o3 p hp, hl, o5⟩
  new_no := fun n w h => (lNew_no n w h).mono fun e w' ⟨he, hw⟩ => ⟨he, hw ▸ Below.refl _ _⟩
  new_yes := fun n w h1 h2 => by
    obtain ⟨k, rfl⟩ := Int.eq_ofNat_of_zero_le (show 0 ≤ n by omega)
    refine (lNew_yes k w (by omega) (by omega)).mono ?_
    rintro e w' ⟨⟨b, g, g2, rfl, hN⟩, hB⟩
    have e1 := hN.r1
    refine ⟨⟨_, rfl, ⟨b, g, 0, g2, 0, k, k, k, .slice none 0 0, rfl, ?_⟩, Nat.le_refl _⟩, hB⟩
    rw [Int.toNat_natCast]
    exact hN.disk (w0 := w) (w := w') (w' := w') rfl rfl (l := List.replicate k .zero) (l2 := List.replicate k .zero) (oimg_made hN.r1) (oimg_made hN.r2) (by simp) (by simp) (by omega) (by omega) _ (fun _ h => h) hB.size
  load_no := fun A n c l w _ _ h hn => (lLoad_no A n c w h hn).mono fun e w' ⟨he, hw⟩ => ⟨he, hw ▸ Below.refl _ _⟩
  load_yes := fun A n c l w hn hA h1 h2 => by
    refine (lLoad_yes A n c l w hn hA h1 h2).mono ?_
    rintro e w' ⟨⟨b, g, g2, rfl, h⟩, hB⟩
    exact ⟨⟨_, rfl, ⟨b, g, 0, g2, 0, n, n, n, .slice none 0 0, rfl, h⟩, Nat.le_refl _⟩, hB⟩
  blocks := by
    rintro a s av w ⟨⟨b, g, o, g2, o2, n, c, c2, v, rfl, h⟩, hl⟩
    refine (lBlocks_any w b (lsOf s) g o g2 o2 n c c2 v av h).mono ?_
    rintro e w' ⟨rfl, rfl⟩
    exact ⟨by rw [h.len]; rfl, ⟨⟨b, g, o, g2, o2, n, c, c2, v, rfl, h⟩, hl⟩, Keep.refl _ _⟩
  waiting := by
    rintro a s av w ⟨⟨b, g, o, g2, o2, n, c, c2, v, rfl, h⟩, hl⟩
    obtain ⟨A, cv, rfl⟩ := h.wait.shape
    refine (lWaiting_any w b (lsOf s) g o g2 o2 n c c2 av A cv h).mono ?_
    rintro e w' ⟨rfl, rfl⟩
    exact ⟨rfl, ⟨⟨b, g, o, g2, o2, n, c, c2, _, rfl, h⟩, hl⟩, Keep.refl _ _⟩
  acts := by
    rintro a s av w ⟨⟨b, g, o, g2, o2, n, c, c2, v, rfl, h⟩, hl⟩
    refine (lActs_any w b (lsOf s) g o g2 o2 n c c2 v av h).mono ?_
    rintro e w' ⟨rfl, rfl⟩
    exact ⟨rfl, ⟨⟨b, g, o, g2, o2, n, c, c2, v, rfl, h⟩, hl⟩, Keep.refl _ _⟩
  dead := by
    rintro a s av w ⟨⟨b, g, o, g2, o2, n, c, c2, v, rfl, h⟩, hl⟩
    refine (lDead_any w b (lsOf s) g o g2 o2 n c c2 v av h).mono ?_
    rintro e w' ⟨rfl, rfl⟩
    exact ⟨rfl, ⟨⟨b, g, o, g2, o2, n, c, c2, v, rfl, h⟩, hl⟩, Keep.refl _ _⟩
  read := by
    rintro a s av p w ⟨⟨b, g, o, g2, o2, n, c, c2, v, rfl, h⟩, hl⟩
    refine (lRead_any w b (lsOf s) g o g2 o2 n c c2 v av p h).mono ?_
    rintro e w' ⟨rfl, hB⟩
    refine ⟨?_, ⟨⟨b, g, o, g2, o2, n, c, c2, v, rfl, h.below hB⟩, hl⟩, (Keep.of_below hB).mono h.bound⟩
    unfold readOf DS.read
    rw [errOf_ls]; rfl
  write := by
    rintro a s av p x w ⟨⟨b, g, o, g2, o2, n, c, c2, v, rfl, h⟩, hl⟩ ha
    by_cases he : errOf (lsOf s) p = 0
    · have h0 : 0 ≤ p := by
        unfold errOf at he
        split at he
        · omega
        · split at he
          · omega
          · omega
      obtain ⟨k, rfl⟩ := Int.eq_ofNat_of_zero_le h0
      refine (lWrite_yes w b (lsOf s) g o g2 o2 n c c2 v av k x h he ha (by have : s.wait.length ≤ s.acts := hl; show s.wait.length < 1000000; omega)).mono ?_
      rintro e w' ⟨rfl, ⟨v', h'⟩, hk⟩
      rw [errOf_ls] at he
      refine ⟨by rw [he], ⟨⟨b, g, o, g2, o2, n, c, c2, v', rfl, ?_⟩, ?_⟩, hk⟩
      · have e2 : lsOf (s.write k x) = ⟨s.safe, s.now.set k x, s.wait ++ [(k, x)], s.acts + 1, s.left.map (· - 1)⟩ := by
          unfold DS.write
          rw [if_pos he, Int.toNat_natCast, ← now_set]
          rfl
        rw [e2]; exact h'
      · unfold DS.write
        rw [if_pos he]
        show (s.wait ++ [(_, x)]).length ≤ s.acts + 1
        simp; exact hl
    · refine (lWrite_no w b (lsOf s) g o g2 o2 n c c2 v av p x h he).mono ?_
      rintro e w' ⟨rfl, hB⟩
      rw [errOf_ls] at he
      have e2 : s.write p x = s := by unfold DS.write; rw [if_neg he]
      exact ⟨by rw [errOf_ls], by rw [e2]; exact ⟨⟨b, g, o, g2, o2, n, c, c2, v, rfl, h.below hB⟩, hl⟩, (Keep.of_below hB).mono h.bound⟩
  flush := by
    rintro a s av w ⟨⟨b, g, o, g2, o2, n, c, c2, v, rfl, h⟩, hl⟩ ha
    refine (lFlush_any w b (lsOf s) g o g2 o2 n c c2 v av h rfl ha).mono ?_
    rintro e w' ⟨rfl, ⟨v', h'⟩, hk⟩
    have hn : (1 : Int) ≤ s.safe.length := by have h1 := h.ok.1; have h2 : n = s.safe.length := h.len; omega
    cases hd : s.dead
    · have hd' : ¬ (lsOf s).left = some 0 := fun q => by rw [(ldead s).2 q] at hd; cases hd
      rw [if_neg hd'] at h' ⊢
      have e2 : lsOf s.flush = ⟨s.now, s.now, [], s.acts + 1, s.left.map (· - 1)⟩ := by rw [DS.flush_live hd]; rfl
      refine ⟨?_, ⟨⟨b, g, o, g2, o2, n, c, c2, v', rfl, by rw [e2]; exact h'⟩, by rw [DS.flush_live hd]; exact Nat.zero_le _⟩, hk⟩
      rw [DS.err_in hd (by omega)]
    · have hd' := (ldead s).1 hd
      rw [if_pos hd'] at h' ⊢
      have e2 : s.flush = s := by unfold DS.flush; rw [if_pos hd]
      exact ⟨by rw [DS.err_dead hd], by rw [e2]; exact ⟨⟨b, g, o, g2, o2, n, c, c2, v', rfl, h'⟩, hl⟩, hk⟩
  power := by
    rintro a s av p w ⟨⟨b, g, o, g2, o2, n, c, c2, v, rfl, h⟩, hl⟩ hp
    refine (lPower_any w b (lsOf s) g o g2 o2 n c c2 v av p h hp).mono ?_
    rintro e w' ⟨rfl, h', hk⟩
    exact ⟨rfl, ⟨⟨b, g, o, g2, o2, n, c, c2, v, rfl, h'⟩, hl⟩, hk⟩
  crash := by
    rintro a s av K m c l w ⟨⟨b, g, o, g2, o2, n, c1, c2, v, rfl, h⟩, hl⟩ hm hK hKb _
    refine (lCrash_any w b (lsOf s) g o g2 o2 n c1 c2 v av K m c l h hm hK hKb).mono ?_
    rintro e w' ⟨rfl, h', hk⟩
    have e2 : settleN (over (lsOf s).safe (kept (lsOf s).wait l)) (lsOf s).wait (lsOf s).now = over s.safe (kept s.wait l) := settle_now s.safe s.wait l
    rw [e2] at h'
    exact ⟨rfl, ⟨⟨b, g, o, g2, o2, n, c1, c2, _, rfl, h'⟩, Nat.zero_le _⟩, hk⟩
  image := by
    rintro a s av w ⟨⟨b, g, o, g2, o2, n, c, c2, v, rfl, h⟩, hl⟩
    refine (lImage_any w b (lsOf s) g o g2 o2 n c c2 v av h).mono ?_
    rintro e w' ⟨rfl, hi, hB⟩
    refine ⟨⟨w.heap.size, 0, n, by rw [h.len]; rfl, hi, Nat.le_refl _, ⟨b, g, o, g2, o2, n, c, c2, v, rfl, h.frame hB.size (fun i hi _ => hB.block i hi) fun i hi => ?_⟩, hl⟩, (Keep.of_below hB).mono h.bound⟩
    rcases hi with q | rfl
    · exact .inl q
    · exact .inr ⟨Nat.le_refl _, hi.lt⟩
  safe := by
    rintro a s av w ⟨⟨b, g, o, g2, o2, n, c, c2, v, rfl, h⟩, hl⟩
    refine (lSafe_any w b (lsOf s) g o g2 o2 n c c2 v av h).mono ?_
    rintro e w' ⟨rfl, hi, hB⟩
    refine ⟨⟨w.heap.size, 0, n, by rw [h.len]; rfl, hi, Nat.le_refl _, ⟨b, g, o, g2, o2, n, c, c2, v, rfl, h.frame hB.size (fun i hi _ => hB.block i hi) fun i hi => ?_⟩, hl⟩, (Keep.of_below hB).mono h.bound⟩
    rcases hi with q | rfl
    · exact .inl q
    · exact .inr ⟨Nat.le_refl _, hi.lt⟩
end Go.Proofs.Ytaipcciokhkmnaa
