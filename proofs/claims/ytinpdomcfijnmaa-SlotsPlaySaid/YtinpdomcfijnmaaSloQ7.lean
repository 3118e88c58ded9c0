import Derived.Test.YtinpdomcfijnmaaSloQ6
namespace Go.Proofs.Ytinpdomcfijnmaa
open Go.RowKit

/-! The document's own Remove and Add. -/
theorem res_blk {fn : Func} {p u : Tmp} (h : fn.results = #[.cell p 23, .tmp u]) (tmps : Array Value) (w : World) (g : Nat) (X : Blk) (v : Value) (t : TypeId) (hp : tmps.getD p undef = .pointer (some ⟨g, 0, none⟩)) (hu : tmps.getD u undef = v) (hg : w.heap[g]? = some (.cells (arr X) t (0, 0))) :
    (results fn tmps).run Try.prog w = .ok (.tuple #[.agg (arr X), v]) w := by
  rw [results_blk_tmp h tmps w g X t hp hg, hu]
/-- What they keep in memory: the block, the answer. -/
structure RM (w0 : World) (X : Blk) (w : World) : Prop where
  blk : BVar w w0.heap.size X
  res : BVar w (w0.heap.size + 1) .zero
  low : Below w0.heap.size w0 w
theorem RM.below {w0 w w' : World} {X : Blk} (h : RM w0 X w) (hb : Below w.heap.size w w') : RM w0 X w' := ⟨h.blk.below hb, h.res.below hb, low_go h.low hb⟩
theorem RM.new (w : World) (X : Blk) : RM w X ((w.alloc (.cells (arr X) 23)).alloc (.cells (arr .zero) 23)) :=
  ⟨BVar.below (heap_alloc_new w _) (below_new _ _), heap_alloc2_new w _ _, low_go (below_new w _) (below_new _ _)⟩
theorem RM.end {w0 w : World} {X : Blk} (h : RM w0 X w) (Y : Blk) : (w.setRow (w0.heap.size + 1) (arr Y)).heap[w0.heap.size + 1]? = some (.cells (arr Y) 23 (0, 0)) := set_heap _ _ _ _ h.res
theorem find_neg {X : Blk} {s : ByteArray} : (Right X ∧ ∃ i, whereN X s = some i ∧ i < 8 ∧ findD X s = ((i : Int), (slotS X i).ino)) ∨ (¬ (Right X ∧ ∃ i, whereN X s = some i) ∧ findD X s = (-1, 0)) := by
  unfold findD
  by_cases hr : Right X
  · rw [if_pos hr]
    rcases e : whereN X s with _ | i
    · refine .inr ⟨fun q => ?_, rfl⟩
      obtain ⟨_, i, h⟩ := q
      cases h
    · exact .inl ⟨hr, i, rfl, ((where_some hr).1 e).1, rfl⟩
  · rw [if_neg hr]
    exact .inr ⟨fun q => hr q.1, rfl⟩
set_option maxRecDepth 100000 in
set_option maxHeartbeats 4000000 in
theorem rRemove (X : Blk) (s : ByteArray) (w : World) : Calls Try.prog 20 #[.agg (arr X), .string s] w fun e w' => e = .returned (.tuple #[.agg (arr (remD X s).1), .bool (remD X s).2]) ∧ Below w.heap.size w w' := by
  have hz := fun W => zero_blk W
  have P := Lib.hid (RM.new w X)
  have CF := Lib.hid fun W => rFind X s W
  rcases find_neg (X := X) (s := s) with ⟨hr, i, hw, hi, hf⟩ | ⟨hn, hf⟩
  · have E : Hid (remD X s = (setS X i .free, true)) := Lib.hid (by unfold remD; rw [if_pos hr, hw])
    rw [hf] at CF
    have CP := Lib.hid fun W => rPut X i .free W hi .free
    have t0 : decide ((i : Int) < 0) = false := by simp
    have t1 : ¬ (i : Int) < 0 := by omega
    clear hf hw hr
    go_enter Try.func20, Try.ntmps20
    go_upto_region 1 with fail
    generalize (w.alloc (.cells (arr X) 23)).alloc (.cells (arr .zero) 23) = w1 at P ⊢
    go_wp2_with (first
      | (refine load_blk rfl (.tmp 2) rfl w.heap.size 0 rfl X P.out.blk.at ?_)
      | (go_at_call 14; with_reducible refine (CF.out _).mono ?_; rintro e w2 ⟨rfl, hb⟩; have P2 := Lib.hid (P.out.below hb); clear hb)
      | (refine load_blk rfl (.tmp 2) rfl w.heap.size 0 rfl X P2.out.blk.at ?_)
      | (refine build_slot rfl #[] rfl .free slot_built0 ?_)
      | (go_at_call 32; with_reducible refine (CP.out _).mono ?_; rintro e w3 ⟨rfl, hb⟩; have P3 := Lib.hid (P2.out.below hb); clear hb)
      | (refine store_row rfl (.tmp 4) (.tmp 20) rfl (w.heap.size + 1) (setS X i .free) .zero 23 rfl rfl P3.out.res ?_))
    exact bodyPost_ret (res_blk Try.results20 _ _ (w.heap.size + 1) (setS X i .free) (.bool true) _ rfl rfl (P3.out.end _)) rfl ⟨by rw [E.out], below_setRow P3.out.low (by omega) _⟩
  · have E : Hid (remD X s = (X, false)) := Lib.hid (by
      unfold remD
      by_cases hr : Right X
      · rw [if_pos hr]
        rcases e : whereN X s with _ | i
        · rfl
        · exact absurd ⟨hr, i, e⟩ hn
      · rw [if_neg hr])
    rw [hf] at CF
    clear hf hn
    go_enter Try.func20, Try.ntmps20
    go_upto_region 1 with fail
    generalize (w.alloc (.cells (arr X) 23)).alloc (.cells (arr .zero) 23) = w1 at P ⊢
    go_wp2_with (first
      | (refine load_blk rfl (.tmp 2) rfl w.heap.size 0 rfl X P.out.blk.at ?_)
      | (go_at_call 14; with_reducible refine (CF.out _).mono ?_; rintro e w2 ⟨rfl, hb⟩; have P2 := Lib.hid (P.out.below hb); clear hb)
      | (refine load_blk rfl (.tmp 2) rfl w.heap.size 0 rfl X P2.out.blk.at ?_)
      | (refine store_row rfl (.tmp 4) (.tmp 16) rfl (w.heap.size + 1) X .zero 23 rfl rfl P2.out.res ?_))
    exact bodyPost_ret (res_blk Try.results20 _ _ (w.heap.size + 1) X (.bool false) _ rfl rfl (P2.out.end _)) rfl ⟨by rw [E.out], below_setRow P2.out.low (by omega) _⟩
end Go.Proofs.Ytinpdomcfijnmaa
