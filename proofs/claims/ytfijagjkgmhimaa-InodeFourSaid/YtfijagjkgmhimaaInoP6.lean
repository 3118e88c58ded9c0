import Derived.Test.YtfijagjkgmhimaaInoP5
import Derived.Laws.CopyOwn
import Derived.BigQuiet
namespace Go.Proofs.Ytfijagjkgmhimaa
open Go.RowKit

/-! Put of the landed package. -/
theorem arr_splice (X : Blk) (a : Nat) (x : InoV) (hx : x.kd < 256) (ha : a + 64 ≤ 256) : ((arr X).toList.take a ++ ((im64 (imgI x)).toList ++ (arr X).toList.drop (a + (im64 (imgI x)).toList.length))).toArray = arr (putIB X a x hx) := by
  have hX : ∀ i, i < 256 → (arr X).toList[i]? = some (.int .u8 ((X.f i : Nat) : Int)) := fun i hi => by simpa using arr_get hi
  have hM : ∀ i, i < 64 → (im64 (imgI x)).toList[i]? = some (.int .u8 ((imgI x i : Nat) : Int)) := fun i hi => by simpa using im64_get hi
  have l1 : ((arr X).toList.take a).length = a := by rw [List.length_take, arr_length]; omega
  rw [im64_length]
  refine arr_ext (by simp [arr_size, im64_size]; omega) fun i hi => ?_
  rw [List.getElem?_toArray]
  rcases Nat.lt_or_ge i a with q | q
  · rw [List.getElem?_append_left (by omega), List.getElem?_take_of_lt q, hX i hi, putIB_off (.inl q)]
  · rw [List.getElem?_append_right (by omega), l1]
    obtain ⟨j, rfl⟩ := Nat.exists_eq_add_of_le q
    rw [show a + j - a = j by omega]
    rcases Nat.lt_or_ge j 64 with r | r
    · rw [List.getElem?_append_left (by rw [im64_length]; exact r), hM j r, putIB_in ha r]
    · rw [List.getElem?_append_right (by rw [im64_length]; exact r), im64_length, List.getElem?_drop, show a + 64 + (j - 64) = a + j by omega, hX _ hi, putIB_off (.inr (by omega))]
theorem im64_cells {w : World} {b : Nat} {f : Nat → Nat} (h : MVar w b f) : ∀ j v, (im64 f).toList[j]? = some v → w.cell? ((⟨b, 0, none⟩ : Addr).add j) = some v := fun j v hv => by
  have := h.at j v hv
  rw [show ((⟨b, 0, none⟩ : Addr).add j) = ⟨b, 0 + j, none⟩ from by unfold Addr.add; split <;> simp_all]
  exact this
theorem im64_onecell (f : Nat → Nat) : ∀ v ∈ (im64 f).toList, v.oneCell' = true := fun v hv => by
  rw [im64_list] at hv
  simp only [bytesOf, List.mem_map] at hv
  obtain ⟨i, _, rfl⟩ := hv
  rfl
theorem Only.rowSelf (g : Nat) (w : World) (cs : Array Value) : Only g w (w.setRow g cs) := ⟨rfl, rfl, rfl, by simp [World.setRow], fun i _ hne => setRow_other w g i cs (fun e => hne (by rw [e]))⟩
theorem u8_one : (Try.prog.info? 5).map (·.size) = some 1 := by kernel_rfl
set_option maxRecDepth 100000 in
set_option maxHeartbeats 2000000 in
theorem pPut_nil (at_ : Int) (x : InoV) (w : World) : Calls Try.prog 10 #[.pointer none, .int .i64 at_, .agg (ics x)] w fun e w' => e = .returned (.int .i64 1) ∧ Below w.heap.size w w' := by
  have B := Lib.hid (below_new w (.cells (ics x) 27))
  go_enter Try.func10, Try.ntmps10
  go_wp2
  go_ret
  exact ⟨rfl, B.out⟩
set_option maxRecDepth 100000 in
set_option maxHeartbeats 4000000 in
theorem pPut (b : Nat) (X : Blk) (at_ : Int) (x : InoV) (w : World) (hV : BVar w b X) (h0 : -9223372036854775808 ≤ at_) (h1 : at_ ≤ 9223372036854775807) (hx : x.Fits) :
    Calls Try.prog 10 #[.pointer (some ⟨b, 0, none⟩), .int .i64 at_, .agg (ics x)] w fun e w' => e = .returned (.int .i64 (putI X at_ x).2) ∧ BVar w' b (putI X at_ x).1 ∧ Only b w w' := by
  have hz := fun W => zero_im W
  have V : Hid (IVar (w.alloc (.cells (ics x) 27)) w.heap.size x) := Lib.hid (heap_alloc_new w _)
  have B := Lib.hid (below_new w (.cells (ics x) 27))
  have W1 := Lib.hid (hV.below B.out)
  have FX := Lib.hid hx
  have hlt := hV.lt
  clear hV hx
  rcases hp : placeB at_ with _ | _
  · have hn : ¬ PlaceI at_ := fun q => by rw [(placeB_iff at_).2 q] at hp; cases hp
    have E := Lib.hid (putI_place (X := X) (x := x) hn)
    have CI : Hid (∀ W, Calls Try.prog 17 #[.int .i64 at_] W fun e w' => e = .returned (.bool false) ∧ w' = W) := Lib.hid fun W => by have := isPlace_any at_ W h0 h1; rwa [hp] at this
    clear hp hn
    go_enter Try.func10, Try.ntmps10
    go_wp2_with (go_at_call 17; with_reducible refine (CI.out _).mono ?_; rintro e w2 ⟨rfl, rfl⟩)
    go_ret
    rw [E.out]
    exact ⟨rfl, W1.out, Only.of_below B.out⟩
  have hy : PlaceI at_ := (placeB_iff at_).1 hp
  have CI : Hid (∀ W, Calls Try.prog 17 #[.int .i64 at_] W fun e w' => e = .returned (.bool true) ∧ w' = W) := Lib.hid fun W => by have := isPlace_any at_ W h0 h1; rwa [hp] at this
  have CM := Lib.hid fun W => pMay x W FX.out
  rcases hm : mayB x with _ | _
  · have hn : ¬ MayI x := fun q => by rw [(mayB_iff x).2 q] at hm; cases hm
    have E := Lib.hid (putI_not (X := X) hy hn)
    rw [hm] at CM
    clear hp hn hy hm
    go_enter Try.func10, Try.ntmps10
    go_wp2_with (first
      | (refine load_ino rfl (.tmp 5) rfl w.heap.size 0 rfl x V.out.at ?_)
      | (go_at_call 17; with_reducible refine (CI.out _).mono ?_; rintro e w2 ⟨rfl, rfl⟩)
      | (go_at_call 12; with_reducible refine (CM.out _).mono ?_; rintro e w3 ⟨rfl, hb⟩))
    go_ret
    rw [E.out]
    exact ⟨rfl, W1.out.below hb, (Only.of_below B.out).trans (Only.of_below hb)⟩
  have hmy : MayI x := (mayB_iff x).1 hm
  obtain ⟨a, rfl, ha⟩ := hy.nat
  have E : Hid (putI X (a : Int) x = (putIB X a x FX.out.kd, 0)) := Lib.hid (by have := putI_may (X := X) hy FX.out.kd hmy; rwa [Int.toNat_natCast] at this)
  have CO := Lib.hid fun W => imageOf_any x FX.out hmy W
  have ha2 : a + 64 ≤ 256 := by omega
  rw [hm] at CM
  have ha3 : (a : Int) ≤ 256 := by omega
  clear hp hy hm hmy ha
  go_enter Try.func10, Try.ntmps10
  go_upto_region 7 with (first
      | (refine load_ino rfl (.tmp 5) rfl w.heap.size 0 rfl x V.out.at ?_)
      | (go_at_call 17; with_reducible refine (CI.out _).mono ?_; rintro e w2 ⟨rfl, rfl⟩)
      | (go_at_call 12; with_reducible refine (CM.out _).mono ?_; rintro e w3 ⟨rfl, hb⟩))
  have V3 := Lib.hid (V.out.below hb)
  have W3 := Lib.hid (W1.out.below hb)
  have O3 := Lib.hid ((Only.of_below (g := b) B.out).trans (Only.of_below hb))
  clear V W1 B CI CM hb
  go_upto_region 8 with (first
    | (refine load_ino rfl (.tmp 5) rfl w.heap.size 0 rfl x V3.out.at ?_)
    | (go_at_call 18; with_reducible refine (CO.out _).mono ?_; rintro e w4 ⟨rfl, hb⟩)
    | (refine store_newM rfl (.tmp 7) (.tmp 20) rfl (imgI x) rfl rfl ?_))
  have bn := below_new w4 (.cells (im64 (imgI x)) 48)
  have W5 := Lib.hid ((W3.out.below hb).below bn)
  have M5 := Lib.hid (show MVar (w4.alloc (.cells (im64 (imgI x)) 48)) w4.heap.size (imgI x) from heap_alloc_new w4 _)
  have O5 := Lib.hid ((O3.out.trans (Only.of_below hb)).trans (Only.of_below bn))
  clear hb bn V3 W3 O3 CO
  generalize w4.alloc (.cells (im64 (imgI x)) 48) = w5 at W5 M5 O5 ⊢
  generalize w4.heap.size = bm at M5 ⊢
  refine wp_region_class_tail (fun W' => W' = w5.drew) 5 (by kernel_rfl) (by kernel_rfl) rfl ?_
  simp only [List.take_succ_cons, List.take_zero, List.drop_succ_cons, List.drop_zero, Act.put]
  repeat (first | go_big_quiet_skip | (go_big_quiet_want; (go_big_quiet_op; first | go_big_quiet_on | (apply Exists.intro; refine ⟨fun _ _ => ?_, ?_⟩; (with_reducible exact rfl); go_big_quiet_on))))
  refine wpQuiet_nil ?_
  rintro w6 rfl
  refine wpList_copy_own rfl (.tmp 24) (.tmp 25) 50 50 rfl 5 Try.underlying50 u8_one b a _ _ ⟨bm, 0, none⟩ 64 64 rfl rfl (arr X) 23 W5.out (im64 (imgI x)).toList ?_ (im64_cells (M5.out.drewN 1)) (by rw [im64_length, arr_size]; omega) (im64_onecell _) ?_
  · rw [im64_length]; exact (Nat.min_eq_left (by omega)).symm
  simp only [Act.put]
  rw [arr_splice X a x FX.out.kd ha2]
  have W7 := Lib.hid (show BVar (w5.drew.setRow b (arr (putIB X a x FX.out.kd))) b (putIB X a x FX.out.kd) from setRow_heap _ _ _ _ _ _ W5.out)
  go_wp2
  go_ret
  rw [E.out]
  exact ⟨rfl, W7.out, (O5.out.trans (Only.drewN b w5 1)).trans (Only.rowSelf b _ _)⟩
end Go.Proofs.Ytfijagjkgmhimaa
