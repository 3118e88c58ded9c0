import Derived.Test.YtaipcciokhkmnaaRDisk8
import Derived.Laws.CopyOwn
namespace Go.Proofs.Ytaipcciokhkmnaa
open Go.RowKit

/-! copy of blocks into a row of the call's own. -/
theorem run_copy_wide {P : Program} (w : World) (dT sT ty elem : TypeId) (S : Nat) (g o dLen dCap : Nat) (a : Addr) (sLen sCap : Nat) (cur : Array Value) (t : TypeId) (cs : List Value)
    (hu : P.underlying dT = some (.slice elem)) (hs : (P.info? elem).map (·.size) = some S)
    (hg : w.heap[g]? = some (.cells cur t (0, 0))) (hn : cs.length = Nat.min sLen dLen * S)
    (hsrc : ∀ j v, cs[j]? = some v → w.cell? (a.add j) = some v) (hfit : o + cs.length ≤ cur.size) (h1 : ∀ v ∈ cs, v.oneCell' = true) :
    (Builtin.copy_ #[dT, sT] ty #[.slice (some ⟨g, o, none⟩) dLen dCap, .slice (some a) sLen sCap]).run P w =
      .ok (goInt (Nat.min sLen dLen)) (w.setRow g (cur.toList.take o ++ cs ++ cur.toList.drop (o + cs.length)).toArray) := by
  have hl := run_loadCells_list (P := P) w a cs hsrc
  have hst := run_storeCells_at P g o t cs 0 cur w hg (by simpa using hfit) h1
  cases hq : P.info? elem with
  | none => simp [hq] at hs
  | some i =>
    have hi : i.size = S := by simpa [hq] using hs
    have hn' : min sLen dLen * S = cs.length := hn.symm
    simp [Builtin.copy_, run_underlying hu, Builtin.lenOf, Builtin.firstCells, sizeOf, typeInfo, hq, hi, hn', hl, hst]
/-- The copy of a whole image into new memory of the same length. -/
theorem run_copy_blks (w : World) (dT sT ty elem : TypeId) (g : Nat) (n dCap : Nat) (sg so sCap : Nat) (cur : Array Value) (t : TypeId) (l : List Blk)
    (hu : Try.prog.underlying dT = some (.slice elem)) (hs : (Try.prog.info? elem).map (·.size) = some 256)
    (hg : w.heap[g]? = some (.cells cur t (0, 0))) (hc : cur.size = n * 256) (hn : l.length = n) (hsrc : ∀ i x, l[i]? = some x → At w sg (so + i * 256) x) :
    ∃ cur', (Builtin.copy_ #[dT, sT] ty #[.slice (some ⟨g, 0, none⟩) n dCap, .slice (some ⟨sg, so, none⟩) n sCap]).run Try.prog w = .ok (goInt n) (w.setRow g cur') ∧ OImg (w.setRow g cur') g 0 l := by
  have h := run_copy_wide (P := Try.prog) w dT sT ty elem 256 g 0 n dCap ⟨sg, so, none⟩ n sCap cur t (bcells l) hu hs hg (by rw [bcells_length, hn]; simp) (bcells_news hsrc) (by rw [bcells_length, hn, hc]; omega) (bcells_one l)
  rw [show Nat.min n n = n from Nat.min_self n] at h
  refine ⟨_, h, ?_⟩
  have e : (List.take 0 cur.toList ++ bcells l ++ List.drop (0 + (bcells l).length) cur.toList).toArray = (bcells l).toArray := by
    have : List.drop (0 + (bcells l).length) cur.toList = [] := List.drop_eq_nil_of_le (by rw [bcells_length, hn, Array.length_toList, hc]; omega)
    rw [this]; simp
  rw [e]
  refine ⟨t, _, setRow_heap w g cur (bcells l).toArray t _ hg, fun i x hx j hj => ?_⟩
  have := bcells_get hx hj
  simpa using this
end Go.Proofs.Ytaipcciokhkmnaa
