/-
  OctetNums, walked: for every number and whatever stands behind it answers true, and writes nothing that was there.
-/
import Derived.Test.YtkchdkcdkeajkaaOcRefNum
import Derived.Test.YtkchdkcdkeajkaaOcReaderNum
namespace Go.Proofs.Ytkchdkcdkeajkaa.Oc
open Go.RowKit

theorem numOf_byt (v : Int) (h0 : -9223372036854775808 ≤ v) (h1 : v ≤ 9223372036854775807) : Byt (numOf v) := by
  have hr := foldI_range v h0 h1
  exact numB_bytes 9 _ (Fits.start _ hr.1 hr.2)
theorem Byt.append {a b : List Int} (ha : Byt a) (hb : Byt b) : Byt (a ++ b) := fun z hz => by
  rcases List.mem_append.1 hz with h | h
  · exact ha z h
  · exact hb z h
/-- A Reader is as it was, if its block and its row are. -/
theorem Rd.keep {w w' : World} {b : Nat} {v : Value} {zs : List Int} {e : Int} (h : Rd w b v zs e) (hb : w'.heap[b]? = w.heap[b]?) (hk : ∀ k, v.ownBlock = some k → k < w.heap.size → w'.heap[k]? = w.heap[k]?) : Rd w' b v zs e :=
  ⟨by rw [hb]; exact h.1, h.2.1.keep hk, h.2.2⟩
theorem Rd.below {w w' : World} {b B : Nat} {v : Value} {zs : List Int} {e : Int} (h : Rd w b v zs e) (hB : Below B w w') (hs : w.heap.size ≤ B) : Rd w' b v zs e :=
  h.keep (hB.block b (by have := h.lt; omega)) (fun k _ hk => hB.block k (by omega))

end Go.Proofs.Ytkchdkcdkeajkaa.Oc
