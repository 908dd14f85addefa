/-
  The law's own helper same: whether two rows of bytes are one; nothing is written.
-/
import Derived.Test.YtkchdkcdkeajkaaOcWriterC
namespace Go.Proofs.Ytkchdkcdkeajkaa.Oc
open Go.RowKit

/-- The memory is as it was (orders may have been drawn). -/
structure Sm (w w' : World) : Prop where
  os : w'.os = w.os
  tape : w'.tape = w.tape
  output : w'.output = w.output
  heap : w'.heap = w.heap
theorem Sm.refl (w : World) : Sm w w := ⟨rfl, rfl, rfl, rfl⟩
theorem Sm.trans {a b c : World} (h : Sm a b) (k : Sm b c) : Sm a c := ⟨k.os.trans h.os, k.tape.trans h.tape, k.output.trans h.output, k.heap.trans h.heap⟩
theorem Sm.drewN (w : World) (n : Nat) : Sm w (w.drewN n) := ⟨rfl, rfl, rfl, rfl⟩
theorem Sm.below {w w' : World} (h : Sm w w') (B : Nat) : Below B w w' := ⟨h.os, h.tape, h.output, by rw [h.heap]; exact Nat.le_refl _, fun k _ => by rw [h.heap]⟩
theorem Sm.bs {w w' : World} (h : Sm w w') {v : Value} {zs : List Int} (hb : Bs w v zs) : Bs w' v zs := hb.keep fun k _ _ => by rw [h.heap]
theorem Sm.ow {w w' : World} (h : Sm w w') {v : Value} {base : Nat} {zs : List Int} (hb : Ow w base v zs) : Ow w' base v zs := by
  unfold Ow World.ownsRow at *; rw [h.heap]; exact hb
theorem Sm.wr {w w' : World} (h : Sm w w') {v : Value} {b : Nat} {zs : List Int} (hb : Wr w b v zs) : Wr w' b v zs := ⟨by rw [h.heap]; exact hb.1, h.ow hb.2⟩
theorem Sm.size {w w' : World} (h : Sm w w') : w'.heap.size = w.heap.size := by rw [h.heap]

theorem eq_of_all (xs ys : List Int) (hl : xs.length = ys.length) (h : ∀ j, j < xs.length → xs.getD j 0 = ys.getD j 0) : xs = ys := by
  apply List.ext_getElem hl
  intro i h1 h2
  have := h i h1
  simpa [List.getD, h1, h2] using this
/-- One test for both: an unfolded 'decide' would part the walk. -/
def eqB (xs ys : List Int) : Bool := decide (xs = ys)
theorem eqB_true {xs ys : List Int} (h : xs = ys) : eqB xs ys = true := by simp [eqB, h]
theorem eqB_false {xs ys : List Int} (h : xs ≠ ys) : eqB xs ys = false := by simp [eqB, h]

end Go.Proofs.Ytkchdkcdkeajkaa.Oc
