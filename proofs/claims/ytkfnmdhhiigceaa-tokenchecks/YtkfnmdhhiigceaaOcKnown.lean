/-
  The law's known: a row of fields and a check sum that the document tells. It answers true, and writes nothing that was there.
-/
import Derived.Test.YtkfnmdhhiigceaaOcSum
import Derived.Lib.SlBytesConst
namespace Go.Proofs.Ytkfnmdhhiigceaa.Oc
open Go.RowKit

theorem Wr_new (w : World) : Wr (w.alloc (.cells #[.slice none 0 0] 44)) w.heap.size (.slice none 0 0) [] :=
  ⟨heap_alloc_new w _, World.ownsRow_nil _ _ _ _⟩

/-- A step of a Writer whose block, and row, are new from B on leaves all below B. -/
theorem Wstep.below {b B : Nat} {w w' : World} {v v' : Value} (h : Wstep b w v w' v') (hb : B ≤ b) (hB : B ≤ w.heap.size) (hv : ∀ k, v.ownBlock = some k → B ≤ k) : Below B w w' :=
  ⟨h.os, h.tape, h.output, h.size, fun k hk => h.block k (by omega) (by omega) (fun e => by have := hv k e.symm; omega)⟩
theorem Wr.below {b B : Nat} {w w' : World} {v v' : Value} {xs : List Int} (hw : Wr w b v xs) (h : Wstep b w v w' v') (hb : B ≤ b) : Below B w w' :=
  h.below hb (by have := hw.lt; omega) (fun k hk => by have := World.ownsRow.lt hw.2 k hk; omega)

end Go.Proofs.Ytkfnmdhhiigceaa.Oc
