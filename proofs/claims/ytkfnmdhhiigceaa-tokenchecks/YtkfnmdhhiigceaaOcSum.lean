/-
  octet.Sum: what it answers, for every row of bytes.
-/
import Derived.Test.YtkfnmdhhiigceaaOcSame
namespace Go.Proofs.Ytkfnmdhhiigceaa.Oc
open Go.RowKit
/-- Bytes. -/
def Byt (xs : List Int) : Prop := ∀ z ∈ xs, 0 ≤ z ∧ z < 256

theorem getD_mem (xs : List Int) (k : Nat) (h : k < xs.length) : xs.getD k 0 ∈ xs := by simp [List.getD, h]

end Go.Proofs.Ytkfnmdhhiigceaa.Oc
