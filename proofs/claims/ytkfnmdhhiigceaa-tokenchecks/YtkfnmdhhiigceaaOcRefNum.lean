/-
  The document's own Num (a number of both signs as bytes), by contract.
-/
import Derived.Test.YtkfnmdhhiigceaaOcKnown
namespace Go.Proofs.Ytkfnmdhhiigceaa.Oc
open Go.RowKit

theorem and127 (u : Int) (h0 : 0 ≤ u) (h1 : u < 18446744073709551616) : bits .and .u64 u 127 = u % 128 := by
  obtain ⟨a, rfl⟩ := Int.eq_ofNat_of_zero_le h0
  have := u64_and_nat a 127 (by omega) (by decide)
  rw [nat_mask7] at this
  rw [show (127 : Int) = ((127 : Nat) : Int) from rfl, this]
  omega

end Go.Proofs.Ytkfnmdhhiigceaa.Oc
