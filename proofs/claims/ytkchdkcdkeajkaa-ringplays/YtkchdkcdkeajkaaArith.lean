/-
  The numbers of chapter 8 in plain words (heldI, quoI); sum, difference, product, quotient, hold, and the document's held.
-/
import Derived.Test.YtkchdkcdkeajkaaMb
import Derived.Handy
namespace Go.Proofs.Ytkchdkcdkeajkaa
open Go.RowKit
/-- A number of 32 digits (of two). -/
def In32 (a : Int) : Prop := -2147483648 ≤ a ∧ a ≤ 2147483647
def heldI (n : Int) : Int := if n < -2147483648 then -2147483648 else if 2147483647 < n then 2147483647 else n
def quoI (a b : Int) : Int := if b = 0 then (if 0 < a then 2147483647 else if a < 0 then -2147483648 else 0) else (a * 65536).tdiv b
theorem heldI_in (n : Int) : In32 (heldI n) := by unfold heldI In32; split <;> (try split) <;> omega
theorem mul_in {a b : Int} (ha : In32 a) (hb : In32 b) : -4611686018427387904 ≤ a * b ∧ a * b ≤ 4611686018427387904 := by
  have h : (a * b).natAbs ≤ 2147483648 * 2147483648 := by
    rw [Int.natAbs_mul]
    exact Nat.mul_le_mul (by have := ha.1; have := ha.2; omega) (by have := hb.1; have := hb.2; omega)
  omega
theorem tdiv_in {n b : Int} {m : Nat} (h : n.natAbs ≤ m) : (n.tdiv b).natAbs ≤ m := by
  rw [Int.natAbs_tdiv]; exact Nat.le_trans (Nat.div_le_self _ _) h
end Go.Proofs.Ytkchdkcdkeajkaa
