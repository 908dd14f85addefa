/-
  Plain mathematics of the check sum: four binary digits a step by a table of sixteen (crcAll), as numbers. No walk.
-/
import Derived.Laws.BitsAllLaws
namespace Go.Proofs.YteinhklopnlgbaaDoor
open Go

def stepsN : List Nat := [0, 274646895, 549293790, 820201905, 1098587580, 1361435347, 1640403810, 1905808397, 2197175160, 2460548119, 2722870694, 2987750089, 3280807620, 3553878443, 3811616794, 4084100981]
def nib (s : Nat) : Nat := (s / 16) ^^^ stepsN.getD (s % 16) 0
def crcB (s b : Nat) : Nat := nib (nib (s ^^^ b))
def crcAll (s : Nat) (xs : List Int) : Nat := xs.foldl (fun s x => crcB s x.toNat) s
/-- P1.3: the check sum. -/
def sumOf (xs : List Int) : Nat := 4294967295 - crcAll 4294967295 xs

theorem stepsN_lt (i : Nat) : stepsN.getD i 0 < 4294967296 := by
  by_cases h : i < 16
  · have : ∀ i : Fin 16, stepsN.getD i.val 0 < 4294967296 := by decide +kernel
    exact this ⟨i, h⟩
  · rw [List.getD_eq_getElem?_getD, List.getElem?_eq_none (by simp [stepsN]; omega)]; decide
theorem xor_lt32 {a b : Nat} (ha : a < 4294967296) (hb : b < 4294967296) : a ^^^ b < 4294967296 := Nat.xor_lt_two_pow (n := 32) ha hb
theorem nib_lt (s : Nat) (h : s < 4294967296) : nib s < 4294967296 := xor_lt32 (by omega) (stepsN_lt _)
theorem crcB_lt (s b : Nat) (h : s < 4294967296) (hb : b < 256) : crcB s b < 4294967296 := nib_lt _ (nib_lt _ (xor_lt32 h (by omega)))
theorem crcAll_snoc (s : Nat) (xs : List Int) (x : Int) : crcAll s (xs ++ [x]) = crcB (crcAll s xs) x.toNat := by simp [crcAll]
theorem crcAll_lt (s : Nat) (xs : List Int) (h : s < 4294967296) (hx : ∀ z ∈ xs, 0 ≤ z ∧ z < 256) : crcAll s xs < 4294967296 := by
  induction xs generalizing s with
  | nil => exact h
  | cons x xs ih =>
    have := hx x (by simp)
    exact ih (crcB s x.toNat) (crcB_lt _ _ h (by omega)) (fun z hz => hx z (by simp [hz]))
theorem not32 (a : Nat) (h : a < 4294967296) : a ^^^ 4294967295 = 4294967295 - a := by
  have h1 : ∀ n : Nat, ∀ a, a < 2 ^ n → a ^^^ (2 ^ n - 1) = 2 ^ n - 1 - a := by
    intro n a h
    have := Nat.sub_add_cancel (show 1 ≤ 2 ^ n from Nat.one_le_two_pow)
    apply Nat.eq_of_testBit_eq
    intro i
    rw [Nat.testBit_xor, Nat.testBit_two_pow_sub_one, show 2 ^ n - 1 - a = 2 ^ n - (a + 1) by omega, Nat.testBit_two_pow_sub_succ h]
    by_cases hi : i < n
    · simp [hi]
    · simp [hi, Nat.testBit_lt_two_pow (Nat.lt_of_lt_of_le h (Nat.pow_le_pow_right (by decide) (by omega : n ≤ i)))]
  exact h1 32 a h
end Go.Proofs.YteinhklopnlgbaaDoor
