/-
  The numbers of chapter 8 in plain words (heldI, quoI); sum, difference, product, quotient, hold, and the document's held.
-/
import Derived.Test.YtlknolbfhfcflaaMb
import Derived.Handy
namespace Go.Proofs.Ytlknolbfhfcflaa
open Go.RowKit
/-- A number of 32 digits (of two). -/
def In32 (a : Int) : Prop := -2147483648 ≤ a ∧ a ≤ 2147483647
def heldI (n : Int) : Int := if n < -2147483648 then -2147483648 else if 2147483647 < n then 2147483647 else n
def quoI (a b : Int) : Int := if b = 0 then (if 0 < a then 2147483647 else if a < 0 then -2147483648 else 0) else (a * 65536).tdiv b
theorem heldI_in (n : Int) : In32 (heldI n) := by unfold heldI In32; split <;> (try split) <;> omega
theorem mul_in {a b : Int} (ha : In32 a) (hb : In32 b) : -4611686018427387904 ≤ a * b ∧ a * b ≤ 4611686018427387904 := by
  have h : (a * b).natAbs ≤ 2147483648 * 2147483648 := by
    rw [Int.natAbs_mul]
    exact Nat.mul_le_mul (by have := ha.1; have := ha.2; omega) (by have := hb.1; have := hb.2; omega)
  omega
theorem tdiv_in {n b : Int} {m : Nat} (h : n.natAbs ≤ m) : (n.tdiv b).natAbs ≤ m := by
  rw [Int.natAbs_tdiv]; exact Nat.le_trans (Nat.div_le_self _ _) h
theorem sum_any (a b : Int) (ha : In32 a) (hb : In32 b) (w : World) : Calls Try.prog 111 #[.int .i64 a, .int .i64 b] w fun e w' => e = .returned (.int .i64 (a + b)) ∧ w' = w := by
  have h1 := ha.1; have h2 := ha.2; have h3 := hb.1; have h4 := hb.2
  have e : wrap64 (a + b) = a + b := by unfold wrap64; omega
  go_enter Try.func111, Try.ntmps111
  go_wp2
  go_ret
  exact ⟨by rfl, rfl⟩
theorem difference_any (a b : Int) (ha : In32 a) (hb : In32 b) (w : World) : Calls Try.prog 112 #[.int .i64 a, .int .i64 b] w fun e w' => e = .returned (.int .i64 (a - b)) ∧ w' = w := by
  have h1 := ha.1; have h2 := ha.2; have h3 := hb.1; have h4 := hb.2
  have e : wrap64 (a - b) = a - b := by unfold wrap64; omega
  go_enter Try.func112, Try.ntmps112
  go_wp2
  go_ret
  exact ⟨by rfl, rfl⟩
theorem product_any (a b : Int) (ha : In32 a) (hb : In32 b) (w : World) : Calls Try.prog 113 #[.int .i64 a, .int .i64 b] w fun e w' => e = .returned (.int .i64 (a * b / 65536)) ∧ w' = w := by
  obtain ⟨h1, h2⟩ := mul_in ha hb
  obtain ⟨p, hp⟩ : ∃ p, p = a * b := ⟨_, rfl⟩
  have e : wrap64 (a * b) = a * b := by rw [← hp] at h1 h2 ⊢; unfold wrap64; omega
  clear h1 h2 hp
  go_enter Try.func113, Try.ntmps113
  go_wp2
  go_ret
  exact ⟨by rfl, rfl⟩
theorem hold_any (n : Int) (w : World) : Calls Try.prog 110 #[.int .i64 n] w fun e w' => e = .returned (.int .i32 (heldI n)) ∧ w' = w := by
  by_cases h1 : n < -2147483648
  · have e : heldI n = -2147483648 := by unfold heldI; rw [if_pos h1]
    rw [e]
    go_enter Try.func110, Try.ntmps110
    go_wp2
    go_ret
    exact ⟨by rfl, rfl⟩
  by_cases h2 : 2147483647 < n
  · have e : heldI n = 2147483647 := by unfold heldI; rw [if_neg h1, if_pos h2]
    rw [e]
    go_enter Try.func110, Try.ntmps110
    go_wp2
    go_ret
    exact ⟨by rfl, rfl⟩
  have e : heldI n = n := by unfold heldI; rw [if_neg h1, if_neg h2]
  rw [e]
  go_enter Try.func110, Try.ntmps110
  go_wp2
  go_ret
  exact ⟨by rfl, rfl⟩
theorem quotient_any (a b : Int) (ha : In32 a) (w : World) : Calls Try.prog 114 #[.int .i64 a, .int .i64 b] w fun e w' => e = .returned (.int .i64 (quoI a b)) ∧ w' = w := by
  have h1 := ha.1; have h2 := ha.2
  by_cases hb : b = 0
  · subst hb
    by_cases h3 : 0 < a
    · rw [show quoI a 0 = 2147483647 by unfold quoI; rw [if_pos rfl, if_pos h3]]
      go_enter Try.func114, Try.ntmps114
      go_wp2
      go_ret
      exact ⟨by rfl, rfl⟩
    by_cases h4 : a < 0
    · rw [show quoI a 0 = -2147483648 by unfold quoI; rw [if_pos rfl, if_neg h3, if_pos h4]]
      go_enter Try.func114, Try.ntmps114
      go_wp2
      go_ret
      exact ⟨by rfl, rfl⟩
    · rw [show quoI a 0 = 0 by unfold quoI; rw [if_pos rfl, if_neg h3, if_neg h4]]
      go_enter Try.func114, Try.ntmps114
      go_wp2
      go_ret
      exact ⟨by rfl, rfl⟩
  · have e : wrap64 (a * 65536) = a * 65536 := by unfold wrap64; omega
    have e2 : wrap64 ((a * 65536).tdiv b) = (a * 65536).tdiv b := by
      have := tdiv_in (n := a * 65536) (b := b) (m := 2147483648 * 65536) (by omega)
      unfold wrap64; omega
    have hne : (b != 0) = true := by simp [hb]
    have hz : (b == 0) = false := by simp [hb]
    rw [show quoI a b = (a * 65536).tdiv b by unfold quoI; rw [if_neg hb]]
    go_enter Try.func114, Try.ntmps114
    go_wp2
    go_ret
    exact ⟨congrArg (fun z => Ending.returned (Value.int .i64 z)) e2, rfl⟩
theorem held_any (n : Int) (w : World) : Calls Try.prog 47 #[.int .i64 n] w fun e w' => e = .returned (.int .i32 (heldI n)) ∧ w' = w := by
  by_cases h1 : n < -2147483648
  · have e : heldI n = -2147483648 := by unfold heldI; rw [if_pos h1]
    rw [e]
    go_enter Try.func47, Try.ntmps47
    go_wp2
    go_ret
    exact ⟨by rfl, rfl⟩
  by_cases h2 : 2147483647 < n
  · have e : heldI n = 2147483647 := by unfold heldI; rw [if_neg h1, if_pos h2]
    rw [e]
    go_enter Try.func47, Try.ntmps47
    go_wp2
    go_ret
    exact ⟨by rfl, rfl⟩
  have e : heldI n = n := by unfold heldI; rw [if_neg h1, if_neg h2]
  rw [e]
  go_enter Try.func47, Try.ntmps47
  go_wp2
  go_ret
  exact ⟨by rfl, rfl⟩
end Go.Proofs.Ytlknolbfhfcflaa
