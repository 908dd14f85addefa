/-
  Plain mathematics of the check sum: one binary digit a step is what four a step by the table are; each step can be turned back, so that another byte has another sum. No walk.
-/
import Derived.Test.YteinhklopnlgbaaDoorCrc
namespace Go.Proofs.YteinhklopnlgbaaDoor
open Go

theorem xor_cancel_left {a b c : Nat} (h : a ^^^ b = a ^^^ c) : b = c := by
  have := congrArg (fun n => a ^^^ n) h
  simpa [← Nat.xor_assoc] using this
theorem xor_cancel_right {a b c : Nat} (h : b ^^^ a = c ^^^ a) : b = c := by
  rw [Nat.xor_comm b, Nat.xor_comm c] at h
  exact xor_cancel_left h

/-- One binary digit a step. -/
def bit1 (c : Nat) : Nat := if c % 2 = 1 then (c / 2) ^^^ 2197175160 else c / 2
theorem bit1_odd {c : Nat} (h : c % 2 = 1) : bit1 c = (c / 2) ^^^ 2197175160 := if_pos h
theorem bit1_even {c : Nat} (h : ¬ c % 2 = 1) : bit1 c = c / 2 := if_neg h
theorem bit1_lt (c : Nat) (h : c < 4294967296) : bit1 c < 4294967296 := by
  unfold bit1; split
  · exact xor_lt32 (by omega) (by decide)
  · omega
theorem xor_half (x y : Nat) : (x ^^^ y) / 2 = (x / 2) ^^^ (y / 2) := by
  apply Nat.eq_of_testBit_eq; intro i
  rw [Nat.testBit_div_two, Nat.testBit_xor, Nat.testBit_xor, Nat.testBit_div_two, Nat.testBit_div_two]
theorem xor_par (x y : Nat) : (x ^^^ y) % 2 = (x % 2 + y % 2) % 2 := by
  have h := Nat.testBit_xor (x := x) (y := y) (i := 0)
  simp only [Nat.testBit_zero] at h
  have hx : x % 2 = 0 ∨ x % 2 = 1 := by omega
  have hy : y % 2 = 0 ∨ y % 2 = 1 := by omega
  have hz : (x ^^^ y) % 2 = 0 ∨ (x ^^^ y) % 2 = 1 := by omega
  rcases hx with hx | hx <;> rcases hy with hy | hy <;> rcases hz with hz | hz <;> simp [hx, hy, hz] at h ⊢
theorem bit1_xor (x y : Nat) : bit1 (x ^^^ y) = bit1 x ^^^ bit1 y := by
  have hp := xor_par x y
  have hh := xor_half x y
  by_cases hx : x % 2 = 1 <;> by_cases hy : y % 2 = 1
  · rw [bit1_odd hx, bit1_odd hy, bit1_even (by omega), hh, Nat.xor_assoc, Nat.xor_comm 2197175160 (y / 2 ^^^ 2197175160), Nat.xor_assoc, Nat.xor_self, Nat.xor_zero]
  · rw [bit1_odd hx, bit1_even hy, bit1_odd (by omega), hh, Nat.xor_assoc, Nat.xor_assoc, Nat.xor_comm (y / 2)]
  · rw [bit1_even hx, bit1_odd hy, bit1_odd (by omega), hh, Nat.xor_assoc]
  · rw [bit1_even hx, bit1_even hy, bit1_even (by omega), hh]
theorem nib_bit1 (s : Nat) : nib s = bit1 (bit1 (bit1 (bit1 s))) := by
  have hs : s = (16 * (s / 16)) ^^^ (s % 16) := by
    have h1 := nat_join 4 (16 * (s / 16)) (s % 16) (by omega) (by omega)
    have h2 : (16 * (s / 16)) &&& (s % 16) = 0 := by
      apply Nat.eq_of_testBit_eq; intro i
      rw [Nat.testBit_and, Nat.zero_testBit, show 16 = 2 ^ 4 from rfl, Nat.testBit_two_pow_mul, Nat.testBit_mod_two_pow]
      by_cases hi : i < 4
      · have : ¬ 4 ≤ i := by omega
        simp [this]
      · simp [hi]
    have h3 : 16 * (s / 16) + s % 16 = s := by omega
    have h4 : (16 * (s / 16)) ^^^ (s % 16) = 16 * (s / 16) + s % 16 := by
      rw [← h1]
      apply Nat.eq_of_testBit_eq; intro i
      have := congrArg (fun n => n.testBit i) h2
      simp only [Nat.testBit_and, Nat.zero_testBit] at this
      rw [Nat.testBit_xor, Nat.testBit_or]
      revert this
      generalize (16 * (s / 16)).testBit i = p
      generalize (s % 16).testBit i = q
      cases p <;> cases q <;> simp
    omega
  have hq : ∀ q, bit1 (bit1 (bit1 (bit1 (16 * q)))) = q := by
    intro q
    rw [bit1_even (c := 16 * q) (by omega), show 16 * q / 2 = 8 * q by omega, bit1_even (c := 8 * q) (by omega), show 8 * q / 2 = 4 * q by omega, bit1_even (c := 4 * q) (by omega), show 4 * q / 2 = 2 * q by omega, bit1_even (c := 2 * q) (by omega)]
    omega
  have hr : ∀ r, r < 16 → bit1 (bit1 (bit1 (bit1 r))) = stepsN.getD r 0 := by
    intro r hr
    have : ∀ r : Fin 16, bit1 (bit1 (bit1 (bit1 r.val))) = stepsN.getD r.val 0 := by decide +kernel
    exact this ⟨r, hr⟩
  have e : bit1 (bit1 (bit1 (bit1 s))) = bit1 (bit1 (bit1 (bit1 ((16 * (s / 16)) ^^^ (s % 16))))) := by rw [← hs]
  rw [e, bit1_xor, bit1_xor, bit1_xor, bit1_xor, hq, hr _ (by omega)]
  rfl
/-- Eight steps of one digit are two of four. -/
theorem crcB_bits (s b : Nat) : crcB s b = bit1 (bit1 (bit1 (bit1 (bit1 (bit1 (bit1 (bit1 (s ^^^ b)))))))) := by
  unfold crcB; rw [nib_bit1, nib_bit1]

theorem top_xor (a : Nat) (h : a < 2147483648) : 2147483648 ≤ a ^^^ 2197175160 := by
  have h1 : (a ^^^ 2197175160).testBit 31 = true := by
    rw [Nat.testBit_xor, Nat.testBit_lt_two_pow (x := a) (i := 31) h]
    decide
  exact Nat.ge_two_pow_of_testBit h1
theorem bit1_inj {x y : Nat} (hx : x < 4294967296) (hy : y < 4294967296) (h : bit1 x = bit1 y) : x = y := by
  have hx2 : x / 2 < 2147483648 := by omega
  have hy2 : y / 2 < 2147483648 := by omega
  by_cases px : x % 2 = 1 <;> by_cases py : y % 2 = 1
  · rw [bit1_odd px, bit1_odd py] at h
    have := xor_cancel_right h
    omega
  · rw [bit1_odd px, bit1_even py] at h
    have := top_xor (x / 2) hx2
    omega
  · rw [bit1_even px, bit1_odd py] at h
    have := top_xor (y / 2) hy2
    omega
  · rw [bit1_even px, bit1_even py] at h
    omega
theorem nib_inj {x y : Nat} (hx : x < 4294967296) (hy : y < 4294967296) (h : nib x = nib y) : x = y := by
  rw [nib_bit1, nib_bit1] at h
  have a1 := bit1_lt x hx
  have a2 := bit1_lt _ a1
  have a3 := bit1_lt _ a2
  have b1 := bit1_lt y hy
  have b2 := bit1_lt _ b1
  have b3 := bit1_lt _ b2
  exact bit1_inj hx hy (bit1_inj a1 b1 (bit1_inj a2 b2 (bit1_inj a3 b3 h)))
theorem crcB_inj {s t a b : Nat} (hs : s < 4294967296) (ht : t < 4294967296) (ha : a < 256) (hb : b < 256) (h : crcB s a = crcB t b) : s ^^^ a = t ^^^ b := by
  have h1 := xor_lt32 hs (show a < 4294967296 by omega)
  have h2 := xor_lt32 ht (show b < 4294967296 by omega)
  exact nib_inj h1 h2 (nib_inj (nib_lt _ h1) (nib_lt _ h2) h)
theorem crcAll_inj (xs : List Int) (hx : ∀ z ∈ xs, 0 ≤ z ∧ z < 256) : ∀ s t, s < 4294967296 → t < 4294967296 → crcAll s xs = crcAll t xs → s = t := by
  induction xs with
  | nil => intro s t _ _ h; exact h
  | cons x xs ih =>
    intro s t hs ht h
    have hxx := hx x (by simp)
    have h1 := ih (fun z hz => hx z (by simp [hz])) (crcB s x.toNat) (crcB t x.toNat) (crcB_lt _ _ hs (by omega)) (crcB_lt _ _ ht (by omega)) h
    have h2 := crcB_inj hs ht (by omega) (by omega) h1
    exact xor_cancel_right h2
theorem crcAll_append (s : Nat) (xs ys : List Int) : crcAll s (xs ++ ys) = crcAll (crcAll s xs) ys := by simp [crcAll]
/-- P1.4: two rows of one length that differ in one byte have unlike sums. -/
theorem sumOf_other (as bs : List Int) (x y : Int) (ha : ∀ z ∈ as, 0 ≤ z ∧ z < 256) (hb : ∀ z ∈ bs, 0 ≤ z ∧ z < 256) (hx : 0 ≤ x ∧ x < 256) (hy : 0 ≤ y ∧ y < 256) (hne : x ≠ y) :
    sumOf (as ++ x :: bs) ≠ sumOf (as ++ y :: bs) := by
  intro h
  unfold sumOf at h
  rw [crcAll_append, crcAll_append] at h
  have hs := crcAll_lt 4294967295 as (by decide) ha
  generalize crcAll 4294967295 as = s at *
  have e1 : ∀ z, crcAll s (z :: bs) = crcAll (crcB s z.toNat) bs := fun z => rfl
  rw [e1, e1] at h
  have l1 := crcB_lt s x.toNat hs (by omega)
  have l2 := crcB_lt s y.toNat hs (by omega)
  have m1 := crcAll_lt _ bs l1 hb
  have m2 := crcAll_lt _ bs l2 hb
  have h2 := crcAll_inj bs hb _ _ l1 l2 (by omega)
  have h3 := crcB_inj hs hs (by omega) (by omega) h2
  have h4 := xor_cancel_left h3
  omega
end Go.Proofs.YteinhklopnlgbaaDoor
