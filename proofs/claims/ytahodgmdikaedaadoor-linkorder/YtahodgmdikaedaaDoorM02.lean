/-
  Joined from: Bits, Crc, NumR, CrcB.
-/
import Derived.Laws.BitsAllLaws
section
/-
  Plain mathematics of chapter 1: a number of both signs as bytes (numOf), two and four bytes; what the machine's bit operations are on numbers. No walk.
-/
namespace Go.Proofs.YtahodgmdikaedaaDoor
open Go

theorem not64 (x : Int) (h0 : -9223372036854775808 ≤ x) (h1 : x ≤ 9223372036854775807) : bits .xor .i64 (-1) x = -1 - x := by
  by_cases h : 0 ≤ x
  · obtain ⟨a, rfl⟩ := Int.eq_ofNat_of_zero_le h
    show IntKind.i64.wrap ((BitVec.ofInt 64 (-1) ^^^ BitVec.ofInt 64 (a : Int)).toNat : Int) = _
    have h1 : BitVec.ofInt 64 (-1) = BitVec.allOnes 64 := by decide
    rw [h1, BitVec.allOnes_xor, BitVec.toNat_not, ofInt_u64 a (by omega)]
    simp [IntKind.wrap, IntKind.bits, IntKind.signed]
    omega
  · obtain ⟨a, ha⟩ : ∃ a : Nat, x = (a : Int) - 18446744073709551616 := ⟨(x + 18446744073709551616).toNat, by omega⟩
    show IntKind.i64.wrap ((BitVec.ofInt 64 (-1) ^^^ BitVec.ofInt 64 x).toNat : Int) = _
    have h1 : BitVec.ofInt 64 (-1) = BitVec.allOnes 64 := by decide
    have h2 : (BitVec.ofInt 64 x).toNat = a := by
      rw [BitVec.toNat_ofInt]
      omega
    rw [h1, BitVec.allOnes_xor, BitVec.toNat_not, h2]
    simp [IntKind.wrap, IntKind.bits, IntKind.signed]
    omega

theorem or128 (y : Int) (h0 : 0 ≤ y) (h1 : y < 256) : bits .or .u8 y 128 = y % 128 + 128 := by
  rw [u8_or y 128 h0 h1 (by decide) (by decide)]
  obtain ⟨a, rfl⟩ := Int.eq_ofNat_of_zero_le h0
  have : ∀ a : Fin 256, (((a.val ||| 128 : Nat) : Int)) = (a.val : Int) % 128 + 128 := by decide +kernel
  simpa using this ⟨a, by omega⟩

theorem or1 (y : Int) (h0 : 0 ≤ y) (h1 : y < 18446744073709551616) (h2 : y % 2 = 0) : bits .or .u64 y 1 = y + 1 := by
  rw [u64_or y 1 h0 h1 (by decide) (by decide)]
  have := nat_join 1 y.toNat 1 (by omega) (by decide)
  have e : (1 : Int).toNat = 1 := rfl
  rw [e, this]
  omega

/-- P1.1: u = 2v from 0 on, -2v - 1 below. -/
def foldI (v : Int) : Int := if v < 0 then -2 * v - 1 else 2 * v
theorem foldI_neg {v : Int} (h : v < 0) : foldI v = -2 * v - 1 := if_pos h
theorem foldI_pos {v : Int} (h : ¬ v < 0) : foldI v = 2 * v := if_neg h
theorem foldI_range (v : Int) (h0 : -9223372036854775808 ≤ v) (h1 : v ≤ 9223372036854775807) : 0 ≤ foldI v ∧ foldI v < 18446744073709551616 := by
  unfold foldI; split <;> omega

/-- Seven digits a byte, the lowest first, 128 beside each byte but the last; f + 1 bytes at the most. -/
def numB : Nat → Int → List Int
  | 0, u => [u]
  | f + 1, u => if u < 128 then [u] else (u % 128 + 128) :: numB f (u / 128)
def numOf (v : Int) : List Int := numB 9 (foldI v)

theorem numB_small (f : Nat) (u : Int) (h : u < 128) : numB f u = [u] := by
  cases f with
  | zero => rfl
  | succ f => simp [numB, h]
theorem numB_more (f : Nat) (u : Int) (h : ¬ u < 128) : numB (f + 1) u = (u % 128 + 128) :: numB f (u / 128) := by simp [numB, h]
theorem numB_length (f : Nat) (u : Int) : 1 ≤ (numB f u).length ∧ (numB f u).length ≤ f + 1 := by
  induction f generalizing u with
  | zero => simp [numB]
  | succ f ih =>
    simp only [numB]
    split
    · simp
    · have := ih (u / 128); simp only [List.length_cons]; omega
theorem numOf_length (v : Int) : 1 ≤ (numOf v).length ∧ (numOf v).length ≤ 10 := numB_length 9 _
/-- How great u may be, where f + 1 bytes are left. -/
def Fits (f : Nat) (u : Int) : Prop := 0 ≤ u ∧ u < 128 ^ (f + 1)
theorem Fits.start (u : Int) (h0 : 0 ≤ u) (h1 : u < 18446744073709551616) : Fits 9 u := by
  have e : (128 : Int) ^ (9 + 1) = 1180591620717411303424 := by decide
  refine ⟨h0, ?_⟩
  rw [e]
  omega
theorem Fits.next {f : Nat} {u : Int} (h : Fits f u) (hu : ¬ u < 128) : ∃ g, f = g + 1 ∧ Fits g (u / 128) := by
  cases f with
  | zero => exact absurd h.2 (by simpa using hu)
  | succ g =>
    refine ⟨g, rfl, by have := h.1; omega, ?_⟩
    have := h.2
    rw [Int.pow_succ] at this
    exact Int.ediv_lt_of_lt_mul (by decide) this
theorem numB_bytes (f : Nat) (u : Int) (h : Fits f u) : ∀ z ∈ numB f u, 0 ≤ z ∧ z < 256 := by
  induction f generalizing u with
  | zero => intro z hz; simp [numB] at hz; subst hz; have := h.1; have := h.2; simp at this; omega
  | succ f ih =>
    intro z hz
    by_cases hu : u < 128
    · rw [numB_small _ _ hu] at hz; simp at hz; subst hz; have := h.1; omega
    · rw [numB_more _ _ hu] at hz
      obtain ⟨g, hg, hf⟩ := h.next hu
      obtain rfl : g = f := by omega
      rcases List.mem_cons.1 hz with rfl | hz
      · omega
      · exact ih _ hf z hz

def twoB (x : Int) : List Int := [x % 256, x / 256 % 256]
def fourB (x : Int) : List Int := [x % 256, x / 256 % 256, x / 65536 % 256, x / 16777216 % 256]

end Go.Proofs.YtahodgmdikaedaaDoor
end

section
/-
  Plain mathematics of the check sum: four binary digits a step by a table of sixteen (crcAll), as numbers. No walk.
-/
namespace Go.Proofs.YtahodgmdikaedaaDoor
open Go

def stepsN : List Nat := [0, 274646895, 549293790, 820201905, 1098587580, 1361435347, 1640403810, 1905808397, 2197175160, 2460548119, 2722870694, 2987750089, 3280807620, 3553878443, 3811616794, 4084100981]
def nib (s : Nat) : Nat := (s / 16) ^^^ stepsN.getD (s % 16) 0
def crcB (s b : Nat) : Nat := nib (nib (s ^^^ b))
def crcAll (s : Nat) (xs : List Int) : Nat := xs.foldl (fun s x => crcB s x.toNat) s
/-- P1.3: the check sum. -/
def sumOf (xs : List Int) : Nat := 4294967295 - crcAll 4294967295 xs

theorem stepsN_lt (i : Nat) : stepsN.getD i 0 < 4294967296 := by
  by_cases h : i < 16
  · have : ∀ i : Fin 16, stepsN.getD i.val 0 < 4294967296 := by decide +kernel
    exact this ⟨i, h⟩
  · rw [List.getD_eq_getElem?_getD, List.getElem?_eq_none (by simp [stepsN]; omega)]; decide
theorem xor_lt32 {a b : Nat} (ha : a < 4294967296) (hb : b < 4294967296) : a ^^^ b < 4294967296 := Nat.xor_lt_two_pow (n := 32) ha hb
theorem nib_lt (s : Nat) (h : s < 4294967296) : nib s < 4294967296 := xor_lt32 (by omega) (stepsN_lt _)
theorem crcB_lt (s b : Nat) (h : s < 4294967296) (hb : b < 256) : crcB s b < 4294967296 := nib_lt _ (nib_lt _ (xor_lt32 h (by omega)))
theorem crcAll_snoc (s : Nat) (xs : List Int) (x : Int) : crcAll s (xs ++ [x]) = crcB (crcAll s xs) x.toNat := by simp [crcAll]
theorem crcAll_lt (s : Nat) (xs : List Int) (h : s < 4294967296) (hx : ∀ z ∈ xs, 0 ≤ z ∧ z < 256) : crcAll s xs < 4294967296 := by
  induction xs generalizing s with
  | nil => exact h
  | cons x xs ih =>
    have := hx x (by simp)
    exact ih (crcB s x.toNat) (crcB_lt _ _ h (by omega)) (fun z hz => hx z (by simp [hz]))
theorem not32 (a : Nat) (h : a < 4294967296) : a ^^^ 4294967295 = 4294967295 - a := by
  have h1 : ∀ n : Nat, ∀ a, a < 2 ^ n → a ^^^ (2 ^ n - 1) = 2 ^ n - 1 - a := by
    intro n a h
    have := Nat.sub_add_cancel (show 1 ≤ 2 ^ n from Nat.one_le_two_pow)
    apply Nat.eq_of_testBit_eq
    intro i
    rw [Nat.testBit_xor, Nat.testBit_two_pow_sub_one, show 2 ^ n - 1 - a = 2 ^ n - (a + 1) by omega, Nat.testBit_two_pow_sub_succ h]
    by_cases hi : i < n
    · simp [hi]
    · simp [hi, Nat.testBit_lt_two_pow (Nat.lt_of_lt_of_le h (Nat.pow_le_pow_right (by decide) (by omega : n ≤ i)))]
  exact h1 32 a h
end Go.Proofs.YtahodgmdikaedaaDoor
end

section
/-
  Plain mathematics of chapter 1: a number taken from bytes (numR), and that what numOf lays is taken as it was. No walk.
-/
namespace Go.Proofs.YtahodgmdikaedaaDoor
open Go

def unfoldI (u : Nat) : Int := if u % 2 = 1 then -1 - (u / 2 : Nat) else (u / 2 : Nat)
theorem unfoldI_odd {u : Nat} (h : u % 2 = 1) : unfoldI u = -1 - (u / 2 : Nat) := if_pos h
theorem unfoldI_even {u : Nat} (h : ¬ u % 2 = 1) : unfoldI u = (u / 2 : Nat) := if_neg h
/-- May z not be a number's last byte, behind k others? -/
def badB (k : Nat) (z : Int) : Bool := (decide (k = 9) && decide (1 < z)) || (decide (k ≠ 0) && decide (z = 0))
/-- What is taken, what is left, the error: with f bytes more at the most, behind k bytes that make u. -/
def numR : Nat → Nat → Nat → List Int → Int × List Int × Int
  | 0, _, _, _ => (0, [], 3)
  | _ + 1, _, _, [] => (0, [], 2)
  | f + 1, k, u, z :: r =>
    if 128 ≤ z then numR f (k + 1) (u + (z.toNat % 128) * 128 ^ k) r
    else if badB k z = true then (0, [], 3) else (unfoldI (u + z.toNat * 128 ^ k), r, 0)

theorem numR_more {f k u : Nat} {z : Int} {r : List Int} (h : 128 ≤ z) : numR (f + 1) k u (z :: r) = numR f (k + 1) (u + (z.toNat % 128) * 128 ^ k) r := by simp [numR, h]
theorem numR_bad {f k u : Nat} {z : Int} {r : List Int} (h : ¬ 128 ≤ z) (hb : badB k z = true) : numR (f + 1) k u (z :: r) = (0, [], 3) := by simp [numR, h, hb]
theorem numR_good {f k u : Nat} {z : Int} {r : List Int} (h : ¬ 128 ≤ z) (hb : badB k z = false) : numR (f + 1) k u (z :: r) = (unfoldI (u + z.toNat * 128 ^ k), r, 0) := by simp [numR, h, hb]

theorem andNot128 (z : Int) (h0 : 0 ≤ z) (h1 : z < 256) : bits .andNot .u8 z 128 = ((z.toNat % 128 : Nat) : Int) := by
  rw [u8_andNot z 128 h0 h1 (by decide) (by decide)]
  have : ∀ a : Fin 256, (((a.val &&& (255 - 128) : Nat) : Int)) = ((a.val % 128 : Nat) : Int) := by decide +kernel
  exact this ⟨z.toNat, by omega⟩

theorem pow_le9 (k : Nat) (hk : k ≤ 9) : 128 ^ k ≤ 9223372036854775808 := by
  have : 128 ^ k ≤ 128 ^ 9 := Nat.pow_le_pow_right (by decide) hk
  have e : 128 ^ 9 = 9223372036854775808 := by decide
  omega
theorem pow_le8 (k : Nat) (hk : k ≤ 8) : 128 ^ k ≤ 72057594037927936 := by
  have : 128 ^ k ≤ 128 ^ 8 := Nat.pow_le_pow_right (by decide) hk
  have e : 128 ^ 8 = 72057594037927936 := by decide
  omega
/-- c digits behind k bytes: fits, if k is below 9 or c at most 1. -/
theorem fits_step (k c : Nat) (hk : k ≤ 9) (hc : c < 128) (h9 : k = 9 → c ≤ 1) : c * 128 ^ k ≤ 9223372036854775808 := by
  by_cases h : k = 9
  · have := h9 h
    subst h
    have e : 128 ^ 9 = 9223372036854775808 := by decide
    rw [e]; omega
  · have := pow_le8 k (by omega)
    have := Nat.mul_le_mul (show c ≤ 127 by omega) this
    omega
theorem orStep (U k : Nat) (z : Int) (h0 : 0 ≤ z) (h1 : z < 256) (hk : k ≤ 9) (hU : U < 128 ^ k) (h9 : k = 9 → z.toNat % 128 ≤ 1) :
    bits .or .u64 (U : Int) (IntKind.u64.wrap (IntKind.u64.wrap (bits .andNot .u8 z 128) * 2 ^ (7 * k))) = ((U + (z.toNat % 128) * 128 ^ k : Nat) : Int) := by
  rw [andNot128 z h0 h1]
  have hc : z.toNat % 128 < 128 := Nat.mod_lt _ (by decide)
  generalize z.toNat % 128 = c at *
  have hf := fits_step k c hk hc h9
  have hp : (2 : Int) ^ (7 * k) = ((128 ^ k : Nat) : Int) := by rw [Int.pow_mul]; simp
  have hp9 := pow_le9 k hk
  rw [IntKind.wrap_u64, IntKind.wrap_u64, hp]
  have e1 : ((c : Int) % 18446744073709551616) = c := by omega
  rw [e1, ← Int.natCast_mul]
  have e2 : (((c * 128 ^ k : Nat) : Int) % 18446744073709551616) = ((c * 128 ^ k : Nat) : Int) := by omega
  rw [e2, u64_or_nat U (c * 128 ^ k) (by omega) (by omega)]
  have hj := nat_join (7 * k) (c * 128 ^ k) U (by rw [Nat.pow_mul]; exact Nat.mul_mod_left _ _) (by rw [Nat.pow_mul]; exact hU)
  rw [Nat.or_comm, hj, Nat.add_comm]

/-- What numB lays is taken. -/
theorem numR_numB (f k u : Nat) (t : Int) (r : List Int) (hf : Fits f t) (h0 : k ≠ 0 → 1 ≤ t) (h9 : f + k = 9) (hs : t * 128 ^ k < 18446744073709551616) :
    numR (f + 1) k u (numB f t ++ r) = (unfoldI (u + t.toNat * 128 ^ k), r, 0) := by
  induction f generalizing k u t with
  | zero =>
    have ht := hf.2
    simp at ht
    have hk : k = 9 := by omega
    have e : (128 : Int) ^ k = 9223372036854775808 := by rw [hk]; decide
    rw [e] at hs
    have h0' := h0 (by omega)
    have := hf.1
    rw [numB_small 0 t ht]
    exact numR_good (by omega) (by simp [badB]; omega)
  | succ f ih =>
    by_cases ht : t < 128
    · rw [numB_small _ t ht]
      have := hf.1
      refine numR_good (by omega) ?_
      simp only [badB, Bool.or_eq_false_iff, Bool.and_eq_false_iff, decide_eq_false_iff_not]
      refine ⟨Or.inl (by omega), ?_⟩
      by_cases hk : k = 0
      · exact Or.inl (by simpa using hk)
      · have := h0 hk
        exact Or.inr (by omega)
    · obtain ⟨g, hg, hgf⟩ := hf.next ht
      obtain rfl : g = f := by omega
      rw [numB_more g t ht, List.cons_append, numR_more (by omega)]
      have hpos : (0 : Int) < 128 ^ k := Int.pow_pos (by decide)
      have hsq : t / 128 * 128 ^ (k + 1) < 18446744073709551616 := by
        rw [Int.pow_succ]
        have h1 : t / 128 * 128 ≤ t := by omega
        have h2 : t / 128 * (128 ^ k * 128) = (t / 128 * 128) * 128 ^ k := by rw [Int.mul_comm (128 ^ k) 128, ← Int.mul_assoc]
        rw [h2]
        exact Int.lt_of_le_of_lt (Int.mul_le_mul_of_nonneg_right h1 (Int.le_of_lt hpos)) hs
      rw [ih (k + 1) _ (t / 128) hgf (by intro _; omega) (by omega) hsq]
      have hmod : (t % 128 + 128).toNat % 128 = (t % 128).toNat := by omega
      rw [hmod]
      congr 2
      have ht0 : 0 ≤ t := hf.1
      have : t.toNat = (t % 128).toNat + (t / 128).toNat * 128 := by omega
      rw [this, Nat.pow_succ, Nat.add_mul, Nat.mul_assoc, Nat.mul_comm 128 (128 ^ k), Nat.add_assoc]

theorem unfold_fold (v : Int) : unfoldI (foldI v).toNat = v := by
  unfold foldI
  split
  · rw [unfoldI_odd (by omega)]; omega
  · rw [unfoldI_even (by omega)]; omega
/-- P1.4: what was laid is taken as it was. -/
theorem numR_numOf (v : Int) (r : List Int) (h0 : -9223372036854775808 ≤ v) (h1 : v ≤ 9223372036854775807) : numR 10 0 0 (numOf v ++ r) = (v, r, 0) := by
  have hr := foldI_range v h0 h1
  have := numR_numB 9 0 0 (foldI v) r (Fits.start _ hr.1 hr.2) (by simp) rfl (by simpa using hr.2)
  unfold numOf
  rw [this]
  simp [unfold_fold v]
end Go.Proofs.YtahodgmdikaedaaDoor
end

section
/-
  Plain mathematics of the check sum: one binary digit a step is what four a step by the table are; each step can be turned back, so that another byte has another sum. No walk.
-/
namespace Go.Proofs.YtahodgmdikaedaaDoor
open Go

theorem xor_cancel_left {a b c : Nat} (h : a ^^^ b = a ^^^ c) : b = c := by
  have := congrArg (fun n => a ^^^ n) h
  simpa [← Nat.xor_assoc] using this
theorem xor_cancel_right {a b c : Nat} (h : b ^^^ a = c ^^^ a) : b = c := by
  rw [Nat.xor_comm b, Nat.xor_comm c] at h
  exact xor_cancel_left h

/-- One binary digit a step. -/
def bit1 (c : Nat) : Nat := if c % 2 = 1 then (c / 2) ^^^ 2197175160 else c / 2
theorem bit1_odd {c : Nat} (h : c % 2 = 1) : bit1 c = (c / 2) ^^^ 2197175160 := if_pos h
theorem bit1_even {c : Nat} (h : ¬ c % 2 = 1) : bit1 c = c / 2 := if_neg h
theorem bit1_lt (c : Nat) (h : c < 4294967296) : bit1 c < 4294967296 := by
  unfold bit1; split
  · exact xor_lt32 (by omega) (by decide)
  · omega
theorem xor_half (x y : Nat) : (x ^^^ y) / 2 = (x / 2) ^^^ (y / 2) := by
  apply Nat.eq_of_testBit_eq; intro i
  rw [Nat.testBit_div_two, Nat.testBit_xor, Nat.testBit_xor, Nat.testBit_div_two, Nat.testBit_div_two]
theorem xor_par (x y : Nat) : (x ^^^ y) % 2 = (x % 2 + y % 2) % 2 := by
  have h := Nat.testBit_xor (x := x) (y := y) (i := 0)
  simp only [Nat.testBit_zero] at h
  have hx : x % 2 = 0 ∨ x % 2 = 1 := by omega
  have hy : y % 2 = 0 ∨ y % 2 = 1 := by omega
  have hz : (x ^^^ y) % 2 = 0 ∨ (x ^^^ y) % 2 = 1 := by omega
  rcases hx with hx | hx <;> rcases hy with hy | hy <;> rcases hz with hz | hz <;> simp [hx, hy, hz] at h ⊢
theorem bit1_xor (x y : Nat) : bit1 (x ^^^ y) = bit1 x ^^^ bit1 y := by
  have hp := xor_par x y
  have hh := xor_half x y
  by_cases hx : x % 2 = 1 <;> by_cases hy : y % 2 = 1
  · rw [bit1_odd hx, bit1_odd hy, bit1_even (by omega), hh, Nat.xor_assoc, Nat.xor_comm 2197175160 (y / 2 ^^^ 2197175160), Nat.xor_assoc, Nat.xor_self, Nat.xor_zero]
  · rw [bit1_odd hx, bit1_even hy, bit1_odd (by omega), hh, Nat.xor_assoc, Nat.xor_assoc, Nat.xor_comm (y / 2)]
  · rw [bit1_even hx, bit1_odd hy, bit1_odd (by omega), hh, Nat.xor_assoc]
  · rw [bit1_even hx, bit1_even hy, bit1_even (by omega), hh]
theorem nib_bit1 (s : Nat) : nib s = bit1 (bit1 (bit1 (bit1 s))) := by
  have hs : s = (16 * (s / 16)) ^^^ (s % 16) := by
    have h1 := nat_join 4 (16 * (s / 16)) (s % 16) (by omega) (by omega)
    have h2 : (16 * (s / 16)) &&& (s % 16) = 0 := by
      apply Nat.eq_of_testBit_eq; intro i
      rw [Nat.testBit_and, Nat.zero_testBit, show 16 = 2 ^ 4 from rfl, Nat.testBit_two_pow_mul, Nat.testBit_mod_two_pow]
      by_cases hi : i < 4
      · have : ¬ 4 ≤ i := by omega
        simp [this]
      · simp [hi]
    have h3 : 16 * (s / 16) + s % 16 = s := by omega
    have h4 : (16 * (s / 16)) ^^^ (s % 16) = 16 * (s / 16) + s % 16 := by
      rw [← h1]
      apply Nat.eq_of_testBit_eq; intro i
      have := congrArg (fun n => n.testBit i) h2
      simp only [Nat.testBit_and, Nat.zero_testBit] at this
      rw [Nat.testBit_xor, Nat.testBit_or]
      revert this
      generalize (16 * (s / 16)).testBit i = p
      generalize (s % 16).testBit i = q
      cases p <;> cases q <;> simp
    omega
  have hq : ∀ q, bit1 (bit1 (bit1 (bit1 (16 * q)))) = q := by
    intro q
    rw [bit1_even (c := 16 * q) (by omega), show 16 * q / 2 = 8 * q by omega, bit1_even (c := 8 * q) (by omega), show 8 * q / 2 = 4 * q by omega, bit1_even (c := 4 * q) (by omega), show 4 * q / 2 = 2 * q by omega, bit1_even (c := 2 * q) (by omega)]
    omega
  have hr : ∀ r, r < 16 → bit1 (bit1 (bit1 (bit1 r))) = stepsN.getD r 0 := by
    intro r hr
    have : ∀ r : Fin 16, bit1 (bit1 (bit1 (bit1 r.val))) = stepsN.getD r.val 0 := by decide +kernel
    exact this ⟨r, hr⟩
  have e : bit1 (bit1 (bit1 (bit1 s))) = bit1 (bit1 (bit1 (bit1 ((16 * (s / 16)) ^^^ (s % 16))))) := by rw [← hs]
  rw [e, bit1_xor, bit1_xor, bit1_xor, bit1_xor, hq, hr _ (by omega)]
  rfl
/-- Eight steps of one digit are two of four. -/
theorem crcB_bits (s b : Nat) : crcB s b = bit1 (bit1 (bit1 (bit1 (bit1 (bit1 (bit1 (bit1 (s ^^^ b)))))))) := by
  unfold crcB; rw [nib_bit1, nib_bit1]

theorem top_xor (a : Nat) (h : a < 2147483648) : 2147483648 ≤ a ^^^ 2197175160 := by
  have h1 : (a ^^^ 2197175160).testBit 31 = true := by
    rw [Nat.testBit_xor, Nat.testBit_lt_two_pow (x := a) (i := 31) h]
    decide
  exact Nat.ge_two_pow_of_testBit h1
theorem bit1_inj {x y : Nat} (hx : x < 4294967296) (hy : y < 4294967296) (h : bit1 x = bit1 y) : x = y := by
  have hx2 : x / 2 < 2147483648 := by omega
  have hy2 : y / 2 < 2147483648 := by omega
  by_cases px : x % 2 = 1 <;> by_cases py : y % 2 = 1
  · rw [bit1_odd px, bit1_odd py] at h
    have := xor_cancel_right h
    omega
  · rw [bit1_odd px, bit1_even py] at h
    have := top_xor (x / 2) hx2
    omega
  · rw [bit1_even px, bit1_odd py] at h
    have := top_xor (y / 2) hy2
    omega
  · rw [bit1_even px, bit1_even py] at h
    omega
theorem nib_inj {x y : Nat} (hx : x < 4294967296) (hy : y < 4294967296) (h : nib x = nib y) : x = y := by
  rw [nib_bit1, nib_bit1] at h
  have a1 := bit1_lt x hx
  have a2 := bit1_lt _ a1
  have a3 := bit1_lt _ a2
  have b1 := bit1_lt y hy
  have b2 := bit1_lt _ b1
  have b3 := bit1_lt _ b2
  exact bit1_inj hx hy (bit1_inj a1 b1 (bit1_inj a2 b2 (bit1_inj a3 b3 h)))
theorem crcB_inj {s t a b : Nat} (hs : s < 4294967296) (ht : t < 4294967296) (ha : a < 256) (hb : b < 256) (h : crcB s a = crcB t b) : s ^^^ a = t ^^^ b := by
  have h1 := xor_lt32 hs (show a < 4294967296 by omega)
  have h2 := xor_lt32 ht (show b < 4294967296 by omega)
  exact nib_inj h1 h2 (nib_inj (nib_lt _ h1) (nib_lt _ h2) h)
theorem crcAll_inj (xs : List Int) (hx : ∀ z ∈ xs, 0 ≤ z ∧ z < 256) : ∀ s t, s < 4294967296 → t < 4294967296 → crcAll s xs = crcAll t xs → s = t := by
  induction xs with
  | nil => intro s t _ _ h; exact h
  | cons x xs ih =>
    intro s t hs ht h
    have hxx := hx x (by simp)
    have h1 := ih (fun z hz => hx z (by simp [hz])) (crcB s x.toNat) (crcB t x.toNat) (crcB_lt _ _ hs (by omega)) (crcB_lt _ _ ht (by omega)) h
    have h2 := crcB_inj hs ht (by omega) (by omega) h1
    exact xor_cancel_right h2
theorem crcAll_append (s : Nat) (xs ys : List Int) : crcAll s (xs ++ ys) = crcAll (crcAll s xs) ys := by simp [crcAll]
/-- P1.4: two rows of one length that differ in one byte have unlike sums. -/
theorem sumOf_other (as bs : List Int) (x y : Int) (ha : ∀ z ∈ as, 0 ≤ z ∧ z < 256) (hb : ∀ z ∈ bs, 0 ≤ z ∧ z < 256) (hx : 0 ≤ x ∧ x < 256) (hy : 0 ≤ y ∧ y < 256) (hne : x ≠ y) :
    sumOf (as ++ x :: bs) ≠ sumOf (as ++ y :: bs) := by
  intro h
  unfold sumOf at h
  rw [crcAll_append, crcAll_append] at h
  have hs := crcAll_lt 4294967295 as (by decide) ha
  generalize crcAll 4294967295 as = s at *
  have e1 : ∀ z, crcAll s (z :: bs) = crcAll (crcB s z.toNat) bs := fun z => rfl
  rw [e1, e1] at h
  have l1 := crcB_lt s x.toNat hs (by omega)
  have l2 := crcB_lt s y.toNat hs (by omega)
  have m1 := crcAll_lt _ bs l1 hb
  have m2 := crcAll_lt _ bs l2 hb
  have h2 := crcAll_inj bs hb _ _ l1 l2 (by omega)
  have h3 := crcB_inj hs hs (by omega) (by omega) h2
  have h4 := xor_cancel_left h3
  omega
end Go.Proofs.YtahodgmdikaedaaDoor
end
