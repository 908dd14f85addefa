/-
  Plain mathematics of chapter 1: a number of both signs as bytes (numOf), two and four bytes; what the machine's bit operations are on numbers. No walk.
-/
import Derived.Laws.BitsAllLaws
namespace Go.Proofs.Ytkfnmdhhiigceaa.Oc
open Go

theorem not64 (x : Int) (h0 : -9223372036854775808 ≤ x) (h1 : x ≤ 9223372036854775807) : bits .xor .i64 (-1) x = -1 - x := by
  by_cases h : 0 ≤ x
  · obtain ⟨a, rfl⟩ := Int.eq_ofNat_of_zero_le h
    show IntKind.i64.wrap ((BitVec.ofInt 64 (-1) ^^^ BitVec.ofInt 64 (a : Int)).toNat : Int) = _
    have h1 : BitVec.ofInt 64 (-1) = BitVec.allOnes 64 := by decide
    rw [h1, BitVec.allOnes_xor, BitVec.toNat_not, ofInt_u64 a (by omega)]
    simp [IntKind.wrap, IntKind.bits, IntKind.signed]
    omega
  · obtain ⟨a, ha⟩ : ∃ a : Nat, x = (a : Int) - 18446744073709551616 := ⟨(x + 18446744073709551616).toNat, by omega⟩
    show IntKind.i64.wrap ((BitVec.ofInt 64 (-1) ^^^ BitVec.ofInt 64 x).toNat : Int) = _
    have h1 : BitVec.ofInt 64 (-1) = BitVec.allOnes 64 := by decide
    have h2 : (BitVec.ofInt 64 x).toNat = a := by
      rw [BitVec.toNat_ofInt]
      omega
    rw [h1, BitVec.allOnes_xor, BitVec.toNat_not, h2]
    simp [IntKind.wrap, IntKind.bits, IntKind.signed]
    omega

theorem or128 (y : Int) (h0 : 0 ≤ y) (h1 : y < 256) : bits .or .u8 y 128 = y % 128 + 128 := by
  rw [u8_or y 128 h0 h1 (by decide) (by decide)]
  obtain ⟨a, rfl⟩ := Int.eq_ofNat_of_zero_le h0
  have : ∀ a : Fin 256, (((a.val ||| 128 : Nat) : Int)) = (a.val : Int) % 128 + 128 := by decide +kernel
  simpa using this ⟨a, by omega⟩

theorem or1 (y : Int) (h0 : 0 ≤ y) (h1 : y < 18446744073709551616) (h2 : y % 2 = 0) : bits .or .u64 y 1 = y + 1 := by
  rw [u64_or y 1 h0 h1 (by decide) (by decide)]
  have := nat_join 1 y.toNat 1 (by omega) (by decide)
  have e : (1 : Int).toNat = 1 := rfl
  rw [e, this]
  omega

/-- P1.1: u = 2v from 0 on, -2v - 1 below. -/
def foldI (v : Int) : Int := if v < 0 then -2 * v - 1 else 2 * v
theorem foldI_neg {v : Int} (h : v < 0) : foldI v = -2 * v - 1 := if_pos h
theorem foldI_pos {v : Int} (h : ¬ v < 0) : foldI v = 2 * v := if_neg h
theorem foldI_range (v : Int) (h0 : -9223372036854775808 ≤ v) (h1 : v ≤ 9223372036854775807) : 0 ≤ foldI v ∧ foldI v < 18446744073709551616 := by
  unfold foldI; split <;> omega

/-- Seven digits a byte, the lowest first, 128 beside each byte but the last; f + 1 bytes at the most. -/
def numB : Nat → Int → List Int
  | 0, u => [u]
  | f + 1, u => if u < 128 then [u] else (u % 128 + 128) :: numB f (u / 128)
def numOf (v : Int) : List Int := numB 9 (foldI v)

theorem numB_small (f : Nat) (u : Int) (h : u < 128) : numB f u = [u] := by
  cases f with
  | zero => rfl
  | succ f => simp [numB, h]
theorem numB_more (f : Nat) (u : Int) (h : ¬ u < 128) : numB (f + 1) u = (u % 128 + 128) :: numB f (u / 128) := by simp [numB, h]
theorem numB_length (f : Nat) (u : Int) : 1 ≤ (numB f u).length ∧ (numB f u).length ≤ f + 1 := by
  induction f generalizing u with
  | zero => simp [numB]
  | succ f ih =>
    simp only [numB]
    split
    · simp
    · have := ih (u / 128); simp only [List.length_cons]; omega
theorem numOf_length (v : Int) : 1 ≤ (numOf v).length ∧ (numOf v).length ≤ 10 := numB_length 9 _
/-- How great u may be, where f + 1 bytes are left. -/
def Fits (f : Nat) (u : Int) : Prop := 0 ≤ u ∧ u < 128 ^ (f + 1)
theorem Fits.start (u : Int) (h0 : 0 ≤ u) (h1 : u < 18446744073709551616) : Fits 9 u := by
  have e : (128 : Int) ^ (9 + 1) = 1180591620717411303424 := by decide
  refine ⟨h0, ?_⟩
  rw [e]
  omega
theorem Fits.next {f : Nat} {u : Int} (h : Fits f u) (hu : ¬ u < 128) : ∃ g, f = g + 1 ∧ Fits g (u / 128) := by
  cases f with
  | zero => exact absurd h.2 (by simpa using hu)
  | succ g =>
    refine ⟨g, rfl, by have := h.1; omega, ?_⟩
    have := h.2
    rw [Int.pow_succ] at this
    exact Int.ediv_lt_of_lt_mul (by decide) this
theorem numB_bytes (f : Nat) (u : Int) (h : Fits f u) : ∀ z ∈ numB f u, 0 ≤ z ∧ z < 256 := by
  induction f generalizing u with
  | zero => intro z hz; simp [numB] at hz; subst hz; have := h.1; have := h.2; simp at this; omega
  | succ f ih =>
    intro z hz
    by_cases hu : u < 128
    · rw [numB_small _ _ hu] at hz; simp at hz; subst hz; have := h.1; omega
    · rw [numB_more _ _ hu] at hz
      obtain ⟨g, hg, hf⟩ := h.next hu
      obtain rfl : g = f := by omega
      rcases List.mem_cons.1 hz with rfl | hz
      · omega
      · exact ih _ hf z hz

def twoB (x : Int) : List Int := [x % 256, x / 256 % 256]
def fourB (x : Int) : List Int := [x % 256, x / 256 % 256, x / 65536 % 256, x / 16777216 % 256]

end Go.Proofs.Ytkfnmdhhiigceaa.Oc
