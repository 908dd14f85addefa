/-
  Joined from: OcBits, OcNumR, DgSpec.
-/
import Derived.Laws.BitsAllLaws
section
/-
  Plain mathematics of chapter 1: a number of both signs as bytes (numOf), two and four bytes; what the machine's bit operations are on numbers. No walk.
-/
namespace Go.Proofs.YtlknolbfhfcflaaGreat.Oc
open Go

theorem not64 (x : Int) (h0 : -9223372036854775808 ≤ x) (h1 : x ≤ 9223372036854775807) : bits .xor .i64 (-1) x = -1 - x := by
  by_cases h : 0 ≤ x
  · obtain ⟨a, rfl⟩ := Int.eq_ofNat_of_zero_le h
    show IntKind.i64.wrap ((BitVec.ofInt 64 (-1) ^^^ BitVec.ofInt 64 (a : Int)).toNat : Int) = _
    have h1 : BitVec.ofInt 64 (-1) = BitVec.allOnes 64 := by decide
    rw [h1, BitVec.allOnes_xor, BitVec.toNat_not, ofInt_u64 a (by omega)]
    simp [IntKind.wrap, IntKind.bits, IntKind.signed]
    omega
  · obtain ⟨a, ha⟩ : ∃ a : Nat, x = (a : Int) - 18446744073709551616 := ⟨(x + 18446744073709551616).toNat, by omega⟩
    show IntKind.i64.wrap ((BitVec.ofInt 64 (-1) ^^^ BitVec.ofInt 64 x).toNat : Int) = _
    have h1 : BitVec.ofInt 64 (-1) = BitVec.allOnes 64 := by decide
    have h2 : (BitVec.ofInt 64 x).toNat = a := by
      rw [BitVec.toNat_ofInt]
      omega
    rw [h1, BitVec.allOnes_xor, BitVec.toNat_not, h2]
    simp [IntKind.wrap, IntKind.bits, IntKind.signed]
    omega

theorem or128 (y : Int) (h0 : 0 ≤ y) (h1 : y < 256) : bits .or .u8 y 128 = y % 128 + 128 := by
  rw [u8_or y 128 h0 h1 (by decide) (by decide)]
  obtain ⟨a, rfl⟩ := Int.eq_ofNat_of_zero_le h0
  have : ∀ a : Fin 256, (((a.val ||| 128 : Nat) : Int)) = (a.val : Int) % 128 + 128 := by decide +kernel
  simpa using this ⟨a, by omega⟩

theorem or1 (y : Int) (h0 : 0 ≤ y) (h1 : y < 18446744073709551616) (h2 : y % 2 = 0) : bits .or .u64 y 1 = y + 1 := by
  rw [u64_or y 1 h0 h1 (by decide) (by decide)]
  have := nat_join 1 y.toNat 1 (by omega) (by decide)
  have e : (1 : Int).toNat = 1 := rfl
  rw [e, this]
  omega

/-- P1.1: u = 2v from 0 on, -2v - 1 below. -/
def foldI (v : Int) : Int := if v < 0 then -2 * v - 1 else 2 * v
theorem foldI_neg {v : Int} (h : v < 0) : foldI v = -2 * v - 1 := if_pos h
theorem foldI_pos {v : Int} (h : ¬ v < 0) : foldI v = 2 * v := if_neg h
theorem foldI_range (v : Int) (h0 : -9223372036854775808 ≤ v) (h1 : v ≤ 9223372036854775807) : 0 ≤ foldI v ∧ foldI v < 18446744073709551616 := by
  unfold foldI; split <;> omega

/-- Seven digits a byte, the lowest first, 128 beside each byte but the last; f + 1 bytes at the most. -/
def numB : Nat → Int → List Int
  | 0, u => [u]
  | f + 1, u => if u < 128 then [u] else (u % 128 + 128) :: numB f (u / 128)
def numOf (v : Int) : List Int := numB 9 (foldI v)

theorem numB_small (f : Nat) (u : Int) (h : u < 128) : numB f u = [u] := by
  cases f with
  | zero => rfl
  | succ f => simp [numB, h]
theorem numB_more (f : Nat) (u : Int) (h : ¬ u < 128) : numB (f + 1) u = (u % 128 + 128) :: numB f (u / 128) := by simp [numB, h]
theorem numB_length (f : Nat) (u : Int) : 1 ≤ (numB f u).length ∧ (numB f u).length ≤ f + 1 := by
  induction f generalizing u with
  | zero => simp [numB]
  | succ f ih =>
    simp only [numB]
    split
    · simp
    · have := ih (u / 128); simp only [List.length_cons]; omega
theorem numOf_length (v : Int) : 1 ≤ (numOf v).length ∧ (numOf v).length ≤ 10 := numB_length 9 _
/-- How great u may be, where f + 1 bytes are left. -/
def Fits (f : Nat) (u : Int) : Prop := 0 ≤ u ∧ u < 128 ^ (f + 1)
theorem Fits.start (u : Int) (h0 : 0 ≤ u) (h1 : u < 18446744073709551616) : Fits 9 u := by
  have e : (128 : Int) ^ (9 + 1) = 1180591620717411303424 := by decide
  refine ⟨h0, ?_⟩
  rw [e]
  omega
theorem Fits.next {f : Nat} {u : Int} (h : Fits f u) (hu : ¬ u < 128) : ∃ g, f = g + 1 ∧ Fits g (u / 128) := by
  cases f with
  | zero => exact absurd h.2 (by simpa using hu)
  | succ g =>
    refine ⟨g, rfl, by have := h.1; omega, ?_⟩
    have := h.2
    rw [Int.pow_succ] at this
    exact Int.ediv_lt_of_lt_mul (by decide) this
theorem numB_bytes (f : Nat) (u : Int) (h : Fits f u) : ∀ z ∈ numB f u, 0 ≤ z ∧ z < 256 := by
  induction f generalizing u with
  | zero => intro z hz; simp [numB] at hz; subst hz; have := h.1; have := h.2; simp at this; omega
  | succ f ih =>
    intro z hz
    by_cases hu : u < 128
    · rw [numB_small _ _ hu] at hz; simp at hz; subst hz; have := h.1; omega
    · rw [numB_more _ _ hu] at hz
      obtain ⟨g, hg, hf⟩ := h.next hu
      obtain rfl : g = f := by omega
      rcases List.mem_cons.1 hz with rfl | hz
      · omega
      · exact ih _ hf z hz

def twoB (x : Int) : List Int := [x % 256, x / 256 % 256]
def fourB (x : Int) : List Int := [x % 256, x / 256 % 256, x / 65536 % 256, x / 16777216 % 256]

end Go.Proofs.YtlknolbfhfcflaaGreat.Oc
end

section
/-
  Plain mathematics of chapter 1: a number taken from bytes (numR), and that what numOf lays is taken as it was. No walk.
-/
namespace Go.Proofs.YtlknolbfhfcflaaGreat.Oc
open Go

def unfoldI (u : Nat) : Int := if u % 2 = 1 then -1 - (u / 2 : Nat) else (u / 2 : Nat)
theorem unfoldI_odd {u : Nat} (h : u % 2 = 1) : unfoldI u = -1 - (u / 2 : Nat) := if_pos h
theorem unfoldI_even {u : Nat} (h : ¬ u % 2 = 1) : unfoldI u = (u / 2 : Nat) := if_neg h
/-- May z not be a number's last byte, behind k others? -/
def badB (k : Nat) (z : Int) : Bool := (decide (k = 9) && decide (1 < z)) || (decide (k ≠ 0) && decide (z = 0))
/-- What is taken, what is left, the error: with f bytes more at the most, behind k bytes that make u. -/
def numR : Nat → Nat → Nat → List Int → Int × List Int × Int
  | 0, _, _, _ => (0, [], 3)
  | _ + 1, _, _, [] => (0, [], 2)
  | f + 1, k, u, z :: r =>
    if 128 ≤ z then numR f (k + 1) (u + (z.toNat % 128) * 128 ^ k) r
    else if badB k z = true then (0, [], 3) else (unfoldI (u + z.toNat * 128 ^ k), r, 0)

theorem numR_more {f k u : Nat} {z : Int} {r : List Int} (h : 128 ≤ z) : numR (f + 1) k u (z :: r) = numR f (k + 1) (u + (z.toNat % 128) * 128 ^ k) r := by simp [numR, h]
theorem numR_bad {f k u : Nat} {z : Int} {r : List Int} (h : ¬ 128 ≤ z) (hb : badB k z = true) : numR (f + 1) k u (z :: r) = (0, [], 3) := by simp [numR, h, hb]
theorem numR_good {f k u : Nat} {z : Int} {r : List Int} (h : ¬ 128 ≤ z) (hb : badB k z = false) : numR (f + 1) k u (z :: r) = (unfoldI (u + z.toNat * 128 ^ k), r, 0) := by simp [numR, h, hb]

theorem andNot128 (z : Int) (h0 : 0 ≤ z) (h1 : z < 256) : bits .andNot .u8 z 128 = ((z.toNat % 128 : Nat) : Int) := by
  rw [u8_andNot z 128 h0 h1 (by decide) (by decide)]
  have : ∀ a : Fin 256, (((a.val &&& (255 - 128) : Nat) : Int)) = ((a.val % 128 : Nat) : Int) := by decide +kernel
  exact this ⟨z.toNat, by omega⟩

theorem pow_le9 (k : Nat) (hk : k ≤ 9) : 128 ^ k ≤ 9223372036854775808 := by
  have : 128 ^ k ≤ 128 ^ 9 := Nat.pow_le_pow_right (by decide) hk
  have e : 128 ^ 9 = 9223372036854775808 := by decide
  omega
theorem pow_le8 (k : Nat) (hk : k ≤ 8) : 128 ^ k ≤ 72057594037927936 := by
  have : 128 ^ k ≤ 128 ^ 8 := Nat.pow_le_pow_right (by decide) hk
  have e : 128 ^ 8 = 72057594037927936 := by decide
  omega
/-- c digits behind k bytes: fits, if k is below 9 or c at most 1. -/
theorem fits_step (k c : Nat) (hk : k ≤ 9) (hc : c < 128) (h9 : k = 9 → c ≤ 1) : c * 128 ^ k ≤ 9223372036854775808 := by
  by_cases h : k = 9
  · have := h9 h
    subst h
    have e : 128 ^ 9 = 9223372036854775808 := by decide
    rw [e]; omega
  · have := pow_le8 k (by omega)
    have := Nat.mul_le_mul (show c ≤ 127 by omega) this
    omega
theorem orStep (U k : Nat) (z : Int) (h0 : 0 ≤ z) (h1 : z < 256) (hk : k ≤ 9) (hU : U < 128 ^ k) (h9 : k = 9 → z.toNat % 128 ≤ 1) :
    bits .or .u64 (U : Int) (IntKind.u64.wrap (IntKind.u64.wrap (bits .andNot .u8 z 128) * 2 ^ (7 * k))) = ((U + (z.toNat % 128) * 128 ^ k : Nat) : Int) := by
  rw [andNot128 z h0 h1]
  have hc : z.toNat % 128 < 128 := Nat.mod_lt _ (by decide)
  generalize z.toNat % 128 = c at *
  have hf := fits_step k c hk hc h9
  have hp : (2 : Int) ^ (7 * k) = ((128 ^ k : Nat) : Int) := by rw [Int.pow_mul]; simp
  have hp9 := pow_le9 k hk
  rw [IntKind.wrap_u64, IntKind.wrap_u64, hp]
  have e1 : ((c : Int) % 18446744073709551616) = c := by omega
  rw [e1, ← Int.natCast_mul]
  have e2 : (((c * 128 ^ k : Nat) : Int) % 18446744073709551616) = ((c * 128 ^ k : Nat) : Int) := by omega
  rw [e2, u64_or_nat U (c * 128 ^ k) (by omega) (by omega)]
  have hj := nat_join (7 * k) (c * 128 ^ k) U (by rw [Nat.pow_mul]; exact Nat.mul_mod_left _ _) (by rw [Nat.pow_mul]; exact hU)
  rw [Nat.or_comm, hj, Nat.add_comm]

/-- What numB lays is taken. -/
theorem numR_numB (f k u : Nat) (t : Int) (r : List Int) (hf : Fits f t) (h0 : k ≠ 0 → 1 ≤ t) (h9 : f + k = 9) (hs : t * 128 ^ k < 18446744073709551616) :
    numR (f + 1) k u (numB f t ++ r) = (unfoldI (u + t.toNat * 128 ^ k), r, 0) := by
  induction f generalizing k u t with
  | zero =>
    have ht := hf.2
    simp at ht
    have hk : k = 9 := by omega
    have e : (128 : Int) ^ k = 9223372036854775808 := by rw [hk]; decide
    rw [e] at hs
    have h0' := h0 (by omega)
    have := hf.1
    rw [numB_small 0 t ht]
    exact numR_good (by omega) (by simp [badB]; omega)
  | succ f ih =>
    by_cases ht : t < 128
    · rw [numB_small _ t ht]
      have := hf.1
      refine numR_good (by omega) ?_
      simp only [badB, Bool.or_eq_false_iff, Bool.and_eq_false_iff, decide_eq_false_iff_not]
      refine ⟨Or.inl (by omega), ?_⟩
      by_cases hk : k = 0
      · exact Or.inl (by simpa using hk)
      · have := h0 hk
        exact Or.inr (by omega)
    · obtain ⟨g, hg, hgf⟩ := hf.next ht
      obtain rfl : g = f := by omega
      rw [numB_more g t ht, List.cons_append, numR_more (by omega)]
      have hpos : (0 : Int) < 128 ^ k := Int.pow_pos (by decide)
      have hsq : t / 128 * 128 ^ (k + 1) < 18446744073709551616 := by
        rw [Int.pow_succ]
        have h1 : t / 128 * 128 ≤ t := by omega
        have h2 : t / 128 * (128 ^ k * 128) = (t / 128 * 128) * 128 ^ k := by rw [Int.mul_comm (128 ^ k) 128, ← Int.mul_assoc]
        rw [h2]
        exact Int.lt_of_le_of_lt (Int.mul_le_mul_of_nonneg_right h1 (Int.le_of_lt hpos)) hs
      rw [ih (k + 1) _ (t / 128) hgf (by intro _; omega) (by omega) hsq]
      have hmod : (t % 128 + 128).toNat % 128 = (t % 128).toNat := by omega
      rw [hmod]
      congr 2
      have ht0 : 0 ≤ t := hf.1
      have : t.toNat = (t % 128).toNat + (t / 128).toNat * 128 := by omega
      rw [this, Nat.pow_succ, Nat.add_mul, Nat.mul_assoc, Nat.mul_comm 128 (128 ^ k), Nat.add_assoc]

theorem unfold_fold (v : Int) : unfoldI (foldI v).toNat = v := by
  unfold foldI
  split
  · rw [unfoldI_odd (by omega)]; omega
  · rw [unfoldI_even (by omega)]; omega
/-- P1.4: what was laid is taken as it was. -/
theorem numR_numOf (v : Int) (r : List Int) (h0 : -9223372036854775808 ≤ v) (h1 : v ≤ 9223372036854775807) : numR 10 0 0 (numOf v ++ r) = (v, r, 0) := by
  have hr := foldI_range v h0 h1
  have := numR_numB 9 0 0 (foldI v) r (Fits.start _ hr.1 hr.2) (by simp) rfl (by simpa using hr.2)
  unfold numOf
  rw [this]
  simp [unfold_fold v]
end Go.Proofs.YtlknolbfhfcflaaGreat.Oc
end

section
/-
  Plain mathematics of chapter 2: SHA-256 over numbers, as the document tells it. No walk.
-/
namespace Go.Proofs.YtlknolbfhfcflaaGreat.Dg
open Go

def rotr (x n : Nat) : Nat := (x / 2 ^ n) ||| (x * 2 ^ (32 - n) % 4294967296)
def sg0 (x : Nat) : Nat := (rotr x 7 ^^^ rotr x 18) ^^^ (x / 8)
def sg1 (x : Nat) : Nat := (rotr x 17 ^^^ rotr x 19) ^^^ (x / 1024)
def big1 (x : Nat) : Nat := (rotr x 6 ^^^ rotr x 11) ^^^ rotr x 25
def big0 (x : Nat) : Nat := (rotr x 2 ^^^ rotr x 13) ^^^ rotr x 22
def chN (x y z : Nat) : Nat := (x &&& y) ^^^ ((4294967295 - x) &&& z)
def majN (x y z : Nat) : Nat := ((x &&& y) ^^^ (x &&& z)) ^^^ (y &&& z)

def kN : List Nat := [0x428a2f98, 0x71374491, 0xb5c0fbcf, 0xe9b5dba5, 0x3956c25b, 0x59f111f1, 0x923f82a4, 0xab1c5ed5,
  0xd807aa98, 0x12835b01, 0x243185be, 0x550c7dc3, 0x72be5d74, 0x80deb1fe, 0x9bdc06a7, 0xc19bf174,
  0xe49b69c1, 0xefbe4786, 0x0fc19dc6, 0x240ca1cc, 0x2de92c6f, 0x4a7484aa, 0x5cb0a9dc, 0x76f988da,
  0x983e5152, 0xa831c66d, 0xb00327c8, 0xbf597fc7, 0xc6e00bf3, 0xd5a79147, 0x06ca6351, 0x14292967,
  0x27b70a85, 0x2e1b2138, 0x4d2c6dfc, 0x53380d13, 0x650a7354, 0x766a0abb, 0x81c2c92e, 0x92722c85,
  0xa2bfe8a1, 0xa81a664b, 0xc24b8b70, 0xc76c51a3, 0xd192e819, 0xd6990624, 0xf40e3585, 0x106aa070,
  0x19a4c116, 0x1e376c08, 0x2748774c, 0x34b0bcb5, 0x391c0cb3, 0x4ed8aa4a, 0x5b9cca4f, 0x682e6ff3,
  0x748f82ee, 0x78a5636f, 0x84c87814, 0x8cc70208, 0x90befffa, 0xa4506ceb, 0xbef9a3f7, 0xc67178f2]

/-- The eight words of the state. -/
structure S8 where
  a : Nat
  b : Nat
  c : Nat
  d : Nat
  e : Nat
  f : Nat
  g : Nat
  h : Nat
def S8.list (s : S8) : List Nat := [s.a, s.b, s.c, s.d, s.e, s.f, s.g, s.h]
def S8.ok (s : S8) : Prop := s.a < 4294967296 ∧ s.b < 4294967296 ∧ s.c < 4294967296 ∧ s.d < 4294967296 ∧ s.e < 4294967296 ∧ s.f < 4294967296 ∧ s.g < 4294967296 ∧ s.h < 4294967296
def s0N : S8 := ⟨0x6a09e667, 0xbb67ae85, 0x3c6ef372, 0xa54ff53a, 0x510e527f, 0x9b05688c, 0x1f83d9ab, 0x5be0cd19⟩
theorem s0N_ok : s0N.ok := by unfold S8.ok s0N; decide

def t1N (e f g h k w : Nat) : Nat := (h + big1 e + chN e f g + k + w) % 4294967296
def t2N (a b c : Nat) : Nat := (big0 a + majN a b c) % 4294967296
def roundN (s : S8) (k w : Nat) : S8 := ⟨(t1N s.e s.f s.g s.h k w + t2N s.a s.b s.c) % 4294967296, s.a, s.b, s.c, (s.d + t1N s.e s.f s.g s.h k w) % 4294967296, s.e, s.f, s.g⟩
def roundsN (K W : List Nat) : Nat → S8 → S8
  | 0, s => s
  | n + 1, s => roundN (roundsN K W n s) (K.getD n 0) (W.getD n 0)
def S8.add (s v : S8) : S8 := ⟨(s.a + v.a) % 4294967296, (s.b + v.b) % 4294967296, (s.c + v.c) % 4294967296, (s.d + v.d) % 4294967296, (s.e + v.e) % 4294967296, (s.f + v.f) % 4294967296, (s.g + v.g) % 4294967296, (s.h + v.h) % 4294967296⟩
def nextW (W : List Nat) (i : Nat) : Nat := (W.getD (i - 16) 0 + sg0 (W.getD (i - 15) 0) + W.getD (i - 7) 0 + sg1 (W.getD (i - 2) 0)) % 4294967296
/-- The words up to n + 16, made of the first sixteen. -/
def growW (W : List Nat) : Nat → List Nat
  | 0 => W
  | n + 1 => growW W n ++ [nextW (growW W n) (n + 16)]
def beW (a b c d : Int) : Nat := a.toNat * 16777216 + b.toNat * 65536 + c.toNat * 256 + d.toNat
/-- The words of a block's bytes. -/
def wordsN (bs : List Int) : Nat → List Nat
  | 0 => []
  | n + 1 => wordsN bs n ++ [beW (bs.getD (4 * n) 0) (bs.getD (4 * n + 1) 0) (bs.getD (4 * n + 2) 0) (bs.getD (4 * n + 3) 0)]
def schedN (bs : List Int) : List Nat := growW (wordsN bs 16) 48
def blockN (s : S8) (bs : List Int) : S8 := s.add (roundsN kN (schedN bs) 64 s)
/-- n blocks. -/
def absorb : Nat → S8 → List Int → S8
  | 0, s, _ => s
  | n + 1, s, bs => blockN (absorb n s bs) ((bs.drop (64 * n)).take 64)
/-- Eight bytes, the highest first. -/
def cnt8 (n : Nat) : List Int := [((n / 72057594037927936 % 256 : Nat) : Int), ((n / 281474976710656 % 256 : Nat) : Int), ((n / 1099511627776 % 256 : Nat) : Int), ((n / 4294967296 % 256 : Nat) : Int), ((n / 16777216 % 256 : Nat) : Int), ((n / 65536 % 256 : Nat) : Int), ((n / 256 % 256 : Nat) : Int), ((n % 256 : Nat) : Int)]
def padZ (r : Nat) : Nat := if 64 < r + 9 then 119 - r else 55 - r
def endOf (rest : List Int) (n : Nat) : List Int := rest ++ (128 :: (List.replicate (padZ rest.length) 0 ++ cnt8 (8 * n)))
def be4 (x : Nat) : List Int := [((x / 16777216 % 256 : Nat) : Int), ((x / 65536 % 256 : Nat) : Int), ((x / 256 % 256 : Nat) : Int), ((x % 256 : Nat) : Int)]
def S8.hash (s : S8) : List Int := s.list.flatMap be4
/-- P2.1: the digest of bytes. -/
def shaN (bs : List Int) : List Int :=
  ((absorb ((endOf (bs.drop (64 * (bs.length / 64))) bs.length).length / 64) (absorb (bs.length / 64) s0N bs) (endOf (bs.drop (64 * (bs.length / 64))) bs.length)).hash)
def linkN (h bs : List Int) : List Int := shaN (h ++ bs)
def xorL (m : Nat) (bs : List Int) : List Int := bs.map fun z => ((z.toNat ^^^ m : Nat) : Int)
def keyN (key : List Int) : List Int := if 64 < key.length then shaN key ++ List.replicate 32 0 else key ++ List.replicate (64 - key.length) 0
/-- P2.2: the digest under a key. -/
def macN (key bs : List Int) : List Int := shaN (xorL 92 (keyN key) ++ shaN (xorL 54 (keyN key) ++ bs))
def hexN : List Nat := [48, 49, 50, 51, 52, 53, 54, 55, 56, 57, 97, 98, 99, 100, 101, 102]
def hexL (h : List Int) : List Nat := h.flatMap fun z => [hexN.getD (z.toNat / 16) 0, hexN.getD (z.toNat % 16) 0]

theorem xor32 {a b : Nat} (ha : a < 4294967296) (hb : b < 4294967296) : a ^^^ b < 4294967296 := Nat.xor_lt_two_pow (n := 32) ha hb
theorem or32 {a b : Nat} (ha : a < 4294967296) (hb : b < 4294967296) : a ||| b < 4294967296 := Nat.or_lt_two_pow (n := 32) ha hb
theorem and32 {a b : Nat} (ha : a < 4294967296) : a &&& b < 4294967296 := Nat.lt_of_le_of_lt Nat.and_le_left ha
theorem rotr_lt {x : Nat} (n : Nat) (h : x < 4294967296) : rotr x n < 4294967296 := or32 (Nat.lt_of_le_of_lt (Nat.div_le_self _ _) h) (Nat.mod_lt _ (by decide))
theorem sg0_lt {x : Nat} (h : x < 4294967296) : sg0 x < 4294967296 := xor32 (xor32 (rotr_lt _ h) (rotr_lt _ h)) (by omega)
theorem sg1_lt {x : Nat} (h : x < 4294967296) : sg1 x < 4294967296 := xor32 (xor32 (rotr_lt _ h) (rotr_lt _ h)) (by omega)
theorem big0_lt {x : Nat} (h : x < 4294967296) : big0 x < 4294967296 := xor32 (xor32 (rotr_lt _ h) (rotr_lt _ h)) (rotr_lt _ h)
theorem big1_lt {x : Nat} (h : x < 4294967296) : big1 x < 4294967296 := xor32 (xor32 (rotr_lt _ h) (rotr_lt _ h)) (rotr_lt _ h)
theorem chN_lt {x y z : Nat} (h : x < 4294967296) : chN x y z < 4294967296 := xor32 (and32 h) (and32 (by omega))
theorem majN_lt {x y z : Nat} (h : x < 4294967296) (h2 : y < 4294967296) : majN x y z < 4294967296 := xor32 (xor32 (and32 h) (and32 h)) (and32 h2)
theorem t1N_lt (e f g h k w : Nat) : t1N e f g h k w < 4294967296 := Nat.mod_lt _ (by decide)
theorem t2N_lt (a b c : Nat) : t2N a b c < 4294967296 := Nat.mod_lt _ (by decide)
theorem roundN_ok {s : S8} (h : s.ok) (k w : Nat) : (roundN s k w).ok := ⟨Nat.mod_lt _ (by decide), h.1, h.2.1, h.2.2.1, Nat.mod_lt _ (by decide), h.2.2.2.2.1, h.2.2.2.2.2.1, h.2.2.2.2.2.2.1⟩
theorem roundsN_ok (K W : List Nat) (n : Nat) {s : S8} (h : s.ok) : (roundsN K W n s).ok := by
  induction n with
  | zero => exact h
  | succ n ih => exact roundN_ok ih _ _
theorem S8.add_ok (s v : S8) : (s.add v).ok := ⟨Nat.mod_lt _ (by decide), Nat.mod_lt _ (by decide), Nat.mod_lt _ (by decide), Nat.mod_lt _ (by decide), Nat.mod_lt _ (by decide), Nat.mod_lt _ (by decide), Nat.mod_lt _ (by decide), Nat.mod_lt _ (by decide)⟩
theorem absorb_ok (n : Nat) {s : S8} (bs : List Int) (h : s.ok) : (absorb n s bs).ok := by
  cases n with
  | zero => exact h
  | succ n => exact S8.add_ok _ _
/-- Words below 2^32. -/
def Wds (ws : List Nat) : Prop := ∀ x ∈ ws, x < 4294967296
theorem Wds.get {ws : List Nat} (h : Wds ws) (i : Nat) : ws.getD i 0 < 4294967296 := by
  by_cases hi : i < ws.length
  · exact h _ (by simp [List.getD, hi])
  · simp [List.getD, List.getElem?_eq_none (Nat.le_of_not_lt hi)]
theorem Wds.append {a b : List Nat} (h : Wds a) (k : Wds b) : Wds (a ++ b) := by
  intro x hx
  rcases List.mem_append.1 hx with h1 | h1
  · exact h x h1
  · exact k x h1
theorem Wds.one {x : Nat} (h : x < 4294967296) : Wds [x] := by intro y hy; simp at hy; omega
theorem kN_wds : Wds kN := by unfold Wds kN; decide
theorem S8.ok.wds {s : S8} (h : s.ok) : Wds s.list := by
  intro x hx
  obtain ⟨h1, h2, h3, h4, h5, h6, h7, h8⟩ := h
  simp [S8.list] at hx
  omega
/-- Bytes. -/
def Byt (xs : List Int) : Prop := ∀ z ∈ xs, 0 ≤ z ∧ z < 256
theorem Byt.get {xs : List Int} (h : Byt xs) (i : Nat) : 0 ≤ xs.getD i 0 ∧ xs.getD i 0 < 256 := by
  by_cases hi : i < xs.length
  · exact h _ (by simp [List.getD, hi])
  · simp [List.getD, List.getElem?_eq_none (Nat.le_of_not_lt hi)]
theorem Byt.append {a b : List Int} (h : Byt a) (k : Byt b) : Byt (a ++ b) := by
  intro x hx
  rcases List.mem_append.1 hx with h1 | h1
  · exact h x h1
  · exact k x h1
theorem Byt.take {a : List Int} (h : Byt a) (n : Nat) : Byt (a.take n) := fun x hx => h x (List.mem_of_mem_take hx)
theorem Byt.drop {a : List Int} (h : Byt a) (n : Nat) : Byt (a.drop n) := fun x hx => h x (List.mem_of_mem_drop hx)
theorem beW_lt {a b c d : Int} (ha : 0 ≤ a ∧ a < 256) (hb : 0 ≤ b ∧ b < 256) (hc : 0 ≤ c ∧ c < 256) (hd : 0 ≤ d ∧ d < 256) : beW a b c d < 4294967296 := by unfold beW; omega
theorem wordsN_length (bs : List Int) (n : Nat) : (wordsN bs n).length = n := by
  induction n with
  | zero => rfl
  | succ n ih => simp [wordsN, ih]
theorem wordsN_wds {bs : List Int} (h : Byt bs) (n : Nat) : Wds (wordsN bs n) := by
  induction n with
  | zero => intro x hx; cases hx
  | succ n ih => exact ih.append (Wds.one (beW_lt (h.get _) (h.get _) (h.get _) (h.get _)))
theorem growW_length (W : List Nat) (n : Nat) : (growW W n).length = W.length + n := by
  induction n with
  | zero => rfl
  | succ n ih => simp [growW, ih]; omega
theorem growW_wds {W : List Nat} (h : Wds W) (n : Nat) : Wds (growW W n) := by
  induction n with
  | zero => exact h
  | succ n ih => exact ih.append (Wds.one (Nat.mod_lt _ (by decide)))
theorem schedN_length (bs : List Int) : (schedN bs).length = 64 := by unfold schedN; rw [growW_length, wordsN_length]
theorem schedN_wds {bs : List Int} (h : Byt bs) : Wds (schedN bs) := growW_wds (wordsN_wds h 16) 48
theorem cnt8_byt (n : Nat) : Byt (cnt8 n) := by intro z hz; simp [cnt8] at hz; omega
theorem endOf_byt {rest : List Int} (h : Byt rest) (n : Nat) : Byt (endOf rest n) := by
  refine h.append ?_
  intro z hz
  rcases List.mem_cons.1 hz with rfl | hz
  · omega
  rcases List.mem_append.1 hz with hz | hz
  · have := (List.mem_replicate.1 hz).2; omega
  · exact cnt8_byt _ z hz
theorem endOf_length (rest : List Int) (n : Nat) (h : rest.length < 64) : (endOf rest n).length = if 64 < rest.length + 9 then 128 else 64 := by
  unfold endOf padZ
  simp only [List.length_append, List.length_cons, List.length_replicate, cnt8, List.length_nil]
  split <;> omega
theorem be4_byt (x : Nat) : Byt (be4 x) := by intro z hz; simp [be4] at hz; omega
theorem hash_byt (s : S8) : Byt s.hash := by
  intro z hz
  obtain ⟨x, _, hx⟩ := List.mem_flatMap.1 hz
  exact be4_byt x z hx
theorem hash_length (s : S8) : s.hash.length = 32 := rfl
theorem shaN_length (bs : List Int) : (shaN bs).length = 32 := rfl
theorem shaN_byt (bs : List Int) : Byt (shaN bs) := hash_byt _
theorem absorb_take (n m : Nat) (s : S8) (bs : List Int) (h : 64 * n ≤ m) : absorb n s (bs.take m) = absorb n s bs := by
  induction n with
  | zero => rfl
  | succ n ih =>
    show blockN _ _ = blockN _ _
    rw [ih (by omega)]
    congr 1
    rw [List.drop_take, List.take_take, Nat.min_eq_left (by omega)]
theorem absorb_app (n : Nat) (s : S8) (a b : List Int) (h : 64 * n ≤ a.length) : absorb n s (a ++ b) = absorb n s a := by
  rw [← absorb_take n a.length s (a ++ b) h]; simp
theorem absorb_add (n m : Nat) (s : S8) (bs : List Int) : absorb (n + m) s bs = absorb m (absorb n s bs) (bs.drop (64 * n)) := by
  induction m with
  | zero => rfl
  | succ m ih =>
    show blockN (absorb (n + m) s bs) _ = blockN _ _
    rw [ih, List.drop_drop, ← Nat.mul_add]
    rfl
end Go.Proofs.YtlknolbfhfcflaaGreat.Dg
end
