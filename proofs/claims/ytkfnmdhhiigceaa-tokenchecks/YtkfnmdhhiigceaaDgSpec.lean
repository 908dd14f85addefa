/-
  Plain mathematics of chapter 2: SHA-256 over numbers, as the document tells it. No walk.
-/
import Derived.Laws.BitsAllLaws
namespace Go.Proofs.Ytkfnmdhhiigceaa.Dg
open Go

def rotr (x n : Nat) : Nat := (x / 2 ^ n) ||| (x * 2 ^ (32 - n) % 4294967296)
def sg0 (x : Nat) : Nat := (rotr x 7 ^^^ rotr x 18) ^^^ (x / 8)
def sg1 (x : Nat) : Nat := (rotr x 17 ^^^ rotr x 19) ^^^ (x / 1024)
def big1 (x : Nat) : Nat := (rotr x 6 ^^^ rotr x 11) ^^^ rotr x 25
def big0 (x : Nat) : Nat := (rotr x 2 ^^^ rotr x 13) ^^^ rotr x 22
def chN (x y z : Nat) : Nat := (x &&& y) ^^^ ((4294967295 - x) &&& z)
def majN (x y z : Nat) : Nat := ((x &&& y) ^^^ (x &&& z)) ^^^ (y &&& z)

def kN : List Nat := [0x428a2f98, 0x71374491, 0xb5c0fbcf, 0xe9b5dba5, 0x3956c25b, 0x59f111f1, 0x923f82a4, 0xab1c5ed5,
  0xd807aa98, 0x12835b01, 0x243185be, 0x550c7dc3, 0x72be5d74, 0x80deb1fe, 0x9bdc06a7, 0xc19bf174,
  0xe49b69c1, 0xefbe4786, 0x0fc19dc6, 0x240ca1cc, 0x2de92c6f, 0x4a7484aa, 0x5cb0a9dc, 0x76f988da,
  0x983e5152, 0xa831c66d, 0xb00327c8, 0xbf597fc7, 0xc6e00bf3, 0xd5a79147, 0x06ca6351, 0x14292967,
  0x27b70a85, 0x2e1b2138, 0x4d2c6dfc, 0x53380d13, 0x650a7354, 0x766a0abb, 0x81c2c92e, 0x92722c85,
  0xa2bfe8a1, 0xa81a664b, 0xc24b8b70, 0xc76c51a3, 0xd192e819, 0xd6990624, 0xf40e3585, 0x106aa070,
  0x19a4c116, 0x1e376c08, 0x2748774c, 0x34b0bcb5, 0x391c0cb3, 0x4ed8aa4a, 0x5b9cca4f, 0x682e6ff3,
  0x748f82ee, 0x78a5636f, 0x84c87814, 0x8cc70208, 0x90befffa, 0xa4506ceb, 0xbef9a3f7, 0xc67178f2]

/-- The eight words of the state. -/
structure S8 where
  a : Nat
  b : Nat
  c : Nat
  d : Nat
  e : Nat
  f : Nat
  g : Nat
  h : Nat
def S8.list (s : S8) : List Nat := [s.a, s.b, s.c, s.d, s.e, s.f, s.g, s.h]
def S8.ok (s : S8) : Prop := s.a < 4294967296 ∧ s.b < 4294967296 ∧ s.c < 4294967296 ∧ s.d < 4294967296 ∧ s.e < 4294967296 ∧ s.f < 4294967296 ∧ s.g < 4294967296 ∧ s.h < 4294967296
def s0N : S8 := ⟨0x6a09e667, 0xbb67ae85, 0x3c6ef372, 0xa54ff53a, 0x510e527f, 0x9b05688c, 0x1f83d9ab, 0x5be0cd19⟩
theorem s0N_ok : s0N.ok := by unfold S8.ok s0N; decide

def t1N (e f g h k w : Nat) : Nat := (h + big1 e + chN e f g + k + w) % 4294967296
def t2N (a b c : Nat) : Nat := (big0 a + majN a b c) % 4294967296
def roundN (s : S8) (k w : Nat) : S8 := ⟨(t1N s.e s.f s.g s.h k w + t2N s.a s.b s.c) % 4294967296, s.a, s.b, s.c, (s.d + t1N s.e s.f s.g s.h k w) % 4294967296, s.e, s.f, s.g⟩
def roundsN (K W : List Nat) : Nat → S8 → S8
  | 0, s => s
  | n + 1, s => roundN (roundsN K W n s) (K.getD n 0) (W.getD n 0)
def S8.add (s v : S8) : S8 := ⟨(s.a + v.a) % 4294967296, (s.b + v.b) % 4294967296, (s.c + v.c) % 4294967296, (s.d + v.d) % 4294967296, (s.e + v.e) % 4294967296, (s.f + v.f) % 4294967296, (s.g + v.g) % 4294967296, (s.h + v.h) % 4294967296⟩
def nextW (W : List Nat) (i : Nat) : Nat := (W.getD (i - 16) 0 + sg0 (W.getD (i - 15) 0) + W.getD (i - 7) 0 + sg1 (W.getD (i - 2) 0)) % 4294967296
/-- The words up to n + 16, made of the first sixteen. -/
def growW (W : List Nat) : Nat → List Nat
  | 0 => W
  | n + 1 => growW W n ++ [nextW (growW W n) (n + 16)]
def beW (a b c d : Int) : Nat := a.toNat * 16777216 + b.toNat * 65536 + c.toNat * 256 + d.toNat
/-- The words of a block's bytes. -/
def wordsN (bs : List Int) : Nat → List Nat
  | 0 => []
  | n + 1 => wordsN bs n ++ [beW (bs.getD (4 * n) 0) (bs.getD (4 * n + 1) 0) (bs.getD (4 * n + 2) 0) (bs.getD (4 * n + 3) 0)]
def schedN (bs : List Int) : List Nat := growW (wordsN bs 16) 48
def blockN (s : S8) (bs : List Int) : S8 := s.add (roundsN kN (schedN bs) 64 s)
/-- n blocks. -/
def absorb : Nat → S8 → List Int → S8
  | 0, s, _ => s
  | n + 1, s, bs => blockN (absorb n s bs) ((bs.drop (64 * n)).take 64)
/-- Eight bytes, the highest first. -/
def cnt8 (n : Nat) : List Int := [((n / 72057594037927936 % 256 : Nat) : Int), ((n / 281474976710656 % 256 : Nat) : Int), ((n / 1099511627776 % 256 : Nat) : Int), ((n / 4294967296 % 256 : Nat) : Int), ((n / 16777216 % 256 : Nat) : Int), ((n / 65536 % 256 : Nat) : Int), ((n / 256 % 256 : Nat) : Int), ((n % 256 : Nat) : Int)]
def padZ (r : Nat) : Nat := if 64 < r + 9 then 119 - r else 55 - r
def endOf (rest : List Int) (n : Nat) : List Int := rest ++ (128 :: (List.replicate (padZ rest.length) 0 ++ cnt8 (8 * n)))
def be4 (x : Nat) : List Int := [((x / 16777216 % 256 : Nat) : Int), ((x / 65536 % 256 : Nat) : Int), ((x / 256 % 256 : Nat) : Int), ((x % 256 : Nat) : Int)]
def S8.hash (s : S8) : List Int := s.list.flatMap be4
/-- P2.1: the digest of bytes. -/
def shaN (bs : List Int) : List Int :=
  ((absorb ((endOf (bs.drop (64 * (bs.length / 64))) bs.length).length / 64) (absorb (bs.length / 64) s0N bs) (endOf (bs.drop (64 * (bs.length / 64))) bs.length)).hash)
def linkN (h bs : List Int) : List Int := shaN (h ++ bs)
def xorL (m : Nat) (bs : List Int) : List Int := bs.map fun z => ((z.toNat ^^^ m : Nat) : Int)
def keyN (key : List Int) : List Int := if 64 < key.length then shaN key ++ List.replicate 32 0 else key ++ List.replicate (64 - key.length) 0
/-- P2.2: the digest under a key. -/
def macN (key bs : List Int) : List Int := shaN (xorL 92 (keyN key) ++ shaN (xorL 54 (keyN key) ++ bs))
def hexN : List Nat := [48, 49, 50, 51, 52, 53, 54, 55, 56, 57, 97, 98, 99, 100, 101, 102]
def hexL (h : List Int) : List Nat := h.flatMap fun z => [hexN.getD (z.toNat / 16) 0, hexN.getD (z.toNat % 16) 0]

theorem xor32 {a b : Nat} (ha : a < 4294967296) (hb : b < 4294967296) : a ^^^ b < 4294967296 := Nat.xor_lt_two_pow (n := 32) ha hb
theorem or32 {a b : Nat} (ha : a < 4294967296) (hb : b < 4294967296) : a ||| b < 4294967296 := Nat.or_lt_two_pow (n := 32) ha hb
theorem and32 {a b : Nat} (ha : a < 4294967296) : a &&& b < 4294967296 := Nat.lt_of_le_of_lt Nat.and_le_left ha
theorem rotr_lt {x : Nat} (n : Nat) (h : x < 4294967296) : rotr x n < 4294967296 := or32 (Nat.lt_of_le_of_lt (Nat.div_le_self _ _) h) (Nat.mod_lt _ (by decide))
theorem sg0_lt {x : Nat} (h : x < 4294967296) : sg0 x < 4294967296 := xor32 (xor32 (rotr_lt _ h) (rotr_lt _ h)) (by omega)
theorem sg1_lt {x : Nat} (h : x < 4294967296) : sg1 x < 4294967296 := xor32 (xor32 (rotr_lt _ h) (rotr_lt _ h)) (by omega)
theorem big0_lt {x : Nat} (h : x < 4294967296) : big0 x < 4294967296 := xor32 (xor32 (rotr_lt _ h) (rotr_lt _ h)) (rotr_lt _ h)
theorem big1_lt {x : Nat} (h : x < 4294967296) : big1 x < 4294967296 := xor32 (xor32 (rotr_lt _ h) (rotr_lt _ h)) (rotr_lt _ h)
theorem chN_lt {x y z : Nat} (h : x < 4294967296) : chN x y z < 4294967296 := xor32 (and32 h) (and32 (by omega))
theorem majN_lt {x y z : Nat} (h : x < 4294967296) (h2 : y < 4294967296) : majN x y z < 4294967296 := xor32 (xor32 (and32 h) (and32 h)) (and32 h2)
theorem t1N_lt (e f g h k w : Nat) : t1N e f g h k w < 4294967296 := Nat.mod_lt _ (by decide)
theorem t2N_lt (a b c : Nat) : t2N a b c < 4294967296 := Nat.mod_lt _ (by decide)
theorem roundN_ok {s : S8} (h : s.ok) (k w : Nat) : (roundN s k w).ok := ⟨Nat.mod_lt _ (by decide), h.1, h.2.1, h.2.2.1, Nat.mod_lt _ (by decide), h.2.2.2.2.1, h.2.2.2.2.2.1, h.2.2.2.2.2.2.1⟩
theorem roundsN_ok (K W : List Nat) (n : Nat) {s : S8} (h : s.ok) : (roundsN K W n s).ok := by
  induction n with
  | zero => exact h
  | succ n ih => exact roundN_ok ih _ _
theorem S8.add_ok (s v : S8) : (s.add v).ok := ⟨Nat.mod_lt _ (by decide), Nat.mod_lt _ (by decide), Nat.mod_lt _ (by decide), Nat.mod_lt _ (by decide), Nat.mod_lt _ (by decide), Nat.mod_lt _ (by decide), Nat.mod_lt _ (by decide), Nat.mod_lt _ (by decide)⟩
theorem absorb_ok (n : Nat) {s : S8} (bs : List Int) (h : s.ok) : (absorb n s bs).ok := by
  cases n with
  | zero => exact h
  | succ n => exact S8.add_ok _ _
/-- Words below 2^32. -/
def Wds (ws : List Nat) : Prop := ∀ x ∈ ws, x < 4294967296
theorem Wds.get {ws : List Nat} (h : Wds ws) (i : Nat) : ws.getD i 0 < 4294967296 := by
  by_cases hi : i < ws.length
  · exact h _ (by simp [List.getD, hi])
  · simp [List.getD, List.getElem?_eq_none (Nat.le_of_not_lt hi)]
theorem Wds.append {a b : List Nat} (h : Wds a) (k : Wds b) : Wds (a ++ b) := by
  intro x hx
  rcases List.mem_append.1 hx with h1 | h1
  · exact h x h1
  · exact k x h1
theorem Wds.one {x : Nat} (h : x < 4294967296) : Wds [x] := by intro y hy; simp at hy; omega
theorem kN_wds : Wds kN := by unfold Wds kN; decide
theorem S8.ok.wds {s : S8} (h : s.ok) : Wds s.list := by
  intro x hx
  obtain ⟨h1, h2, h3, h4, h5, h6, h7, h8⟩ := h
  simp [S8.list] at hx
  omega
/-- Bytes. -/
def Byt (xs : List Int) : Prop := ∀ z ∈ xs, 0 ≤ z ∧ z < 256
theorem Byt.get {xs : List Int} (h : Byt xs) (i : Nat) : 0 ≤ xs.getD i 0 ∧ xs.getD i 0 < 256 := by
  by_cases hi : i < xs.length
  · exact h _ (by simp [List.getD, hi])
  · simp [List.getD, List.getElem?_eq_none (Nat.le_of_not_lt hi)]
theorem Byt.append {a b : List Int} (h : Byt a) (k : Byt b) : Byt (a ++ b) := by
  intro x hx
  rcases List.mem_append.1 hx with h1 | h1
  · exact h x h1
  · exact k x h1
theorem Byt.take {a : List Int} (h : Byt a) (n : Nat) : Byt (a.take n) := fun x hx => h x (List.mem_of_mem_take hx)
theorem Byt.drop {a : List Int} (h : Byt a) (n : Nat) : Byt (a.drop n) := fun x hx => h x (List.mem_of_mem_drop hx)
theorem beW_lt {a b c d : Int} (ha : 0 ≤ a ∧ a < 256) (hb : 0 ≤ b ∧ b < 256) (hc : 0 ≤ c ∧ c < 256) (hd : 0 ≤ d ∧ d < 256) : beW a b c d < 4294967296 := by unfold beW; omega
theorem wordsN_length (bs : List Int) (n : Nat) : (wordsN bs n).length = n := by
  induction n with
  | zero => rfl
  | succ n ih => simp [wordsN, ih]
theorem wordsN_wds {bs : List Int} (h : Byt bs) (n : Nat) : Wds (wordsN bs n) := by
  induction n with
  | zero => intro x hx; cases hx
  | succ n ih => exact ih.append (Wds.one (beW_lt (h.get _) (h.get _) (h.get _) (h.get _)))
theorem growW_length (W : List Nat) (n : Nat) : (growW W n).length = W.length + n := by
  induction n with
  | zero => rfl
  | succ n ih => simp [growW, ih]; omega
theorem growW_wds {W : List Nat} (h : Wds W) (n : Nat) : Wds (growW W n) := by
  induction n with
  | zero => exact h
  | succ n ih => exact ih.append (Wds.one (Nat.mod_lt _ (by decide)))
theorem schedN_length (bs : List Int) : (schedN bs).length = 64 := by unfold schedN; rw [growW_length, wordsN_length]
theorem schedN_wds {bs : List Int} (h : Byt bs) : Wds (schedN bs) := growW_wds (wordsN_wds h 16) 48
theorem cnt8_byt (n : Nat) : Byt (cnt8 n) := by intro z hz; simp [cnt8] at hz; omega
theorem endOf_byt {rest : List Int} (h : Byt rest) (n : Nat) : Byt (endOf rest n) := by
  refine h.append ?_
  intro z hz
  rcases List.mem_cons.1 hz with rfl | hz
  · omega
  rcases List.mem_append.1 hz with hz | hz
  · have := (List.mem_replicate.1 hz).2; omega
  · exact cnt8_byt _ z hz
theorem endOf_length (rest : List Int) (n : Nat) (h : rest.length < 64) : (endOf rest n).length = if 64 < rest.length + 9 then 128 else 64 := by
  unfold endOf padZ
  simp only [List.length_append, List.length_cons, List.length_replicate, cnt8, List.length_nil]
  split <;> omega
theorem be4_byt (x : Nat) : Byt (be4 x) := by intro z hz; simp [be4] at hz; omega
theorem hash_byt (s : S8) : Byt s.hash := by
  intro z hz
  obtain ⟨x, _, hx⟩ := List.mem_flatMap.1 hz
  exact be4_byt x z hx
theorem hash_length (s : S8) : s.hash.length = 32 := rfl
theorem shaN_length (bs : List Int) : (shaN bs).length = 32 := rfl
theorem shaN_byt (bs : List Int) : Byt (shaN bs) := hash_byt _
theorem absorb_take (n m : Nat) (s : S8) (bs : List Int) (h : 64 * n ≤ m) : absorb n s (bs.take m) = absorb n s bs := by
  induction n with
  | zero => rfl
  | succ n ih =>
    show blockN _ _ = blockN _ _
    rw [ih (by omega)]
    congr 1
    rw [List.drop_take, List.take_take, Nat.min_eq_left (by omega)]
theorem absorb_app (n : Nat) (s : S8) (a b : List Int) (h : 64 * n ≤ a.length) : absorb n s (a ++ b) = absorb n s a := by
  rw [← absorb_take n a.length s (a ++ b) h]; simp
theorem absorb_add (n m : Nat) (s : S8) (bs : List Int) : absorb (n + m) s bs = absorb m (absorb n s bs) (bs.drop (64 * n)) := by
  induction m with
  | zero => rfl
  | succ m ih =>
    show blockN (absorb (n + m) s bs) _ = blockN _ _
    rw [ih, List.drop_drop, ← Nat.mul_add]
    rfl
end Go.Proofs.Ytkfnmdhhiigceaa.Dg
