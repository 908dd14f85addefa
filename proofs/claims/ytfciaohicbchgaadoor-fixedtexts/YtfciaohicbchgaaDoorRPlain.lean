/-
  The document's reading of a text, in plain words: what is good (Good), and what it says of a number's text.
-/
import Derived.Test.YtfciaohicbchgaaDoorRTxt
import Derived.Test.YtfciaohicbchgaaDoorPrs
namespace Go.Proofs.YtfciaohicbchgaaDoor
open Go.RowKit
/-- The number that digits write. -/
def numV (t : List UInt8) : Nat := t.foldl (fun n d => n * 10 + (d.toNat - 48)) 0
theorem numV_snoc (t : List UInt8) (d : UInt8) : numV (t ++ [d]) = numV t * 10 + (d.toNat - 48) := by simp [numV]
/-- A digit. -/
def dig (d : UInt8) : Bool := decide (48 ≤ d.toNat) && decide (d.toNat ≤ 57)
theorem fold_lt : ∀ (t : List UInt8) (n k : Nat), (∀ d ∈ t, dig d = true) → n < 10 ^ k → t.foldl (fun n d => n * 10 + (d.toNat - 48)) n < 10 ^ (k + t.length)
  | [], n, k, _, hn => by simpa using hn
  | d :: t, n, k, h, hn => by
    have h2 := h d (by simp)
    simp only [dig, Bool.and_eq_true, decide_eq_true_eq] at h2
    have := fold_lt t (n * 10 + (d.toNat - 48)) (k + 1) (fun x hx => h x (by simp [hx])) (by rw [Nat.pow_succ]; omega)
    rw [List.foldl_cons, List.length_cons, show k + (t.length + 1) = k + 1 + t.length by omega]
    exact this
theorem numV_lt (t : List UInt8) (h : ∀ d ∈ t, dig d = true) : numV t < 10 ^ t.length := by
  have := fold_lt t 0 0 h (by simp)
  simpa [numV] using this
/-- A hexadecimal digit (small), and its number. -/
def hx (d : UInt8) : Bool := dig d || (decide (97 ≤ d.toNat) && decide (d.toNat ≤ 102))
def hxV (d : UInt8) : Nat := if dig d = true then d.toNat - 48 else d.toNat - 87
def valH (t : List UInt8) : Nat := t.foldl (fun n d => n * 16 + hxV d) 0
theorem valH_snoc (t : List UInt8) (d : UInt8) : valH (t ++ [d]) = valH t * 16 + hxV d := by simp [valH]
theorem hxV_lt {d : UInt8} (h : hx d = true) : hxV d < 16 := by
  simp only [hx, dig, hxV, Bool.or_eq_true, Bool.and_eq_true, decide_eq_true_eq] at *
  split <;> omega
theorem foldH_lt : ∀ (t : List UInt8) (n k : Nat), (∀ d ∈ t, hx d = true) → n < 16 ^ k → t.foldl (fun n d => n * 16 + hxV d) n < 16 ^ (k + t.length)
  | [], n, k, _, hn => by simpa using hn
  | d :: t, n, k, h, hn => by
    have h2 := hxV_lt (h d (by simp))
    have := foldH_lt t (n * 16 + hxV d) (k + 1) (fun x hx => h x (by simp [hx])) (by rw [Nat.pow_succ]; omega)
    rw [List.foldl_cons, List.length_cons, show k + (t.length + 1) = k + 1 + t.length by omega]
    exact this
theorem valH_lt (t : List UInt8) (h : ∀ d ∈ t, hx d = true) : valH t < 16 ^ t.length := by
  have := foldH_lt t 0 0 h (by simp)
  simpa [valH] using this
/-- The text (without a sign) is digits, a point, four hexadecimal digits. -/
structure GoodK (T : List UInt8) (k x f : Nat) : Prop where
  len : k + 5 = T.length
  few : k ≤ 5
  pos : 1 ≤ k
  digs : ∀ d ∈ T.take k, dig d = true
  pt : T[k]? = some 46
  hexs : ∀ d ∈ T.drop (k + 1), hx d = true
  whole : x = numV (T.take k)
  part : f = valH (T.drop (k + 1))
def Good (T : List UInt8) (x f : Nat) : Prop := ∃ k, GoodK T k x f
theorem Good.uniq {T : List UInt8} {x f x' f' : Nat} (h : Good T x f) (h' : Good T x' f') : x = x' ∧ f = f' := by
  obtain ⟨k, g⟩ := h
  obtain ⟨k', g'⟩ := h'
  obtain rfl : k = k' := by have := g.len; have := g'.len; omega
  exact ⟨g.whole.trans g'.whole.symm, g.part.trans g'.part.symm⟩
/-- Where the digits end. -/
theorem GoodK.stop {T : List UInt8} {k x f m : Nat} (g : GoodK T k x f) (hd : ∀ d ∈ T.take m, dig d = true) (_hm : m ≤ T.length) (he : m = T.length ∨ ∃ d, T[m]? = some d ∧ dig d = false) : m = k := by
  rcases Nat.lt_trichotomy m k with h | h | h
  · rcases he with e | ⟨d, e1, e2⟩
    · have := g.len; omega
    · have hmem : d ∈ T.take k := List.mem_of_getElem? (i := m) (by rw [List.getElem?_take_of_lt h]; exact e1)
      rw [g.digs d hmem] at e2; cases e2
  · exact h
  · have hmem : (46 : UInt8) ∈ T.take m := List.mem_of_getElem? (i := k) (by rw [List.getElem?_take_of_lt h]; exact g.pt)
    have := hd _ hmem
    exact absurd this (by decide)
/-- What the document's Parse answers of a text s whose rest behind the sign is T. -/
def pairF (s : List UInt8) (v : Int) : Value := if (-2147483648 ≤ v ∧ v ≤ 2147483647) ∧ textS v = s then .tuple #[.int .i32 v, .int .i64 0] else .tuple #[.int .i32 0, .int .i64 3]
def sgn (ng : Bool) (v : Int) : Int := if ng = true then -v else v
def RefAns (s T : List UInt8) (ng : Bool) (e : Ending) : Prop :=
  (∃ x f : Nat, Good T x f ∧ e = .returned (pairF s (sgn ng ((x : Int) * 65536 + f)))) ∨ ((¬ ∃ x f, Good T x f) ∧ e = .returned (.tuple #[.int .i32 0, .int .i64 3]))
end Go.Proofs.YtfciaohicbchgaaDoor
