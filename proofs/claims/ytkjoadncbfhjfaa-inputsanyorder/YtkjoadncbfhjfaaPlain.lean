/-
  A player's row of inputs in plain words: what Put, Get, Known answer. No walk.
-/
import Derived.Test.YtkjoadncbfhjfaaMb
namespace Go.Proofs.Ytkjoadncbfhjfaa
/-- An input with its mark. -/
abbrev Pl := Int × Bool
def at0 (l : List Pl) (k : Nat) : Pl := l.getD k (0, false)
theorem at0_some {l : List Pl} {k : Nat} (h : k < l.length) : l[k]? = some (at0 l k) := by simp [at0, List.getD, h]
/-- Put's answer. -/
def putE (l : List Pl) (f x : Int) : Int := if f < 0 ∨ (l.length : Int) ≤ f then 1 else if (at0 l f.toNat).2 = true then (if (at0 l f.toNat).1 = x then 8 else 18) else 0
/-- The row behind it. -/
def putL (l : List Pl) (f x : Int) : List Pl := if putE l f x = 0 then l.set f.toNat (x, true) else l
theorem putL_len (l : List Pl) (f x : Int) : (putL l f x).length = l.length := by unfold putL; split <;> simp
/-- The greatest place below k that is marked. -/
def down (l : List Pl) : Nat → Option (Nat × Int)
  | 0 => none
  | k + 1 => if (at0 l k).2 = true then some (k, (at0 l k).1) else down l k
def getA (f : Int) : Option (Nat × Int) → Int × Bool
  | some (k, x) => (x, decide ((k : Int) = f))
  | none => (0, false)
/-- What Get answers. -/
def getP (l : List Pl) (f : Int) : Int × Bool := if f < 0 then (0, false) else getA f (down l (min (f.toNat + 1) l.length))
/-- What Known answers. -/
def kn : List Pl → Nat
  | [] => 0
  | x :: l => if x.2 = true then kn l + 1 else 0
theorem kn_le : ∀ l : List Pl, kn l ≤ l.length
  | [] => Nat.le_refl _
  | x :: l => by
    have := kn_le l
    simp only [kn, List.length_cons]
    split <;> omega
theorem kn_mark : ∀ (l : List Pl) (j : Nat), j < kn l → (at0 l j).2 = true
  | [], j, h => by simp [kn] at h
  | x :: l, 0, h => by
    simp only [kn] at h
    split at h
    · simpa [at0] using ‹x.2 = true›
    · omega
  | x :: l, j + 1, h => by
    simp only [kn] at h
    split at h
    · have := kn_mark l j (by omega)
      simpa [at0] using this
    · omega
theorem kn_stop : ∀ l : List Pl, kn l < l.length → (at0 l (kn l)).2 = false
  | [], h => by simp at h
  | x :: l, h => by
    simp only [kn] at h ⊢
    split
    · rw [if_pos ‹_›] at h
      have := kn_stop l (by simpa using h)
      simpa [at0] using this
    · simpa [at0] using ‹¬ x.2 = true›
theorem kn_of {l : List Pl} {m : Nat} (hm : m ≤ l.length) (h : ∀ j, j < m → (at0 l j).2 = true) (hs : m < l.length → (at0 l m).2 = false) : kn l = m := by
  have h1 := kn_le l
  rcases Nat.lt_trichotomy (kn l) m with h2 | h2 | h2
  · have := kn_stop l (by omega)
    rw [h _ h2] at this; cases this
  · exact h2
  · have := hs (by omega)
    rw [kn_mark l m h2] at this; cases this
/-- The row of a player; that of none is empty. -/
def sel (p : Int) (l0 l1 : List Pl) : List Pl := if p = 0 then l0 else if p = 1 then l1 else []
theorem sel_no {p : Int} (h : p < 0 ∨ 1 < p) (l0 l1 : List Pl) : sel p l0 l1 = [] := by
  unfold sel
  rw [if_neg (by omega), if_neg (by omega)]
theorem getP_nil (f : Int) : getP [] f = (0, false) := by
  unfold getP
  split
  · rfl
  · simp [getA, down]
theorem putE_nil (f x : Int) : putE [] f x = 1 := by
  unfold putE
  rw [if_pos (by simp; omega)]
theorem at0_set {l : List Pl} {k j : Nat} (h : k < l.length) (x : Pl) : at0 (l.set k x) j = if j = k then x else at0 l j := by
  unfold at0
  by_cases e : j = k
  · subst e; simp [List.getD, h]
  · simp [List.getD, e, Ne.symm e]
def zeros (n : Nat) : List Pl := List.replicate n (0, false)
theorem zeros_len (n : Nat) : (zeros n).length = n := by simp [zeros]
theorem zeros_at (n k : Nat) : at0 (zeros n) k = (0, false) := by
  simp only [at0, zeros, List.getD, List.getElem?_replicate]
  split <;> rfl
end Go.Proofs.Ytkjoadncbfhjfaa
