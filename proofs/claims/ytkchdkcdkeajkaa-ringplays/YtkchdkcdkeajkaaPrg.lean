/-
  Programs of the machine in plain words: which instructions are ones (mayI, chk). Plain facts; no walk.
-/
import Derived.Test.YtkchdkcdkeajkaaMb
namespace Go.Proofs.Ytkchdkcdkeajkaa

/-- An instruction: its op and its argument. -/
abbrev Ii := Int × Int
def hasA (o : Int) : Bool := decide (o = 1 ∨ o = 2 ∨ o = 3 ∨ o = 16 ∨ o = 18 ∨ o = 19 ∨ o = 20)
def opI (o : Int) : Bool := decide (1 ≤ o ∧ o ≤ 22)
/-- May an op's argument be this one, in a program of n? -/
def argI (o a n : Int) : Bool :=
  if o = 1 then decide (-2147483648 ≤ a ∧ a ≤ 2147483647)
  else if o = 2 ∨ o = 3 then decide (0 ≤ a ∧ a < 16)
  else if o = 16 then decide (a = 0 ∨ a = 1)
  else if o = 18 ∨ o = 19 then decide (0 ≤ a ∧ a ≤ n)
  else if o = 20 then decide (0 ≤ a ∧ a ≤ 2)
  else decide (a = 0)
def mayI (x : Ii) (n : Int) : Bool := opI x.1 && argI x.1 x.2 n
theorem opI_iff {o : Int} : opI o = true ↔ 1 ≤ o ∧ o ≤ 22 := by simp [opI]
theorem mayI_op {x : Ii} {n : Int} (h : mayI x n = true) : 1 ≤ x.1 ∧ x.1 ≤ 22 := by
  simp only [mayI, Bool.and_eq_true] at h
  exact opI_iff.1 h.1
/-- Arguments that may be are small. -/
theorem mayI_arg {x : Ii} {n : Int} (h : mayI x n = true) (hn : n ≤ 256) : -2147483648 ≤ x.2 ∧ x.2 ≤ 2147483647 := by
  simp only [mayI, Bool.and_eq_true] at h
  have h2 := h.2
  unfold argI at h2
  repeat' split at h2
  all_goals simp at h2
  all_goals omega
theorem mayI_none {x : Ii} {n : Int} (h : mayI x n = true) (ha : hasA x.1 = false) : x.2 = 0 := by
  simp only [mayI, Bool.and_eq_true] at h
  have h2 := h.2
  simp only [hasA, decide_eq_false_iff_not] at ha
  unfold argI at h2
  repeat' split at h2
  all_goals simp at h2
  all_goals omega

/-- The first that is none, from place k on: its place and the error; else noughts. -/
def chkF (n : Int) : Nat → List Ii → Int × Int
  | _, [] => (0, 0)
  | k, x :: l => if mayI x n then chkF n (k + 1) l else ((k : Int), 3)
def chk (l : List Ii) : Int × Int := if 256 < l.length then (0, 5) else chkF l.length 0 l
theorem chkF_ok (n : Int) : ∀ (l : List Ii) (k : Nat), (∀ x ∈ l, mayI x n = true) → chkF n k l = (0, 0)
  | [], _, _ => rfl
  | x :: l, k, h => by
    rw [chkF, if_pos (h x (by simp))]
    exact chkF_ok n l (k + 1) fun y hy => h y (by simp [hy])
theorem chkF_bad (n : Int) : ∀ (l : List Ii) (k j : Nat) (x : Ii), l[j]? = some x → (∀ i y, i < j → l[i]? = some y → mayI y n = true) → mayI x n = false → chkF n k l = (((k + j : Nat) : Int), 3)
  | [], _, _, _, h, _, _ => by simp at h
  | a :: l, k, 0, x, h, _, hx => by
    simp only [List.getElem?_cons_zero, Option.some.injEq] at h
    subst h
    rw [chkF, if_neg (by simp [hx])]
    rfl
  | a :: l, k, j + 1, x, h, hb, hx => by
    rw [chkF, if_pos (hb 0 a (by omega) rfl), chkF_bad n l (k + 1) j x (by simpa using h) (fun i y hi hy => hb (i + 1) y (by omega) (by simpa using hy)) hx]
    rw [show k + 1 + j = k + (j + 1) by omega]
theorem chkF_err (n : Int) : ∀ (l : List Ii) (k : Nat), (chkF n k l).2 = 0 ∧ (∀ x ∈ l, mayI x n = true) ∧ (chkF n k l).1 = 0 ∨ (chkF n k l).2 = 3
  | [], _ => Or.inl ⟨rfl, fun x hx => (by cases hx), rfl⟩
  | x :: l, k => by
    by_cases h : mayI x n = true
    · rw [chkF, if_pos h]
      rcases chkF_err n l (k + 1) with ⟨h1, h2, h3⟩ | h1
      · refine Or.inl ⟨h1, fun y hy => ?_, h3⟩
        rcases List.mem_cons.1 hy with rfl | hy
        · exact h
        · exact h2 y hy
      · exact Or.inr h1
    · rw [chkF, if_neg h]
      exact Or.inr rfl
theorem chk_long {l : List Ii} (h : 256 < l.length) : chk l = (0, 5) := if_pos h
theorem chk_ok {l : List Ii} (h : ¬ 256 < l.length) (ha : ∀ x ∈ l, mayI x l.length = true) : chk l = (0, 0) := by
  rw [chk, if_neg h]
  exact chkF_ok _ l 0 ha
theorem chk_bad {l : List Ii} (h : ¬ 256 < l.length) (j : Nat) (x : Ii) (hj : l[j]? = some x) (hb : ∀ i y, i < j → l[i]? = some y → mayI y l.length = true) (hx : mayI x l.length = false) : chk l = ((j : Int), 3) := by
  rw [chk, if_neg h, chkF_bad _ l 0 j x hj hb hx, Nat.zero_add]
/-- Is it a program? -/
def Okp (l : List Ii) : Prop := (chk l).2 = 0
theorem Okp.len {l : List Ii} (h : Okp l) : l.length ≤ 256 := by
  unfold Okp at h
  by_cases hl : 256 < l.length
  · rw [chk_long hl] at h; simp at h
  · omega
theorem Okp.may {l : List Ii} (h : Okp l) : ∀ x ∈ l, mayI x l.length = true := by
  have hl := h.len
  unfold Okp at h
  rw [chk, if_neg (by omega)] at h
  rcases chkF_err l.length l 0 with ⟨_, h2, _⟩ | h1
  · exact h2
  · omega
theorem Okp.chk {l : List Ii} (h : Okp l) : chk l = (0, 0) := chk_ok (by have := h.len; omega) h.may
theorem chk_err (l : List Ii) : (chk l).2 = 0 ∨ (chk l).2 = 3 ∨ (chk l).2 = 5 := by
  unfold chk
  split
  · exact Or.inr (Or.inr rfl)
  · rcases chkF_err l.length l 0 with ⟨h, _⟩ | h
    · exact Or.inl h
    · exact Or.inr (Or.inl h)

end Go.Proofs.Ytkchdkcdkeajkaa
