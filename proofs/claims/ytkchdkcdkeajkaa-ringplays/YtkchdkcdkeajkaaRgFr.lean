/-
  Frames that are laid one by one: the newest n are there. No walk.
-/
import Derived.Test.YtkchdkcdkeajkaaRgPlain
namespace Go.Proofs.Ytkchdkcdkeajkaa
/-- The state of a frame, with a seed. -/
def stF (i : Nat) (x : Int) : Sp := ⟨(i : Int), zeros, x, false, 0⟩
theorem stF_gs {i : Nat} {x : Int} (hi : i ≤ 600) (h0 : 0 ≤ x) (h1 : x < 4294967296) : Gs (stF i x) := by
  refine ⟨⟨rfl, fun y hy => ?_, h0, h1⟩, ?_, ?_⟩
  · simp only [stF, zeros, List.mem_cons, List.not_mem_nil, or_false, or_self] at hy
    subst hy
    exact zero_in
  · show (-9223372036854775808 : Int) ≤ (i : Int); omega
  · show (i : Int) ≤ 9223372036854775807; omega
theorem stF_is {i : Nat} {x : Int} (hi : i ≤ 600) : isS (stF i x) = true := by
  simp [isS, stF]
  omega
def frA (n i : Nat) : Nat := i - min i n
def frL (g : Nat → Int) (n i : Nat) : List Sp := (List.range (min i n)).map fun j => stF (frA n i + j) (g (frA n i + j))
theorem frL_len (g : Nat → Int) (n i : Nat) : (frL g n i).length = min i n := by simp [frL]
theorem frL_at (g : Nat → Int) (n i j : Nat) : (frL g n i)[j]? = if j < min i n then some (stF (frA n i + j) (g (frA n i + j))) else none := by
  unfold frL
  rw [List.getElem?_map]
  split
  · rw [List.getElem?_range (by assumption)]; rfl
  · rw [List.getElem?_eq_none (by simp; omega)]; rfl
theorem frL_nil {g : Nat → Int} {n i : Nat} (hn : 1 ≤ n) (h : frL g n i = []) : i = 0 := by
  have := congrArg List.length h
  rw [frL_len] at this
  simp at this
  omega
theorem fr_step (g : Nat → Int) {n i : Nat} (hn : 1 ≤ n) (hi : i ≤ 600) : putE (frA n i) (frL g n i) (stF i (g i)) = 0 ∧ putL n (frA n i) (frL g n i) (stF i (g i)) = frL g n (i + 1) ∧ putA n (frA n i) (frL g n i) (stF i (g i)) = frA n (i + 1) := by
  have hE : putE (frA n i) (frL g n i) (stF i (g i)) = 0 := by
    unfold putE
    rw [if_neg]
    rintro (h | ⟨h1, h2⟩)
    · rw [stF_is hi] at h; cases h
    · rw [frL_len] at h2
      simp only [stF, frA] at h2
      omega
  have hX : putX (frA n i) (frL g n i) (stF i (g i)) = frL g n i ++ [stF i (g i)] := by
    unfold putX
    congr 1
    apply List.take_of_length_le
    rw [frL_len]
    unfold a0
    split
    · rename_i h
      have := frL_nil hn h
      omega
    · simp only [stF, frA]
      omega
  have hA : a0 (frA n i) (frL g n i) (stF i (g i)) = frA n i := by
    unfold a0
    split
    · rename_i h
      have := frL_nil hn h
      subst this
      simp [stF, frA]
    · rfl
  refine ⟨hE, ?_, ?_⟩
  · unfold putL
    rw [if_pos hE, hX]
    apply List.ext_getElem?
    intro j
    rw [List.length_append, frL_len, List.length_singleton, frL_at]
    by_cases hc : n < min i n + 1
    · rw [if_pos hc, List.getElem?_drop]
      have e1 : min i n = n := by omega
      have e2 : min (i + 1) n = n := by omega
      have e3 : frA n (i + 1) = frA n i + 1 := by simp only [frA]; omega
      by_cases h1 : 1 + j < n
      · rw [List.getElem?_append_left (by rw [frL_len]; omega), frL_at, if_pos (by omega), if_pos (by omega), e3, show frA n i + 1 + j = frA n i + (1 + j) by omega]
      · rw [List.getElem?_append_right (by rw [frL_len]; omega), frL_len]
        by_cases h2 : j < n
        · have e4 : frA n (i + 1) + j = i := by simp only [frA]; omega
          rw [if_pos (by omega), e4, show 1 + j - min i n = 0 by omega]
          rfl
        · rw [if_neg (by omega)]
          apply List.getElem?_eq_none
          simp
          omega
    · rw [if_neg hc]
      have e1 : min i n = i := by omega
      have e2 : min (i + 1) n = i + 1 := by omega
      have e3 : frA n (i + 1) = frA n i := by simp only [frA]; omega
      by_cases h1 : j < i
      · rw [List.getElem?_append_left (by rw [frL_len]; omega), frL_at, if_pos (by omega), if_pos (by omega), e3]
      · rw [List.getElem?_append_right (by rw [frL_len]; omega), frL_len]
        by_cases h2 : j = i
        · have e4 : frA n (i + 1) + j = i := by simp only [frA]; omega
          rw [if_pos (by omega), e4, show j - min i n = 0 by omega]
          rfl
        · rw [if_neg (by omega)]
          apply List.getElem?_eq_none
          simp
          omega
  · unfold putA
    rw [if_pos hE, hX, hA, List.length_append, frL_len, List.length_singleton]
    simp only [frA]
    split <;> omega
end Go.Proofs.Ytkchdkcdkeajkaa
