/-
  What is newest behind a Put. No walk.
-/
import Derived.Test.YtkchdkcdkeajkaaRgFr
namespace Go.Proofs.Ytkchdkcdkeajkaa
theorem put_last {n a : Nat} {L : List Sp} {s : Sp} {f : Nat} (hn : 1 ≤ n) (hk : Rk n a L) (he : putE a L s = 0) (hf : s.frame = (f : Int)) : putA n a L s + (putL n a L s).length = f + 1 ∧ (putL n a L s)[(putL n a L s).length - 1]? = some s ∧ 1 ≤ (putL n a L s).length := by
  obtain ⟨f', k, hF⟩ := putF he
  have hff : f' = f := by have := hF.ff; omega
  subst hff
  have hlx := putX_len hF
  have hkn := hk.len
  have hkl := hF.kk
  have hfk := hF.fk
  have hls : (putX a L s)[k]? = some s := by
    rw [hF.xx, List.getElem?_append_right (by rw [List.length_take]; omega), List.length_take, Nat.min_eq_left hkl, Nat.sub_self]
    rfl
  unfold putL putA
  rw [if_pos he, if_pos he, hlx]
  by_cases hc : n < k + 1
  · rw [if_pos hc, if_pos hc, List.length_drop, hlx, List.getElem?_drop]
    refine ⟨by omega, ?_, by omega⟩
    rw [show 1 + (k + 1 - 1 - 1) = k by omega]
    exact hls
  · rw [if_neg hc, if_neg hc, hlx]
    refine ⟨by omega, ?_, by omega⟩
    rw [Nat.add_sub_cancel]
    exact hls
theorem put_newest {n a : Nat} {L : List Sp} {s : Sp} {f : Nat} (hn : 1 ≤ n) (hk : Rk n a L) (he : putE a L s = 0) (hf : s.frame = (f : Int)) : gstF (putA n a L s) (putL n a L s) = (f : Int) ∧ gtB (putA n a L s) (putL n a L s) (f : Int) = true ∧ gtS (putA n a L s) (putL n a L s) (f : Int) = s ∧ gtB (putA n a L s) (putL n a L s) ((f : Int) + 1) = false := by
  obtain ⟨h1, h2, h3⟩ := put_last hn hk he hf
  generalize putL n a L s = M at *
  generalize putA n a L s = b at *
  have hne : M ≠ [] := fun e => by rw [e] at h3; simp at h3
  have hb : gtB b M (f : Int) = true := by unfold gtB; rw [decide_eq_true_eq]; omega
  refine ⟨?_, hb, ?_, ?_⟩
  · unfold gstF; rw [if_neg hne]; omega
  · unfold gtS
    rw [if_pos hb, List.getD, show (f : Int).toNat - b = M.length - 1 by omega, h2]
    rfl
  · unfold gtB; rw [decide_eq_false_iff_not]; omega
/-- What Get answers of frames that were laid one by one. -/
theorem fr_get (g : Nat → Int) {n fr i : Nat} (hi : i < fr) : gtB (frA n fr) (frL g n fr) (i : Int) = decide ((fr : Int) - 1 - (n : Int) < (i : Int)) ∧ (gtB (frA n fr) (frL g n fr) (i : Int) = true → gtS (frA n fr) (frL g n fr) (i : Int) = stF i (g i)) := by
  refine ⟨?_, fun h => ?_⟩
  · unfold gtB
    rw [frL_len]
    apply decide_eq_decide.2
    simp only [frA]
    omega
  · have hb := h
    unfold gtB at hb
    rw [decide_eq_true_eq, frL_len] at hb
    unfold gtS
    have e : frA n fr + (i - frA n fr) = i := by omega
    rw [if_pos h, List.getD, show (i : Int).toNat - frA n fr = i - frA n fr by omega, frL_at, if_pos (by omega), e]
    rfl
theorem fr_back (g : Nat → Int) {n fr k : Nat} (h6 : fr ≤ 600) (hk : k < fr) (hkn : fr ≤ k + n) (x : Int) : putE (frA n fr) (frL g n fr) (stF k x) = 0 := by
  unfold putE
  rw [if_neg]
  rintro (h | ⟨h1, h2⟩)
  · rw [stF_is (by omega)] at h; cases h
  · rw [frL_len] at h2
    simp only [stF, frA] at h2
    omega
end Go.Proofs.Ytkchdkcdkeajkaa
