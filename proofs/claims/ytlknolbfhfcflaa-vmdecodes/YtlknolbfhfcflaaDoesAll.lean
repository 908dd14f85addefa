/-
  The document's does: whatever the instruction.
-/
import Derived.Test.YtlknolbfhfcflaaDoes1
import Derived.Test.YtlknolbfhfcflaaDoes2
import Derived.Test.YtlknolbfhfcflaaDoes3
import Derived.Test.YtlknolbfhfcflaaDoes4
namespace Go.Proofs.Ytlknolbfhfcflaa
open Go.RowKit
variable {fr i0 i1 : Int} {sv : Value} {cells : List Int} {seed : Int} {w w' : World} {g : Nat} {zs : List Int}
theorem split1 {zs : List Int} (h : ¬ zs.length < 1) : ∃ ys z, zs = ys ++ [z] := by
  have hn : zs ≠ [] := fun e => by rw [e] at h; simp at h
  exact ⟨zs.dropLast, zs.getLast hn, (List.dropLast_concat_getLast hn).symm⟩
theorem split2 {zs : List Int} (h : ¬ zs.length < 2) : ∃ ys b c, zs = ys ++ [b] ++ [c] := by
  obtain ⟨ys, c, rfl⟩ := split1 (zs := zs) (by omega)
  obtain ⟨xs, b, rfl⟩ := split1 (zs := ys) (by simp at h; omega)
  exact ⟨xs, b, c, rfl⟩
theorem does_any (x : Ii) (n j : Nat) (hx : mayI x n = true) (hn : n ≤ 256) (hj : j < n) (hi : Ins3 fr i0 i1) (h : Rw w g fr i0 i1 zs ⟨cells, seed, (j : Int), -1, false⟩ sv) : DoesC w g n j fr i0 i1 cells seed zs x := by
  have hj2 : j < 256 := by omega
  have hlen := h.len
  have hor : zs.length < 32 ∨ zs.length = 32 := by omega
  have h32 := mayI_arg hx (by omega)
  obtain ⟨o, a⟩ := x
  have h1 := mayI_op hx
  simp only at h1 h32
  obtain ⟨k, rfl⟩ := Int.eq_ofNat_of_zero_le (show 0 ≤ o by omega)
  have k1 : 1 ≤ k := by omega
  have k2 : k ≤ 22 := by omega
  match k, k1, k2, hx with
  | 1, _, _, _ => exact hor.elim (fun hl => does_1 a n j hj2 h32 hl hi h) (fun hl => does_1_full a n j hj2 h32 hl hi h)
  | 2, _, _, hx =>
    have h2 : decide (0 ≤ a ∧ a < 16) = true := hx
    simp only [decide_eq_true_eq] at h2
    obtain ⟨i, rfl⟩ := Int.eq_ofNat_of_zero_le h2.1
    exact hor.elim (fun hl => does_2 n j hj2 i (by omega) hl hi h) (fun hl => does_2_full n j hj2 i (by omega) hl hi h)
  | 3, _, _, hx =>
    have h2 : decide (0 ≤ a ∧ a < 16) = true := hx
    simp only [decide_eq_true_eq] at h2
    obtain ⟨i, rfl⟩ := Int.eq_ofNat_of_zero_le h2.1
    by_cases hf : zs.length < 1
    · exact does_3_few _ n j hf h
    · obtain ⟨ys, z, rfl⟩ := split1 hf
      exact does_3 n j hj2 i (by omega) hi h
  | 4, _, _, _ =>
    by_cases hf : zs.length < 2
    · exact does_4_few _ n j hf h
    · obtain ⟨ys, b, c, rfl⟩ := split2 hf
      exact does_4 a n j hj2 hi h
  | 5, _, _, _ =>
    by_cases hf : zs.length < 2
    · exact does_5_few _ n j hf h
    · obtain ⟨ys, b, c, rfl⟩ := split2 hf
      exact does_5 a n j hj2 hi h
  | 6, _, _, _ =>
    by_cases hf : zs.length < 2
    · exact does_6_few _ n j hf h
    · obtain ⟨ys, b, c, rfl⟩ := split2 hf
      exact does_6 a n j hj2 hi h
  | 7, _, _, _ =>
    by_cases hf : zs.length < 2
    · exact does_7_few _ n j hf h
    · obtain ⟨ys, b, c, rfl⟩ := split2 hf
      exact does_7 a n j hj2 hi h
  | 8, _, _, _ =>
    by_cases hf : zs.length < 2
    · exact does_8_few _ n j hf h
    · obtain ⟨ys, b, c, rfl⟩ := split2 hf
      exact does_8 a n j hj2 hi h
  | 9, _, _, _ =>
    by_cases hf : zs.length < 2
    · exact does_9_few _ n j hf h
    · obtain ⟨ys, b, c, rfl⟩ := split2 hf
      exact does_9 a n j hj2 hi h
  | 10, _, _, _ =>
    by_cases hf : zs.length < 2
    · exact does_10_few _ n j hf h
    · obtain ⟨ys, b, c, rfl⟩ := split2 hf
      exact does_10 a n j hj2 hi h
  | 11, _, _, _ =>
    by_cases hf : zs.length < 2
    · exact does_11_few _ n j hf h
    · obtain ⟨ys, b, c, rfl⟩ := split2 hf
      exact does_11 a n j hj2 hi h
  | 12, _, _, _ =>
    by_cases hf : zs.length < 1
    · exact does_12_few _ n j hf h
    · obtain ⟨ys, z, rfl⟩ := split1 hf
      exact does_12 a n j hj2 hi h
  | 13, _, _, _ =>
    by_cases hf : zs.length < 1
    · exact does_13_few _ n j hf h
    · obtain ⟨ys, z, rfl⟩ := split1 hf
      simp only [List.length_append, List.length_cons, List.length_nil] at hor
      exact hor.elim (fun hl => does_13 a n j hj2 (by omega) hi h) (fun hl => does_13_full a n j hj2 (by omega) hi h)
  | 14, _, _, _ =>
    by_cases hf : zs.length < 2
    · exact does_14_few _ n j hf h
    · obtain ⟨ys, b, c, rfl⟩ := split2 hf
      exact does_14 a n j hj2 hi h
  | 15, _, _, _ =>
    by_cases hf : zs.length < 1
    · exact does_15_few _ n j hf h
    · obtain ⟨ys, z, rfl⟩ := split1 hf
      exact does_15 a n j hj2 hi h
  | 16, _, _, hx =>
    have h2 : decide (a = 0 ∨ a = 1) = true := hx
    simp only [decide_eq_true_eq] at h2
    rcases h2 with rfl | rfl
    · exact hor.elim (fun hl => does_16_0 n j hj2 hl hi h) (fun hl => does_16_0_full n j hj2 hl hi h)
    · exact hor.elim (fun hl => does_16_1 n j hj2 hl hi h) (fun hl => does_16_1_full n j hj2 hl hi h)
  | 17, _, _, _ => exact hor.elim (fun hl => does_17 a n j hj2 hl hi h) (fun hl => does_17_full a n j hj2 hl hi h)
  | 18, _, _, hx =>
    have h2 : decide (0 ≤ a ∧ a ≤ (n : Int)) = true := hx
    simp only [decide_eq_true_eq] at h2
    exact does_18 a n j hj2 h2.1 hi h
  | 19, _, _, hx =>
    have h2 : decide (0 ≤ a ∧ a ≤ (n : Int)) = true := hx
    simp only [decide_eq_true_eq] at h2
    by_cases hf : zs.length < 1
    · exact does_19_few _ n j hf h
    · obtain ⟨ys, z, rfl⟩ := split1 hf
      by_cases hz : z = 0
      · subst hz
        exact does_19 a n j hj2 h2.1 hi h
      · exact does_19_no a n j hj2 hz hi h
  | 20, _, _, _ => exact does_20 a n j hj2 hi h
  | 21, _, _, _ => exact hor.elim (fun hl => does_21 a n j hj2 hl hi h) (fun hl => does_21_full a n j hj2 hl hi h)
  | 22, _, _, _ => exact does_22 a n j hj2 hi h
  | 0, h, _, _ => exact absurd h (by omega)
  | k + 23, _, h, _ => exact absurd h (by omega)
end Go.Proofs.Ytlknolbfhfcflaa
