/-
  InputsAnyOrder: one is told, the rest is laid anew.
-/
import Derived.Test.YtkjoadncbfhjfaaOrderR
namespace Go.Proofs.Ytkjoadncbfhjfaa
open Go.RowKit
theorem retell {W9 wc : World} {B g cv : Nat} {A C : List To} {t : To} (h : Rt wc B (.slice (some ⟨g, 0, none⟩) (A ++ t :: C).length cv) (A ++ t :: C)) (hk : W9.heap[g]? = wc.heap[g]?) (hB : B ≤ W9.heap.size) (hl : (A ++ t :: C).length ≤ 1000) (o2 : Nat) (ho2 : o2 = (A.length + 1) * 3 ∨ C = []) :
    ∃ v1 w1 v2 w2, (∀ ty, (Builtin.append_ #[22, 22] ty #[.slice (some ⟨W9.heap.size, 0, none⟩) 0 0, .slice (some ⟨g, 0, none⟩) A.length cv]).run Try.prog (W9.alloc (.cells #[] 33)).drew = .ok v1 w1) ∧
      (∀ ty, (Builtin.append_ #[22, 22] ty #[v1, .slice (some ⟨g, o2, none⟩) C.length (cv - (A.length + 1))]).run Try.prog w1 = .ok v2 w2) ∧ Rt w2 B v2 (A ++ C) ∧ Below B W9 w2 := by
  obtain ⟨g', cap', hv, hg1, hg2, _, _, hcell⟩ := h.spot (by simp)
  simp only [Value.slice.injEq, Option.some.injEq, Addr.mk.injEq, and_true, true_and] at hv
  obtain ⟨rfl, rfl⟩ := hv
  have hgl : g < W9.heap.size := by
    rcases Nat.lt_or_ge g W9.heap.size with h1 | h1
    · exact h1
    · rw [Array.getElem?_eq_none h1] at hk
      rw [Array.getElem?_eq_getElem hg2] at hk
      cases hk
  have hc9 : ∀ j u, ((A ++ t :: C).flatMap To.cells)[j]? = some u → W9.cell? ⟨g, j, none⟩ = some u := fun j u hu => (World.cell?_of_block (a := ⟨g, j, none⟩) hk).trans (hcell j u hu)
  have hlA : (A.flatMap To.cells).length = A.length * 3 := fm_len kdT.len A
  simp only [List.length_append, List.length_cons] at hl
  have e : (A ++ t :: C).flatMap To.cells = A.flatMap To.cells ++ (t.cells ++ C.flatMap To.cells) := by simp
  rw [e] at hc9
  have hcA : ∀ j u, (A.flatMap To.cells)[j]? = some u → W9.cell? ⟨g, j, none⟩ = some u := fun j u hu => hc9 j u (by rw [List.getElem?_append_left (List.getElem?_eq_some_iff.1 hu).1]; exact hu)
  have hcC : ∀ j u, (C.flatMap To.cells)[j]? = some u → W9.cell? ⟨g, (A.length + 1) * 3 + j, none⟩ = some u := fun j u hu => hc9 _ u (by
    rw [List.getElem?_append_right (by omega), List.getElem?_append_right (by rw [kdT.len]; omega), hlA, kdT.len, show (A.length + 1) * 3 + j - A.length * 3 - 3 = j by omega]; exact hu)
  have hr0 : Rt (W9.alloc (.cells #[] 33)).drew B (.slice (some ⟨W9.heap.size, 0, none⟩) 0 0) [] := ⟨rfl, .inr ⟨W9.heap.size, 0, #[], rfl, hB, heap_alloc_new W9 _, Nat.le_refl _, by unfold maxLen; omega, rfl, by simp⟩⟩
  have sz0 : (W9.alloc (.cells #[] 33)).drew.heap.size = W9.heap.size + 1 := World.size_alloc _ _
  have b0 : Below B W9 (W9.alloc (.cells #[] 33)).drew := ((Below.refl _ _).alloc hB _).drew
  have c0 : ∀ a, a.block = g → (W9.alloc (.cells #[] 33)).drew.cell? a = W9.cell? a := fun a ha => World.cell?_of_block (by rw [ha]; exact Below.heap_alloc _ _ _ hgl)
  obtain ⟨v1, w1, r1, o1, g1, _⟩ := hr0.app kdT ⟨g, 0, none⟩ cv A (fun j u hu => by rw [Addr.add_lit, Nat.zero_add, c0 _ rfl]; exact hcA j u hu) (by simp; omega) (by rw [sz0]; omega)
  rw [List.nil_append] at o1
  have b1 : Below B W9 w1 := grown_below g1 b0 (by rw [sz0]; omega) fun k hk => by
    have : W9.heap.size = k := by simpa [Value.ownBlock] using hk
    omega
  have c1 : ∀ a, a.block = g → w1.cell? a = W9.cell? a := fun a ha => by
    rw [← c0 a ha]
    refine World.cell?_of_block (g1.block _ (by rw [ha, sz0]; omega) ?_)
    rw [ha]
    intro e2
    have : g = W9.heap.size := by simpa [Value.ownBlock] using e2
    omega
  have hB1 : B ≤ w1.heap.size := Nat.le_trans hB b1.size
  obtain ⟨v2, w2, r2, o2', g2, _⟩ := o1.app kdT ⟨g, o2, none⟩ (cv - (A.length + 1)) C (fun j u hu => by
    rcases ho2 with rfl | rfl
    · rw [Addr.add_lit, c1 _ rfl]; exact hcC j u hu
    · simp at hu) (by omega) hB1
  exact ⟨v1, w1, v2, w2, r1, r2, o2', grown_below g2 b1 hB1 fun k hk => (o1.lt k hk).1⟩
end Go.Proofs.Ytkjoadncbfhjfaa
