/-
  Rows of any one width as arguments: a slice whose elements are read as words of one kind. No number of the seat is in it but the type's.
-/
import Derived.Test.YtnfmhcljncdkgaaRowKit
namespace Go.Proofs.Ytnfmhcljncdkgaa.Ax
open Go.ChangeShapes Go.WideShapes Go.ChangeAt Go.RowKit
/-- The slice at ao of n elements, of c cells each, reads as the words l. -/
structure Rw {α : Type} (w : World) (c : Nat) (en : α → List Value) (ao : Option Addr) (n cap : Nat) (l : List α) : Prop where
  len : l.length = n
  le : n ≤ cap
  mx : cap ≤ maxLen
  no : ao = none → cap = 0
  at' : ∀ i s, l[i]? = some s → ∃ g off, ao = some ⟨g, off, none⟩ ∧ ∀ j u, (en s)[j]? = some u → w.cell? ⟨g, off + i * c + j, none⟩ = some u
theorem Rw.below {α : Type} {w w' : World} {c : Nat} {en : α → List Value} {ao : Option Addr} {n cap : Nat} {l : List α} {B : Nat} (h : Rw w c en ao n cap l) (hb : Below B w w') (hB : w.heap.size ≤ B) : Rw w' c en ao n cap l := by
  refine ⟨h.len, h.le, h.mx, h.no, fun i s hs => ?_⟩
  obtain ⟨g, off, h1, h2⟩ := h.at' i s hs
  refine ⟨g, off, h1, fun j u hu => ?_⟩
  have h3 := h2 j u hu
  have hlt := World.block_lt_of_cell? w _ h3
  exact (hb.cell (p := ⟨g, off + i * c + j, none⟩) (Nat.lt_of_lt_of_le hlt hB)).trans h3
section
variable {P : Program} {H : Type} {enc : TypeId × Value → H} {W : World} {α : Type}
theorem rw_in {t e c : Nat} {en : α → List Value} {Good : α → Prop} (hu : P.underlying t = some (.slice e)) (hc : P.cellsOf e = c) (hl : ∀ s, (en s).length = c) (h0 : 0 < c)
    (el : ∀ fuel cs x, DataW.trod enc P W 0 (fun _ => true) true fuel e cs = some x → ∃ s, cs = en s ∧ Good s)
    {a : Option Addr} {len cap : Nat} {d : DataW H} {p : List MemPlace} (h : DataW.Trod enc P W 0 (fun _ => true) true t (.slice a len cap) d p) : ∃ l, Rw W c en a len cap l ∧ ∀ s ∈ l, Good s := by
  obtain ⟨fuel, h⟩ := h
  have h' : DataW.trod enc P W 0 (fun _ => true) true fuel t [.slice a len cap] = some (d, p) := h
  rcases DataW.trod_slice hu h' with ⟨hc, _⟩ | ⟨a1, len1, cap1, elems, rest, n, _, hc1, hx, _, hl1, hm, hle, hel, _, _⟩
  · simp at hc
    obtain ⟨rfl, rfl, rfl⟩ := hc
    exact ⟨[], ⟨rfl, Nat.le_refl _, by unfold maxLen; omega, fun _ => rfl, fun i s hs => by simp at hs⟩, fun s hs => by cases hs⟩
  · simp at hc1
    obtain ⟨rfl, rfl, rfl⟩ := hc1
    simp only [Prod.mk.injEq] at hx
    rw [hc] at hel
    have each : ∀ i, i < len → ∃ s : α, Good s ∧ ∀ (j : Nat) (u : Value), (en s)[j]? = some u → W.cell? ((a1.add (i * c)).add j) = some u := by
      intro i hi
      have h1 := hel i hi
      rw [List.getElem?_eq_getElem (by omega)] at h1
      obtain ⟨cs, hcs, ht⟩ := Option.bind_eq_some_iff.1 h1
      obtain ⟨s, rfl, hg⟩ := el _ _ _ ht
      obtain ⟨_, hlc, hcell⟩ := World.cells?_some hcs
      refine ⟨s, hg, fun j u hu => ?_⟩
      have hj := (List.getElem?_eq_some_iff.1 hu).1
      rw [hcell j (by omega)]
      exact hu
    by_cases hz : len = 0
    · subst hz
      exact ⟨[], ⟨rfl, Nat.zero_le _, hm, fun e => (by cases e), fun i s hs => by simp at hs⟩, fun s hs => by cases hs⟩
    · obtain ⟨f0, _, hf0⟩ := each 0 (by omega)
      have hc0 := hf0 0 _ (List.getElem?_eq_getElem (by rw [hl]; exact h0))
      obtain ⟨b, off, spot⟩ := a1
      have hspot : spot = none := by simpa [Addr.add] using World.cell?_spot hc0
      subst hspot
      have hsp : ∀ (i : Nat) (s : α), ((List.range len).attach.map (fun i => Classical.choose (each i.1 (List.mem_range.1 i.2))))[i]? = some s → Good s ∧ ∀ (j : Nat) (u : Value), (en s)[j]? = some u → W.cell? ⟨b, off + i * c + j, none⟩ = some u := by
        intro i r hr
        have hi : i < len := by have := (List.getElem?_eq_some_iff.1 hr).1; simpa using this
        have hre : r = Classical.choose (each i hi) := by
          rw [List.getElem?_map, List.getElem?_eq_getElem (by simpa using hi)] at hr
          simp at hr
          exact hr.symm
        have hs := Classical.choose_spec (each i hi)
        rw [← hre] at hs
        refine ⟨hs.1, ?_⟩
        intro j u hu
        have := hs.2 j u hu
        rw [Addr.add_lit, Addr.add_lit] at this
        exact this
      refine ⟨_, ⟨by simp, hl1, hm, fun e => (by cases e), fun i s hs => ⟨b, off, rfl, (hsp i s hs).2⟩⟩, fun s hs => ?_⟩
      obtain ⟨i, hi⟩ := List.getElem?_of_mem hs
      exact (hsp i s hi).1
end
end Go.Proofs.Ytnfmhcljncdkgaa.Ax
