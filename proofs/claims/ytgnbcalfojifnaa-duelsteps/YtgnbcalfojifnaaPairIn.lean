/-
  A row of pairs as an argument.
-/
import Derived.Test.YtgnbcalfojifnaaArgIn
import Derived.Test.YtgnbcalfojifnaaPairRows
import Derived.Test.YtgnbcalfojifnaaDuelPlain
namespace Go.Proofs.Ytgnbcalfojifnaa
open Go.ChangeShapes Go.WideShapes Go.ChangeAt Go.RowKit
theorem cellsP_split : ∀ (l : List Ii) (j : Nat) (u : Value), (cellsP l)[j]? = some u → ∃ x, l[j / 2]? = some x ∧ ([.int .u16 x.1, .int .u16 x.2] : List Value)[j % 2]? = some u
  | [], j, u, h => by simp [cellsP] at h
  | x :: l, 0, u, h => ⟨x, rfl, h⟩
  | x :: l, 1, u, h => ⟨x, rfl, h⟩
  | x :: l, j + 2, u, h => by
    obtain ⟨y, h1, h2⟩ := cellsP_split l j u h
    exact ⟨y, by rw [show (j + 2) / 2 = j / 2 + 1 by omega]; exact h1, by rw [show (j + 2) % 2 = j % 2 by omega]; exact h2⟩
section
variable {H : Type} {enc : TypeId × Value → H} {W : World}
theorem ps_in {a : Option Addr} {len cap : Nat} {d : DataW H} {p : List MemPlace} {fuel : Nat} (h : DataW.trod enc Try.prog W 0 (fun _ => true) true fuel 26 [.slice a len cap] = some (d, p)) : ∃ l, Ps W (.slice a len cap) l ∧ InP l := by
  rcases DataW.trod_slice Try.underlying26 h with ⟨hc, _⟩ | ⟨a1, len1, cap1, elems, rest, n, _, hc, hx, _, hl, hm, hle, hel, _, _⟩
  · simp at hc
    obtain ⟨rfl, rfl, rfl⟩ := hc
    exact ⟨[], Or.inl ⟨rfl, none, 0, rfl, by unfold maxLen; omega, fun _ => rfl⟩, fun p hp => by cases hp⟩
  · simp at hc
    obtain ⟨rfl, rfl, rfl⟩ := hc
    simp only [Prod.mk.injEq] at hx
    rw [cells31] at hel
    have each : ∀ i, i < len → ∃ s : Ii, ((0 ≤ s.1 ∧ s.1 < 65536) ∧ (0 ≤ s.2 ∧ s.2 < 65536)) ∧ ∀ (j : Nat) (u : Value), ([.int .u16 s.1, .int .u16 s.2] : List Value)[j]? = some u → W.cell? ((a1.add (i * 2)).add j) = some u := by
      intro i hi
      have h1 := hel i hi
      rw [List.getElem?_eq_getElem (by omega)] at h1
      obtain ⟨cs, hcs, ht⟩ := Option.bind_eq_some_iff.1 h1
      obtain ⟨x, y, rfl, hx, hy⟩ := pair_cells (x := (elems[i].1, elems[i].2)) ht
      obtain ⟨_, hlc, hcell⟩ := World.cells?_some hcs
      refine ⟨(x, y), ⟨hx, hy⟩, fun j u hu => ?_⟩
      have hj := (List.getElem?_eq_some_iff.1 hu).1
      rw [hcell j (by omega)]
      exact hu
    by_cases h0 : len = 0
    · subst h0
      exact ⟨[], Or.inl ⟨rfl, some a1, cap, rfl, hm, fun e => by cases e⟩, fun p hp => by cases hp⟩
    · obtain ⟨f0, _, hf0⟩ := each 0 (by omega)
      have hc0 := hf0 0 _ rfl
      obtain ⟨b, off, spot⟩ := a1
      have hspot : spot = none := by simpa [Addr.add] using World.cell?_spot hc0
      subst hspot
      have hfl : ((List.range len).attach.map (fun i => Classical.choose (each i.1 (List.mem_range.1 i.2)))).length = len := by simp
      have hsp : ∀ (i : Nat) (s : Ii), ((List.range len).attach.map (fun i => Classical.choose (each i.1 (List.mem_range.1 i.2))))[i]? = some s → ((0 ≤ s.1 ∧ s.1 < 65536) ∧ (0 ≤ s.2 ∧ s.2 < 65536)) ∧ ∀ (j : Nat) (u : Value), ([.int .u16 s.1, .int .u16 s.2] : List Value)[j]? = some u → W.cell? ⟨b, off + i * 2 + j, none⟩ = some u := by
        intro i r hr
        have hi : i < len := by have := (List.getElem?_eq_some_iff.1 hr).1; omega
        have hre : r = Classical.choose (each i hi) := by
          rw [List.getElem?_map, List.getElem?_eq_getElem (by simpa using hi)] at hr
          simp at hr
          exact hr.symm
        have hs := Classical.choose_spec (each i hi)
        rw [← hre] at hs
        refine ⟨hs.1, ?_⟩
        intro j u hu
        have := hs.2 j u hu
        rw [Addr.add_lit, Addr.add_lit] at this
        exact this
      refine ⟨_, Or.inr ⟨fun e => ?_, b, off, cap, by rw [hfl], by rw [hfl]; exact hl, hm, fun j u hu => ?_⟩, fun p hp => ?_⟩
      · have := congrArg List.length e
        rw [hfl] at this
        exact h0 this
      · obtain ⟨x, hx1, hx2⟩ := cellsP_split _ j u hu
        have := (hsp (j / 2) x hx1).2 (j % 2) u hx2
        rw [show off + j / 2 * 2 + j % 2 = off + j by omega] at this
        exact this
      · obtain ⟨i, hi⟩ := List.getElem?_of_mem hp
        exact (hsp i p hi).1
theorem pairs_in {a : Option Addr} {len cap : Nat} {d : DataW H} {p : List MemPlace} (h : DataW.Trod enc Try.prog W 0 (fun _ => true) true 26 (.slice a len cap) d p) : ∃ ps, Ps W (.slice a len cap) ps ∧ InP ps := by
  obtain ⟨fuel, hf⟩ := h
  exact ps_in (d := d) (p := p) hf
end
end Go.Proofs.Ytgnbcalfojifnaa
