/-
  A slice of fields that came in as an argument: opened (Fs).
-/
import Derived.Test.YtamifgaaalclcabDoorFieldIn
import Derived.Test.YtamifgaaalclcabDoorJoinsWalk
namespace Go.Proofs.YtamifgaaalclcabDoor
open Go.ChangeShapes Go.WideShapes Go.ChangeAt Go.RowKit

section
variable {H : Type} {enc : TypeId × Value → H} {W : World}

theorem weightsAll_mem {P : Program} {t : TypeId} {d : DataW H} : ∀ {l : List (DataW H)}, d ∈ l → ∀ x ∈ DataW.weights P t d, x ∈ DataW.weightsAll P t l
  | e :: l, h, x, hx => by
    simp only [DataW.weightsAll, List.mem_append]
    rcases List.mem_cons.1 h with rfl | h
    · exact Or.inl hx
    · exact Or.inr (weightsAll_mem h x hx)

theorem fields_in {fuel : Nat} {c : Value} {d : DataW H} {p : List MemPlace} (h : DataW.trod enc Tryd.prog W 0 (fun _ => true) true fuel 22 [c] = some (d, p)) (hw : ∀ x ∈ DataW.weights Tryd.prog 22 d, x ≤ reachBytes) : ∃ fs, Fs W c fs ∧ NN c := by
  rcases DataW.trod_slice Tryd.underlying22 h with ⟨hc, _⟩ | ⟨a, len, cap, elems, rest, n, _, hc, hx, _, hl, hm, hle, hel, _, _⟩
  · simp at hc
    subst hc
    exact ⟨[], Or.inl ⟨rfl, none, 0, rfl⟩, Or.inl rfl⟩
  · simp at hc
    subst hc
    simp only [Prod.mk.injEq] at hx
    rw [cells30] at hel
    have each : ∀ i, i < len → ∃ f : Fd, f.ok W ∧ ∀ j u, f.cells[j]? = some u → W.cell? ((a.add (i * 35)).add j) = some u := by
      intro i hi
      have h1 := hel i hi
      rw [List.getElem?_eq_getElem (by omega)] at h1
      obtain ⟨cs, hcs, ht⟩ := Option.bind_eq_some_iff.1 h1
      have hwi : ∀ x ∈ DataW.weights Tryd.prog 30 elems[i].1, x ≤ reachBytes := by
        intro x hxx
        refine hw x ?_
        rw [hx.1]
        simp only [DataW.weights, Tryd.underlying22, List.mem_cons, List.mem_append]
        exact Or.inr (Or.inl (weightsAll_mem (List.mem_map.2 ⟨elems[i], List.getElem_mem _, rfl⟩) x hxx))
      obtain ⟨f, rfl, hok⟩ := field_in (d := elems[i].1) (p := elems[i].2) ht hwi
      obtain ⟨_, hlen, hcell⟩ := World.cells?_some hcs
      refine ⟨f, hok, fun j u hu => ?_⟩
      have hj := (List.getElem?_eq_some_iff.1 hu).1
      rw [hcell j (by omega)]
      exact hu
    by_cases h0 : len = 0
    · subst h0
      exact ⟨[], Or.inl ⟨rfl, some a, cap, rfl⟩, Or.inr ⟨a, 0, cap, rfl⟩⟩
    · obtain ⟨f0, _, hf0⟩ := each 0 (by omega)
      have hc0 := hf0 0 _ rfl
      obtain ⟨b, off, spot⟩ := a
      have hspot : spot = none := by simpa [Addr.add] using World.cell?_spot hc0
      subst hspot
      refine ⟨(List.range len).attach.map (fun i => Classical.choose (each i.1 (List.mem_range.1 i.2))), ?_, Or.inr ⟨_, len, cap, rfl⟩⟩
      have hfl : ((List.range len).attach.map (fun i => Classical.choose (each i.1 (List.mem_range.1 i.2)))).length = len := by simp
      refine Or.inr ⟨fun e => by rw [e] at hfl; simp at hfl; omega, b, off, cap, by rw [hfl], by rw [hfl]; exact hl, hm, fun i f hf => ?_⟩
      have hi : i < len := by have := (List.getElem?_eq_some_iff.1 hf).1; omega
      have hfe : f = Classical.choose (each i hi) := by
        rw [List.getElem?_map, List.getElem?_eq_getElem (by simpa using hi)] at hf
        simp at hf
        exact hf.symm
      have hs := Classical.choose_spec (each i hi)
      rw [← hfe] at hs
      refine ⟨fun j u hu => ?_, hs.1⟩
      have := hs.2 j u hu
      rw [Addr.add_lit, Addr.add_lit] at this
      exact this
end
end Go.Proofs.YtamifgaaalclcabDoor
