/-
  Joined from: RowsIn.
-/
import Derived.Test.YtahodgmdikaedaaDoorM09
import Derived.Test.YtahodgmdikaedaaDoorM14
section
/-
  Rows of bytes that came in as an argument: opened.
-/
namespace Go.Proofs.YtahodgmdikaedaaDoor
open Go.ChangeShapes Go.WideShapes Go.ChangeAt Go.RowKit

/-- A slice of bytes that came in is not longer than the reach. -/
theorem len_reach {H : Type} {enc : TypeId × Value → H} {W : World} {a : Option Addr} {len cap : Nat} {d : DataW H} {p : List MemPlace} (h : DataW.Trod enc Tryd.prog W 0 (fun _ => true) true 29 (.slice a len cap) d p) (hw : ∀ x ∈ DataW.weights Tryd.prog 29 d, x ≤ reachBytes) : len ≤ 140737488355328 := by
  obtain ⟨fuel, hf⟩ := h
  rcases open_ints Tryd.underlying29 Tryd.underlying5 (by kernel_rfl) hf with ⟨hcs, _⟩ | ⟨x, l, c, zs, hcs, _, hl, hm, hz, hx, hcell, hwz⟩
  · simp [Value.cells] at hcs
    omega
  · simp [Value.cells] at hcs
    obtain ⟨rfl, rfl, rfl⟩ := hcs
    have hb5 : Tryd.prog.bytesOf 5 = 1 := by kernel_rfl
    have hd : d = .slice (lits .u8 (zs.take len)) (lits .u8 (zs.drop len)) := congrArg Prod.fst hx
    have hmem : ((lits (H := H) .u8 (zs.take len)).length + (lits (H := H) .u8 (zs.drop len)).length) * Tryd.prog.bytesOf 5 ∈ DataW.weights Tryd.prog 29 d := by
      rw [hd]
      simp [DataW.weights, Tryd.underlying29]
    have := hw _ hmem
    rw [hb5] at this
    simp only [reachBytes] at this
    have hzl : zs.length = cap := by simpa using hz
    simp [lits] at this
    omega

theorem size_list (s : ByteArray) : s.data.toList.length = s.size := by cases s; rfl
variable {H : Type} {enc : TypeId × Value → H} {W : World}
theorem weightsAll_mem {P : Program} {t : TypeId} {d : DataW H} : ∀ {l : List (DataW H)}, d ∈ l → ∀ x ∈ DataW.weights P t d, x ∈ DataW.weightsAll P t l
  | e :: l, h, x, hx => by
    simp only [DataW.weightsAll, List.mem_append]
    rcases List.mem_cons.1 h with rfl | h
    · exact Or.inl hx
    · exact Or.inr (weightsAll_mem h x hx)
theorem cells29 : Tryd.prog.cellsOf 29 = 1 := by kernel_rfl
theorem bytes29 : Tryd.prog.bytesOf 29 = 24 := by kernel_rfl
theorem slice_form {fuel : Nat} {c : Value} {x : DataW H × List MemPlace} (h : DataW.trod enc Tryd.prog W 0 (fun _ => true) true fuel 29 [c] = some x) : ∃ a len cap, c = .slice a len cap := by
  rcases DataW.trod_slice Tryd.underlying29 h with ⟨hc, _⟩ | ⟨a, len, cap, elems, rest, n, _, hc, _⟩
  · simp at hc; exact ⟨none, 0, 0, hc⟩
  · simp at hc; exact ⟨_, _, _, hc⟩
theorem rows_in {a : Option Addr} {len cap : Nat} {d : DataW H} {p : List MemPlace} (h0 : DataW.Trod enc Tryd.prog W 0 (fun _ => true) true 33 (.slice a len cap) d p) (hw : ∀ x ∈ DataW.weights Tryd.prog 33 d, x ≤ reachBytes) : ∃ rs, Rs W (.slice a len cap) rs ∧ rs.length = len := by
  obtain ⟨fuel, h⟩ := h0
  rcases DataW.trod_slice Tryd.underlying33 h with ⟨hc, _⟩ | ⟨a1, len1, cap1, elems, rest, n, _, hc, hx, _, hl, hm, hle, hel, _, _⟩
  · simp [Value.cells] at hc
    obtain ⟨rfl, rfl, rfl⟩ := hc
    exact ⟨[], ⟨none, 0, rfl, by simp, fun r hr => (by cases hr), fun e => absurd rfl e⟩, rfl⟩
  · simp [Value.cells] at hc
    obtain ⟨rfl, rfl, rfl⟩ := hc
    simp only [Prod.mk.injEq] at hx
    rw [cells29] at hel
    have hlen : len ≤ 140737488355328 := by
      have := hw (((elems.map (·.1)).length + (rest.map (·.1)).length) * Tryd.prog.bytesOf 29) (by
        rw [hx.1]
        simp [DataW.weights, Tryd.underlying33])
      rw [bytes29] at this
      simp only [reachBytes] at this
      simp at this
      omega
    have each : ∀ i, i < len → ∃ r : Rw2, RwOk W r ∧ W.cell? (a1.add i) = some r.1 := by
      intro i hi
      have h1 := hel i hi
      rw [List.getElem?_eq_getElem (by omega)] at h1
      obtain ⟨cs, hcs, ht⟩ := Option.bind_eq_some_iff.1 h1
      have hwi : ∀ x ∈ DataW.weights Tryd.prog 29 elems[i].1, x ≤ reachBytes := by
        intro x hxx
        refine hw x ?_
        rw [hx.1]
        simp only [DataW.weights, Tryd.underlying33, List.mem_cons, List.mem_append]
        exact Or.inr (Or.inl (weightsAll_mem (List.mem_map.2 ⟨elems[i], List.getElem_mem _, rfl⟩) x hxx))
      obtain ⟨_, hcl, hcell⟩ := World.cells?_some hcs
      match cs, hcl with
      | [c], _ =>
        obtain ⟨a2, len2, cap2, rfl⟩ := slice_form ht
        have ht' : DataW.Trod enc Tryd.prog W 0 (fun _ => true) true 29 (.slice a2 len2 cap2) elems[i].1 elems[i].2 := ⟨_, ht⟩
        obtain ⟨zs, hbs, hby⟩ := bs_in ht'
        have hln := len_reach ht' hwi
        have e0 : zs.length = len2 := by obtain ⟨_, _, hv, _⟩ := hbs.len; simp only [Value.slice.injEq] at hv; exact hv.2.1.symm
        refine ⟨(.slice a2 len2 cap2, zs), ⟨hbs, hby, by rw [e0]; exact hln⟩, ?_⟩
        have := hcell 0 (by simp)
        have e1 : (a1.add i).add 0 = a1.add i := by simp [Addr.add]
        simpa [e1] using this
    by_cases h0 : len = 0
    · subst h0
      exact ⟨[], ⟨some a1, cap, rfl, by simp, fun r hr => (by cases hr), fun e => absurd rfl e⟩, rfl⟩
    · obtain ⟨f0, _, hf0⟩ := each 0 (by omega)
      obtain ⟨b, off, spot⟩ := a1
      have hspot : spot = none := by simpa [Addr.add] using World.cell?_spot hf0
      subst hspot
      have hfl : ((List.range len).attach.map (fun i => Classical.choose (each i.1 (List.mem_range.1 i.2)))).length = len := by simp
      have hsp : ∀ i r, ((List.range len).attach.map (fun i => Classical.choose (each i.1 (List.mem_range.1 i.2))))[i]? = some r → RwOk W r ∧ W.cell? ⟨b, off + i, none⟩ = some r.1 := by
        intro i r hr
        have hi : i < len := by have := (List.getElem?_eq_some_iff.1 hr).1; omega
        have hre : r = Classical.choose (each i hi) := by
          rw [List.getElem?_map, List.getElem?_eq_getElem (by simpa using hi)] at hr
          simp at hr
          exact hr.symm
        have hs := Classical.choose_spec (each i hi)
        rw [← hre, Addr.add_lit] at hs
        exact hs
      refine ⟨_, ⟨some ⟨b, off, none⟩, cap, by rw [hfl], by rw [hfl]; exact hlen, fun r hr => ?_, fun _ => ⟨b, off, rfl, fun i r hr => (hsp i r hr).2⟩⟩, hfl⟩
      obtain ⟨i, hi⟩ := List.getElem?_of_mem hr
      exact (hsp i r hi).1
end Go.Proofs.YtahodgmdikaedaaDoor
end
