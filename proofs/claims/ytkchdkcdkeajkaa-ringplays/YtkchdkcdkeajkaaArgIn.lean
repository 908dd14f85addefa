/-
  Arguments that came in, opened: a state, a row of states.
-/
import Derived.Test.YtkchdkcdkeajkaaRowKit
import Derived.Test.YtkchdkcdkeajkaaRgRows
namespace Go.Proofs.Ytkchdkcdkeajkaa
open Go.ChangeShapes Go.WideShapes Go.ChangeAt Go.RowKit
theorem cells3 : Try.prog.cellsOf 3 = 1 := by kernel_rfl
theorem cells4 : Try.prog.cellsOf 4 = 1 := by kernel_rfl
theorem cells21 : Try.prog.cellsOf 21 = 1 := by kernel_rfl
theorem cells25 : Try.prog.cellsOf 32 = 16 := by kernel_rfl
theorem cells26 : Try.prog.cellsOf 33 = 1 := by kernel_rfl
theorem cells28 : Try.prog.cellsOf 35 = 20 := by kernel_rfl
theorem len20 {cs : List Value} (h : cs.length = 20) : cs = (cs.drop 0).take 1 ++ ((cs.drop 1).take 16 ++ ((cs.drop 17).take 1 ++ ((cs.drop 18).take 1 ++ (cs.drop 19).take 1))) := by
  match cs, h with
  | [c0, c1, c2, c3, c4, c5, c6, c7, c8, c9, c10, c11, c12, c13, c14, c15, c16, c17, c18, c19], _ => rfl
section
variable {H : Type} {enc : TypeId × Value → H} {W : World}
theorem arr_in {fuel : Nat} {cs : List Value} {x : DataW H × List MemPlace} (hf : DataW.trod enc Try.prog W 0 (fun _ => true) true fuel 32 cs = some x) : ∃ zs : List Int, cs = zs.map (Value.int .i32) ∧ zs.length = 16 ∧ ∀ z ∈ zs, In32 z := by
  obtain ⟨xs, m, _, _, hcl, hn, hel⟩ := DataW.trod_array Try.underlying32 hf
  rw [cells25] at hcl
  have each : ∀ i, i < 16 → ∃ z, cs[i]? = some (.int .i32 z) ∧ In32 z := by
    intro i hi
    have h := hel i hi
    rw [cells21, Nat.mul_one] at h
    have hcs : (cs.drop i).take 1 = [cs[i]] := by
      rw [List.drop_eq_getElem_cons (by omega)]; rfl
    rw [hcs, List.getElem?_eq_getElem (by omega)] at h
    obtain ⟨z, e1, _, wz⟩ := DataW.trod_int Try.underlying21 h
    simp only [List.cons.injEq, and_true] at e1
    exact ⟨z, by rw [List.getElem?_eq_getElem (by omega), e1], bounds_i32 wz⟩
  refine ⟨cs.map intOf, ?_, by simpa using hcl, ?_⟩
  · apply List.ext_getElem?
    intro i
    by_cases hi : i < 16
    · obtain ⟨z, hz, _⟩ := each i hi
      simp [hz, intOf]
    · rw [List.getElem?_eq_none (by omega), List.getElem?_eq_none (by simp; omega)]
  · intro z hz
    obtain ⟨c, hc, rfl⟩ := List.mem_map.1 hz
    obtain ⟨i, hi, rfl⟩ := List.mem_iff_getElem.1 hc
    obtain ⟨z, hz, hb⟩ := each i (by omega)
    rw [List.getElem?_eq_getElem hi] at hz
    rw [Option.some.inj hz]
    exact hb
theorem state_cells (fuel : Nat) (cs : List Value) (x : DataW H × List MemPlace) (hf : DataW.trod enc Try.prog W 0 (fun _ => true) true fuel 35 cs = some x) : ∃ s : Sp, cs = stV s ∧ Gs s := by
  obtain ⟨xs, n, _, hx, hcl, hxl, hel⟩ := DataW.trod_struct Try.underlying35 (x := x) hf
  rw [cells28] at hcl
  have h0 : DataW.trod enc Try.prog W 0 (fun _ => true) true n 3 ((cs.drop 0).take (Try.prog.cellsOf 3)) = xs[0]? := hel 0 _ rfl
  have h1 : DataW.trod enc Try.prog W 0 (fun _ => true) true n 32 ((cs.drop 1).take (Try.prog.cellsOf 32)) = xs[1]? := hel 1 _ rfl
  have h2 : DataW.trod enc Try.prog W 0 (fun _ => true) true n 33 ((cs.drop 17).take (Try.prog.cellsOf 33)) = xs[2]? := hel 2 _ rfl
  have h3 : DataW.trod enc Try.prog W 0 (fun _ => true) true n 4 ((cs.drop 18).take (Try.prog.cellsOf 4)) = xs[3]? := hel 3 _ rfl
  have h4 : DataW.trod enc Try.prog W 0 (fun _ => true) true n 3 ((cs.drop 19).take (Try.prog.cellsOf 3)) = xs[4]? := hel 4 _ rfl
  rw [cells3] at h0 h4
  rw [cells25] at h1
  rw [cells26] at h2
  rw [cells4] at h3
  have hxl5 : xs.length = 5 := hxl
  rw [List.getElem?_eq_getElem (by omega)] at h0 h1 h2 h3 h4
  obtain ⟨fr, e0, _, wf0⟩ := DataW.trod_int Try.underlying3 h0
  have hfr : -9223372036854775808 ≤ fr ∧ fr ≤ 9223372036854775807 := by
    simp [Lit.wf, IntKind.min, IntKind.max, IntKind.signed, IntKind.bits] at wf0
    exact ⟨by omega, by omega⟩
  obtain ⟨zs, e1, hz, hzi⟩ := arr_in h1
  obtain ⟨sd, e2, _, w2⟩ := DataW.trod_int Try.underlying33 h2
  obtain ⟨ov, e3, _⟩ := DataW.trod_bool Try.underlying4 h3
  obtain ⟨wn, e4, _, _⟩ := DataW.trod_int Try.underlying3 h4
  refine ⟨⟨fr, zs, sd, ov, wn⟩, ?_, ⟨hz, hzi, bounds_u32 w2⟩, hfr⟩
  have s1 := len20 hcl
  rw [s1, e0, e1, e2, e3, e4]
  rfl
theorem state_in {v : Value} {d : DataW H} {p : List MemPlace} (h : DataW.Trod enc Try.prog W 0 (fun _ => true) true 35 v d p) : ∃ s : Sp, v = .agg (stV s).toArray ∧ Gs s := by
  obtain ⟨fuel, hf⟩ := h
  obtain ⟨s, hc, hw⟩ := state_cells _ _ _ hf
  refine ⟨s, ?_, hw⟩
  cases v with
  | agg xs =>
    have hc' : xs.toList = stV s := by simpa [Value.cells] using hc
    obtain ⟨l⟩ := xs
    simp only at hc'
    rw [hc']
  | _ => simp [Value.cells, stV] at hc
/-- A row of states that came in. -/
theorem states_in {a : Option Addr} {len cap : Nat} {d : DataW H} {p : List MemPlace} (h : DataW.Trod enc Try.prog W 0 (fun _ => true) true 22 (.slice a len cap) d p) : ∃ l, Rs W a len cap l ∧ ∀ s ∈ l, Gs s := by
  obtain ⟨fuel, h⟩ := h
  have h' : DataW.trod enc Try.prog W 0 (fun _ => true) true fuel 22 [.slice a len cap] = some (d, p) := h
  rcases DataW.trod_slice Try.underlying22 h' with ⟨hc, _⟩ | ⟨a1, len1, cap1, elems, rest, n, _, hc1, hx, _, hl1, hm, hle, hel, _, _⟩
  · simp at hc
    obtain ⟨rfl, rfl, rfl⟩ := hc
    exact ⟨[], ⟨rfl, Nat.le_refl _, by unfold maxLen; omega, fun i s hs => by simp at hs⟩, fun s hs => by cases hs⟩
  · simp at hc1
    obtain ⟨rfl, rfl, rfl⟩ := hc1
    simp only [Prod.mk.injEq] at hx
    rw [cells28] at hel
    have each : ∀ i, i < len → ∃ s : Sp, Gs s ∧ ∀ (j : Nat) (u : Value), (stV s)[j]? = some u → W.cell? ((a1.add (i * 20)).add j) = some u := by
      intro i hi
      have h1 := hel i hi
      rw [List.getElem?_eq_getElem (by omega)] at h1
      obtain ⟨cs, hcs, ht⟩ := Option.bind_eq_some_iff.1 h1
      obtain ⟨s, rfl, hg⟩ := state_cells _ _ _ ht
      obtain ⟨_, hlc, hcell⟩ := World.cells?_some hcs
      refine ⟨s, hg, fun j u hu => ?_⟩
      have hj := (List.getElem?_eq_some_iff.1 hu).1
      rw [hcell j (by omega)]
      exact hu
    by_cases hz : len = 0
    · subst hz
      exact ⟨[], ⟨rfl, Nat.zero_le _, hm, fun i s hs => by simp at hs⟩, fun s hs => by cases hs⟩
    · obtain ⟨f0, _, hf0⟩ := each 0 (by omega)
      have hc0 := hf0 0 _ rfl
      obtain ⟨b, off, spot⟩ := a1
      have hspot : spot = none := by simpa [Addr.add] using World.cell?_spot hc0
      subst hspot
      have hsp : ∀ (i : Nat) (s : Sp), ((List.range len).attach.map (fun i => Classical.choose (each i.1 (List.mem_range.1 i.2))))[i]? = some s → Gs s ∧ ∀ (j : Nat) (u : Value), (stV s)[j]? = some u → W.cell? ⟨b, off + i * 20 + j, none⟩ = some u := by
        intro i r hr
        have hi : i < len := by have := (List.getElem?_eq_some_iff.1 hr).1; simpa using this
        have hre : r = Classical.choose (each i hi) := by
          rw [List.getElem?_map, List.getElem?_eq_getElem (by simpa using hi)] at hr
          simp at hr
          exact hr.symm
        have hs := Classical.choose_spec (each i hi)
        rw [← hre] at hs
        refine ⟨hs.1, ?_⟩
        intro j u hu
        have := hs.2 j u hu
        rw [Addr.add_lit, Addr.add_lit] at this
        exact this
      refine ⟨_, ⟨by simp, hl1, hm, fun i s hs => ⟨b, off, rfl, (hsp i s hs).2⟩⟩, fun s hs => ?_⟩
      obtain ⟨i, hi⟩ := List.getElem?_of_mem hs
      exact (hsp i s hi).1
end
end Go.Proofs.Ytkchdkcdkeajkaa
