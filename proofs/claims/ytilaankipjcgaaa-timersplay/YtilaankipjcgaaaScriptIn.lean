/-
  A script that came in as an argument: opened (Sts).
-/
import Derived.Test.YtilaankipjcgaaaPlayT
import Derived.Test.YtilaankipjcgaaaRowKit
namespace Go.Proofs.Ytilaankipjcgaaa
open Go.ChangeShapes Go.WideShapes Go.ChangeAt Go.RowKit
variable {H : Type} {enc : TypeId × Value → H} {W : World}
theorem cells3i : Try.prog.cellsOf 3 = 1 := by kernel_rfl
theorem cells30 : Try.prog.cellsOf 30 = 3 := by kernel_rfl
theorem bytes30 : Try.prog.bytesOf 30 = 24 := by kernel_rfl
def Sp.cells (s : Sp) : List Value := [.int .i64 s.k, .int .i64 s.i, .int .i64 s.a]
theorem step_in {fuel : Nat} {cs : List Value} {d : DataW H} {p : List MemPlace} (h : DataW.trod enc Try.prog W 0 (fun _ => true) true fuel 30 cs = some (d, p)) : ∃ s : Sp, cs = s.cells ∧ In64 s.i ∧ In64 s.a := by
  obtain ⟨xs, n, _, hx, hcl, hxl, hel⟩ := DataW.trod_struct Try.underlying30 h
  rw [cells30] at hcl
  have h0 : DataW.trod enc Try.prog W 0 (fun _ => true) true n 3 ((cs.drop 0).take (Try.prog.cellsOf 3)) = xs[0]? := hel 0 _ rfl
  have h1 : DataW.trod enc Try.prog W 0 (fun _ => true) true n 3 ((cs.drop 1).take (Try.prog.cellsOf 3)) = xs[1]? := hel 1 _ rfl
  have h2 : DataW.trod enc Try.prog W 0 (fun _ => true) true n 3 ((cs.drop 2).take (Try.prog.cellsOf 3)) = xs[2]? := hel 2 _ rfl
  rw [cells3i] at h0 h1 h2
  have hxl3 : xs.length = 3 := hxl
  clear hel hxl
  obtain ⟨x0, x1, x2, rfl⟩ : ∃ x0 x1 x2, xs = [x0, x1, x2] := by
    match xs, hxl3 with
    | [x0, x1, x2], _ => exact ⟨x0, x1, x2, rfl⟩
  obtain ⟨c0, c1, c2, rfl⟩ : ∃ c0 c1 c2, cs = [c0, c1, c2] := by
    match cs, hcl with
    | [c0, c1, c2], _ => exact ⟨c0, c1, c2, rfl⟩
  have h0' : DataW.trod enc Try.prog W 0 (fun _ => true) true n 3 [c0] = some x0 := h0
  have h1' : DataW.trod enc Try.prog W 0 (fun _ => true) true n 3 [c1] = some x1 := h1
  have h2' : DataW.trod enc Try.prog W 0 (fun _ => true) true n 3 [c2] = some x2 := h2
  obtain ⟨k, e0, _, wk⟩ := DataW.trod_int Try.underlying3 h0'
  obtain ⟨i, e1, _, wi⟩ := DataW.trod_int Try.underlying3 h1'
  obtain ⟨a, e2, _, wa⟩ := DataW.trod_int Try.underlying3 h2'
  simp only [List.cons.injEq, and_true] at e0 e1 e2
  subst e0
  subst e1
  subst e2
  exact ⟨⟨k, i, a⟩, rfl, wf_in64 wi, wf_in64 wa⟩
theorem script_in {a : Option Addr} {len cap : Nat} {d : DataW H} {p : List MemPlace} (h0 : DataW.Trod enc Try.prog W 0 (fun _ => true) true 22 (.slice a len cap) d p) (hw : ∀ x ∈ DataW.weights Try.prog 22 d, x ≤ reachBytes) : ∃ ss, Sts W (.slice a len cap) ss := by
  obtain ⟨fuel, h⟩ := h0
  rcases DataW.trod_slice Try.underlying22 h with ⟨hc, _⟩ | ⟨a1, len1, cap1, elems, rest, n, _, hc, hx, _, hl, hm, hle, hel, _, _⟩
  · simp [Value.cells] at hc
    obtain ⟨rfl, rfl, rfl⟩ := hc
    exact ⟨[], none, 0, rfl, by simp, fun s hs => (by cases hs), fun e => absurd rfl e⟩
  · simp [Value.cells] at hc
    obtain ⟨rfl, rfl, rfl⟩ := hc
    simp only [Prod.mk.injEq] at hx
    rw [cells30] at hel
    have hlen : len ≤ 140737488355328 := by
      have := hw (((elems.map (·.1)).length + (rest.map (·.1)).length) * Try.prog.bytesOf 30) (by
        rw [hx.1]
        simp [DataW.weights, Try.underlying22])
      rw [bytes30] at this
      simp only [reachBytes] at this
      simp at this
      omega
    have each : ∀ i, i < len → ∃ s : Sp, (In64 s.i ∧ In64 s.a) ∧ ∀ (j : Nat) (u : Value), s.cells[j]? = some u → W.cell? ((a1.add (i * 3)).add j) = some u := by
      intro i hi
      have h1 := hel i hi
      rw [List.getElem?_eq_getElem (by omega)] at h1
      obtain ⟨cs, hcs, ht⟩ := Option.bind_eq_some_iff.1 h1
      obtain ⟨s, rfl, hok⟩ := step_in (d := elems[i].1) (p := elems[i].2) ht
      obtain ⟨_, hlc, hcell⟩ := World.cells?_some hcs
      refine ⟨s, hok, fun j u hu => ?_⟩
      have hj := (List.getElem?_eq_some_iff.1 hu).1
      rw [hcell j (by omega)]
      exact hu
    by_cases h0 : len = 0
    · subst h0
      exact ⟨[], some a1, cap, rfl, by simp, fun s hs => (by cases hs), fun e => absurd rfl e⟩
    · obtain ⟨f0, _, hf0⟩ := each 0 (by omega)
      have hc0 := hf0 0 _ rfl
      obtain ⟨b, off, spot⟩ := a1
      have hspot : spot = none := by simpa [Addr.add] using World.cell?_spot hc0
      subst hspot
      have hfl : ((List.range len).attach.map (fun i => Classical.choose (each i.1 (List.mem_range.1 i.2)))).length = len := by simp
      have hsp : ∀ (i : Nat) (s : Sp), ((List.range len).attach.map (fun i => Classical.choose (each i.1 (List.mem_range.1 i.2))))[i]? = some s → (In64 s.i ∧ In64 s.a) ∧ ∀ (j : Nat) (u : Value), s.cells[j]? = some u → W.cell? ⟨b, off + i * 3 + j, none⟩ = some u := by
        intro i r hr
        have hi : i < len := by have := (List.getElem?_eq_some_iff.1 hr).1; omega
        have hre : r = Classical.choose (each i hi) := by
          rw [List.getElem?_map, List.getElem?_eq_getElem (by simpa using hi)] at hr
          simp at hr
          exact hr.symm
        have hs := Classical.choose_spec (each i hi)
        rw [← hre] at hs
        refine ⟨hs.1, fun j u hu => ?_⟩
        have := hs.2 j u hu
        rw [Addr.add_lit, Addr.add_lit] at this
        exact this
      refine ⟨_, some ⟨b, off, none⟩, cap, by rw [hfl], by rw [hfl]; exact hlen, fun r hr => ?_, fun _ => ⟨b, off, rfl, fun i r hr => ?_⟩⟩
      · obtain ⟨i, hi⟩ := List.getElem?_of_mem hr
        exact (hsp i r hi).1
      · have := (hsp i r hr).2
        exact ⟨this 0 _ rfl, this 1 _ rfl, this 2 _ rfl⟩
end Go.Proofs.Ytilaankipjcgaaa
