/-
  What players do, as an argument that came in: opened into two numbers.
-/
import Derived.Test.YtlknolbfhfcflabRowKit
namespace Go.Proofs.Ytlknolbfhfcflab
open Go.ChangeShapes Go.WideShapes Go.ChangeAt Go.RowKit
theorem cells38 : Try.prog.cellsOf 38 = 2 := by kernel_rfl
theorem cells36 : Try.prog.cellsOf 36 = 1 := by kernel_rfl
theorem wf_u16 {z : Int} (h : (Lit.int .u16 z).wf = true) : 0 ≤ z ∧ z < 65536 := by
  simp [Lit.wf, IntKind.min, IntKind.max, IntKind.signed, IntKind.bits] at h
  exact ⟨by omega, by omega⟩
section
variable {H : Type} {enc : TypeId × Value → H} {W : World}
theorem pair_cells {fuel : Nat} {cs : List Value} {x : DataW H × List MemPlace} (hf : DataW.trod enc Try.prog W 0 (fun _ => true) true fuel 38 cs = some x) : ∃ a b, cs = [.int .u16 a, .int .u16 b] ∧ (0 ≤ a ∧ a < 65536) ∧ (0 ≤ b ∧ b < 65536) := by
  obtain ⟨xs, m, _, _, hcl, hn, hel⟩ := DataW.trod_array Try.underlying38 hf
  rw [cells38] at hcl
  obtain ⟨c0, c1, rfl⟩ : ∃ c0 c1, cs = [c0, c1] := by
    match cs, hcl with
    | [c0, c1], _ => exact ⟨c0, c1, rfl⟩
  have h0 := hel 0 (by omega)
  have h1 := hel 1 (by omega)
  rw [cells36] at h0 h1
  have h0' : DataW.trod enc Try.prog W 0 (fun _ => true) true m 36 [c0] = xs[0]? := h0
  have h1' : DataW.trod enc Try.prog W 0 (fun _ => true) true m 36 [c1] = xs[1]? := h1
  rw [List.getElem?_eq_getElem (by omega)] at h0' h1'
  obtain ⟨a, e0, _, wa⟩ := DataW.trod_int Try.underlying36 h0'
  obtain ⟨b, e1, _, wb⟩ := DataW.trod_int Try.underlying36 h1'
  simp only [List.cons.injEq, and_true] at e0 e1
  subst e0
  subst e1
  exact ⟨a, b, rfl, wf_u16 wa, wf_u16 wb⟩
theorem pair_in {v : Value} {d : DataW H} {p : List MemPlace} (h : DataW.Trod enc Try.prog W 0 (fun _ => true) true 38 v d p) : ∃ a b, v = .agg #[.int .u16 a, .int .u16 b] ∧ (0 ≤ a ∧ a < 65536) ∧ (0 ≤ b ∧ b < 65536) := by
  obtain ⟨fuel, hf⟩ := h
  obtain ⟨a, b, hc, ha, hb⟩ := pair_cells hf
  refine ⟨a, b, ?_, ha, hb⟩
  cases v with
  | agg xs =>
    have hc' : xs.toList = [.int .u16 a, .int .u16 b] := by simpa [Value.cells] using hc
    obtain ⟨l⟩ := xs
    simp only at hc'
    rw [hc']
  | _ => simp [Value.cells] at hc
end
end Go.Proofs.Ytlknolbfhfcflab
