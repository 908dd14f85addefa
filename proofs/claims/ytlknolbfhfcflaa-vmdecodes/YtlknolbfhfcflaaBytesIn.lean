/-
  A slice of bytes as an argument.
-/
import Derived.Test.YtlknolbfhfcflaaRowKit
import Derived.Test.YtlknolbfhfcflaaOcSum
import Derived.ChangeOld
namespace Go.Proofs.Ytlknolbfhfcflaa
open Go.ChangeShapes Go.WideShapes Go.ChangeAt Go.RowKit Oc
theorem wf_u8 {z : Int} (h : (Lit.int .u8 z).wf = true) : 0 ≤ z ∧ z < 256 := by
  have := bounds_u8 h
  omega

set_option maxRecDepth 100000 in
theorem own_lt {W : World} {base : Nat} {a : Option Addr} {len cap : Nat} (h : Value.okWide Try.prog W .any base 44 (.slice a len cap)) : ∀ k, (Value.slice a len cap).ownBlock = some k → k < W.heap.size := by
  simp only [Value.okWide, Try.underlying44, Cell.okWide] at h
  intro k hk
  cases a with
  | none => simp [Value.ownBlock] at hk
  | some x =>
    have hk' : x.block = k := by simpa [Value.ownBlock] using hk
    subst hk'
    simp only [Cell.ok, Try.underlying44] at h
    obtain ⟨_, _, _, _, row, cells, hs, _⟩ := h
    unfold World.shape? at hs
    cases hq : W.heap[x.block]? with
    | none => rw [hq] at hs; simp at hs
    | some o => exact (Array.getElem?_eq_some_iff.1 hq).1
theorem bs_in {H : Type} {enc : TypeId × Value → H} {W : World} {a : Option Addr} {len cap : Nat} {d : DataW H} {p : List MemPlace} (h : DataW.Trod enc Try.prog W 0 (fun _ => true) true 44 (.slice a len cap) d p) :
    ∃ zs, Bs W (.slice a len cap) zs ∧ Byt zs := by
  obtain ⟨fuel, hf⟩ := h
  rcases open_ints Try.underlying44 Try.underlying5 (by kernel_rfl) hf with ⟨hcs, _⟩ | ⟨x, l, c, zs, hcs, _, hl, hm, hz, _, hcell, hwz⟩
  · simp [Value.cells] at hcs
    obtain ⟨rfl, rfl, rfl⟩ := hcs
    exact ⟨[], Or.inl ⟨rfl, none, 0, rfl, by simp [maxLen], fun _ => rfl⟩, fun z hz => by cases hz⟩
  · simp [Value.cells] at hcs
    obtain ⟨rfl, rfl, rfl⟩ := hcs
    have hz' : zs.length = cap := by simpa using hz
    have htl : (zs.take len).length = len := by simp; omega
    refine ⟨zs.take len, ?_, fun z hz2 => wf_u8 (hwz z (List.mem_of_mem_take hz2))⟩
    by_cases h0 : len = 0
    · subst h0
      exact Or.inl ⟨by simp, _, cap, rfl, hm, fun e => by cases e⟩
    · obtain ⟨b, off, spot⟩ := x
      have hc := hcell 0 (by omega)
      have hspot : spot = none := by simpa [Addr.add] using World.cell?_spot hc
      subst hspot
      refine Or.inr ⟨fun e => by rw [e] at htl; simp at htl; omega, b, off, cap, by rw [htl], by omega, hm, fun i hi => ?_⟩
      have hci := hcell i (by omega)
      rw [Addr.add_lit] at hci
      rw [hci]
      have : (zs.take len).getD i 0 = zs.getD i 0 := by simp [List.getD, show i < len by omega]
      rw [this]

end Go.Proofs.Ytlknolbfhfcflaa
