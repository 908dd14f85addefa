/-
  How many instructions may come in.
-/
import Derived.Test.YtddmnpfebajnmaaDoorRowKit
namespace Go.Proofs.YtddmnpfebajnmaaDoor
open Go.ChangeShapes Go.WideShapes Go.ChangeAt Go.RowKit
variable {H : Type} {enc : TypeId × Value → H} {W : World}
theorem bytes60 : Tryd.prog.bytesOf 60 = 16 := by kernel_rfl
theorem ls_reach {a : Option Addr} {len cap : Nat} {d : DataW H} {p : List MemPlace} {l : List Ii} (hl : Ls W (.slice a len cap) l) (h0 : DataW.Trod enc Tryd.prog W 0 (fun _ => true) true 22 (.slice a len cap) d p) (hw : ∀ x ∈ DataW.weights Tryd.prog 22 d, x ≤ reachBytes) : l.length ≤ 140737488355328 := by
  have e : l.length = len := by obtain ⟨_, _, hv, _⟩ := hl.len; simp only [Value.slice.injEq] at hv; exact hv.2.1.symm
  rw [e]
  obtain ⟨fuel, h⟩ := h0
  rcases DataW.trod_slice Tryd.underlying22 h with ⟨hc, _⟩ | ⟨a1, len1, cap1, elems, rest, n, _, hc, hx, _, hl, hm, hle, hel, _, _⟩
  · simp [Value.cells] at hc
    obtain ⟨rfl, rfl, rfl⟩ := hc
    omega
  · simp [Value.cells] at hc
    obtain ⟨rfl, rfl, rfl⟩ := hc
    simp only [Prod.mk.injEq] at hx
    have := hw (((elems.map (·.1)).length + (rest.map (·.1)).length) * Tryd.prog.bytesOf 60) (by
      rw [hx.1]
      simp [DataW.weights, Tryd.underlying22])
    rw [bytes60] at this
    simp only [reachBytes] at this
    simp at this
    omega
end Go.Proofs.YtddmnpfebajnmaaDoor
