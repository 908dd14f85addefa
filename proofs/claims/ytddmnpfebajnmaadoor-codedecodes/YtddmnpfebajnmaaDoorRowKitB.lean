/-
  A slice of bytes that came in lies in a block that is there.
-/
import Derived.Test.YtddmnpfebajnmaaDoorRowKit
namespace Go.Proofs.YtddmnpfebajnmaaDoor
open Go.ChangeShapes Go.WideShapes Go.ChangeAt Go.RowKit
set_option maxRecDepth 100000 in
theorem own_lt {W : World} {base : Nat} {a : Option Addr} {len cap : Nat} (h : Value.okWide Tryd.prog W .any base 28 (.slice a len cap)) : ∀ k, (Value.slice a len cap).ownBlock = some k → k < W.heap.size := by
  simp only [Value.okWide, Tryd.underlying28, Cell.okWide] at h
  intro k hk
  cases a with
  | none => simp [Value.ownBlock] at hk
  | some x =>
    have hk' : x.block = k := by simpa [Value.ownBlock] using hk
    subst hk'
    simp only [Cell.ok, Tryd.underlying28] at h
    obtain ⟨_, _, _, _, row, cells, hs, _⟩ := h
    unfold World.shape? at hs
    cases hq : W.heap[x.block]? with
    | none => rw [hq] at hs; simp at hs
    | some o => exact (Array.getElem?_eq_some_iff.1 hq).1
end Go.Proofs.YtddmnpfebajnmaaDoor
