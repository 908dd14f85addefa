/-
  A text that came in is no longer than an int counts.
-/
import Derived.Test.YtddmnpfebajnmaaDoorRowKit
namespace Go.Proofs.YtddmnpfebajnmaaDoor
open Go.ChangeShapes Go.WideShapes Go.ChangeAt Go.RowKit
set_option maxRecDepth 100000 in
theorem str_le {W : World} {base : Nat} {s : ByteArray} (h : Value.okWide Tryd.prog W .any base 9 (.string s)) : s.data.toList.length ≤ 9223372036854775807 := by
  simp only [Value.okWide, Tryd.underlying9, Cell.okWide] at h
  simp only [Cell.ok, Tryd.underlying9] at h
  have e : s.data.toList.length = s.size := by rw [Array.length_toList]; rfl
  have e2 : IntKind.i64.max = 9223372036854775807 := by decide
  rw [e2] at h
  omega
end Go.Proofs.YtddmnpfebajnmaaDoor
