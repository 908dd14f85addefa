/-
  The state of nothing is a row of a state's cells.
-/
import Derived.Test.YtkchdkcdkeajkaaVmSt
namespace Go.Proofs.Ytkchdkcdkeajkaa
open Go.RowKit
theorem noS_wf : noS.Wf := ⟨rfl, by intro x hx; simp only [noS, zeros, List.mem_cons, List.not_mem_nil, or_false, or_self] at hx; subst hx; exact zero_in, by decide⟩
end Go.Proofs.Ytkchdkcdkeajkaa
