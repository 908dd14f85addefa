/-
  The document's ReadLine, at every line.
-/
import Derived.Test.YtddmnpfebajnmaaDoorRReadA
import Derived.Test.YtddmnpfebajnmaaDoorRReadB
namespace Go.Proofs.YtddmnpfebajnmaaDoor
open Go.RowKit
theorem rread_any (ln : List UInt8) (hl : ln.length ≤ 1000000) (w : World) :
    Calls Tryd.prog 45 #[.string ⟨ln.toArray⟩] w (RdPost ln w) := by
  obtain ⟨nm, num, hC⟩ := Cu.of ln
  by_cases h : nm.length = ln.length
  · exact rread_full ln nm num hC hl h w
  · exact rread_more ln nm num hC hl (by have := hC.len; omega) w

end Go.Proofs.YtddmnpfebajnmaaDoor
