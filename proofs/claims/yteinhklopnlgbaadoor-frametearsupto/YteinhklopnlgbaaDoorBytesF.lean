/-
  The document's bytes of a field (the law's bytes), by contract.
-/
import Derived.Test.YteinhklopnlgbaaDoorSpoil
namespace Go.Proofs.YteinhklopnlgbaaDoor
open Go.RowKit

theorem refFour_any (x : Int) (w : World) : Calls Tryd.prog 26 #[.int .u32 x] w fun e w' => ∃ ao cap, e = .returned (.slice ao (fourB x).length cap) ∧ Ow w' w.heap.size (.slice ao (fourB x).length cap) (fourB x) ∧ Below w.heap.size w w' := by
  have ho : Ow (w.alloc (.cells #[.int .u8 (x % 256), .int .u8 (x / 256 % 256), .int .u8 (x / 65536 % 256), .int .u8 (x / 16777216 % 256)] 5)) w.heap.size (.slice (some ⟨w.heap.size, 0, none⟩) 4 4) (fourB x) := Ow_of_block (zs := fourB x) (heap_alloc_new w _) (by simp [fourB, maxLen]) (Nat.le_refl _)
  go_enter Tryd.func26, Tryd.ntmps26
  go_wp2
  go_ret
  exact ⟨_, _, rfl, ho, (Below.refl _ _).alloc (Nat.le_refl _) _⟩

end Go.Proofs.YteinhklopnlgbaaDoor
