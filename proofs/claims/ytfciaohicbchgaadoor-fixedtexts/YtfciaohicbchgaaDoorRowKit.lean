/-
  What every row of this seat shares: the listed tables as cells (Tb), a world for the witness.
-/
import Derived.Test.YtfciaohicbchgaaDoorCards
import Derived.Test.YtfciaohicbchgaaDoorTie
import Derived.Test.YtfciaohicbchgaaDoorKnown
import Derived.WalkKit
import Derived.ProofKit
import Derived.OpenShut
import Derived.ChangeOld
import Derived.Deep.DeepHandedRow
import Derived.Lib.LaidTab
import Derived.Lib.LaidU8
import Derived.Lay
import Derived.LaidMore
namespace Go.Proofs.YtfciaohicbchgaaDoor
open Go.ChangeShapes Go.WideShapes Go.ChangeAt Go.RowKit

theorem own : ownKnob Tryd.prog.godebug = none := by kernel_rfl
theorem laidOut : laidOutB Tryd.prog = true := by kernel_rfl
/-- What the rows list. -/
abbrev laidL : List (String × DataW Unit) := [("math/bits.deBruijn32tab", Rows.laid_math_bits_deBruijn32tab), ("math/bits.deBruijn64tab", Rows.laid_math_bits_deBruijn64tab), ("internal/strconv.uint64pow10", Rows.laid_internal_strconv_uint64pow10)]
theorem tabIs_of_reads {W : World} {name : String} {k : IntKind} {zs : List Int} {g : Nat} {t e : TypeId} {n : Nat}
    (hg : Tryd.prog.globalNamed name = some g) (hty : (Tryd.prog.globals[g]?).map (·.type) = some t) (ht : Tryd.prog.underlying t = some (.array n e)) (he : Tryd.prog.underlying e = some (.int k)) (hce : Tryd.prog.cellsOf e = 1) (hct : Tryd.prog.cellsOf t = n)
    (h : Lib.VarReads Tryd.prog W name (Lib.tabData k zs)) : Lib.TabIs Tryd.prog W name k zs := by
  obtain ⟨g', t', cs, fuel, p, hg', ht', hvar, hd⟩ := h
  obtain rfl := Option.some.inj (hg.symm.trans hg')
  obtain rfl := Option.some.inj (hty.symm.trans ht')
  unfold Lib.TabIs
  rw [hvar, ← Lib.cells_of_tab ht he hce hct hd]
def powI : List Int := [1, 10, 100, 1000, 10000, 100000, 1000000, 10000000, 100000000, 1000000000, 10000000000, 100000000000, 1000000000000, 10000000000000, 100000000000000, 1000000000000000, 10000000000000000, 100000000000000000, 1000000000000000000, 10000000000000000000]
theorem powI_eq : powI = Lib.pow10Tab := by decide
theorem und66 : Tryd.prog.underlying 66 = some (.array 20 42) := by kernel_rfl
theorem und42 : Tryd.prog.underlying 42 = some (.int .u64) := by kernel_rfl
theorem und86 : Tryd.prog.underlying 86 = some (.array 64 5) := by kernel_rfl
/-- What the lists give. -/
theorem tb_of {W : World} (h2 : Lib.VarReads Tryd.prog W "internal/strconv.uint64pow10" Rows.laid_internal_strconv_uint64pow10) (h1 : Lib.VarReads Tryd.prog W "math/bits.deBruijn64tab" Rows.laid_math_bits_deBruijn64tab) : Tb W := by
  have t2 : Lib.TabIs Tryd.prog W "internal/strconv.uint64pow10" .u64 powI :=
    tabIs_of_reads (g := 0) (by kernel_rfl) (by kernel_rfl) und66 und42 (by kernel_rfl) (by kernel_rfl) h2
  have t1 : Lib.TabIs Tryd.prog W "math/bits.deBruijn64tab" .u8 deB :=
    tabIs_of_reads (g := 5) (by kernel_rfl) (by kernel_rfl) und86 Tryd.underlying5 (by kernel_rfl) (by kernel_rfl) h1
  refine ⟨t1, ?_, ?_⟩
  · unfold Pw
    rw [← powI_eq]
    exact t2
  · have := World.block_lt_of_cell? W _ (t1.cell (g := 5) (by kernel_rfl) 0 (by decide))
    exact this
theorem tb_in {W : World} (h : laidMetH Tryd.prog laidL W) (_ : W.ShapedOpen Tryd.prog) : Tb W := by
  have hh : laidMet Tryd.prog laidL W := h
  exact tb_of (Lib.laidMet.reads hh (by simp [laidL])) (Lib.laidMet.reads hh (by simp [laidL]))
end Go.Proofs.YtfciaohicbchgaaDoor
