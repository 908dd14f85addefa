/-
  What FixedTexts' row asks besides: the two errors and a number of the library's (TbT).
-/
import Derived.Test.YtfciaohicbchgaaDoorRowKit
import Derived.Test.YtfciaohicbchgaaDoorWalkT
import Derived.LaidLaws
import Derived.Clock
namespace Go.Proofs.YtfciaohicbchgaaDoor
open Go.ChangeShapes Go.WideShapes Go.ChangeAt Go.RowKit
abbrev laidT : List (String × DataW Unit) := [("math/bits.deBruijn32tab", Rows.laid_math_bits_deBruijn32tab), ("math/bits.deBruijn64tab", Rows.laid_math_bits_deBruijn64tab), ("internal/strconv.uint64pow10", Rows.laid_internal_strconv_uint64pow10), ("strconv.ErrRange", Rows.laid_strconv_ErrRange), ("strconv.ErrSyntax", Rows.laid_strconv_ErrSyntax)]
theorem und54 : ∃ ms, Tryd.prog.underlying 54 = some (.interface ms) := ⟨_, Tryd.underlying54⟩
theorem err_of {W : World} {name : String} {g : Nat} {nm : String} {d : DataW Unit} (hg : Tryd.prog.globalNamed name = some g) (hty : (Tryd.prog.globals[g]?).map (·.type) = some 54) (h : Lib.VarReads Tryd.prog W name (.iface nm d)) : ∃ te pe, W.cell? ⟨g, 0, none⟩ = some (.iface te pe) := by
  obtain ⟨g', t', cs, fuel, p, hg', ht', hvar, hd⟩ := h
  obtain rfl := Option.some.inj (hg.symm.trans hg')
  obtain rfl := Option.some.inj (hty.symm.trans ht')
  obtain ⟨ms, hms⟩ := und54
  obtain ⟨_, u, v, hcs, _, _⟩ := iface_of_trod hms hd
  obtain rfl : cs = #[.iface u v] := by cases cs; simp_all
  have h0 := World.var?_cell hg hvar 0
  exact ⟨u, v, by simpa using h0⟩
theorem begun1 : ((begin Tryd.prog (fun _ _ => 0) default).world.heap[1]?).bind Obj.row? = some (#[.int .i64 0], 3) := by kernel_rfl
theorem build3 : Tryd.prog.buildable 3 = true := by kernel_rfl
theorem cells3 : Tryd.prog.cellTypes Tryd.prog.depth 3 = some [3] := by kernel_rfl
/-- A number that no row lists is some number. -/
theorem int_of_shape {W : World} (h : W.ShapedOpen Tryd.prog) : ∃ m, W.cell? ⟨1, 0, none⟩ = some (.int .i64 m) := by
  obtain ⟨cs, hh, hz, hr⟩ := h.1 1 _ _ (by decide +kernel) begun1
  obtain ⟨ts, hts, _, hall⟩ := hr build3
  rw [cells3] at hts
  cases hts
  have h1 : 0 < cs.size := by rw [hz]; decide
  obtain ⟨u, hu, hok⟩ := hall 0 cs[0] (by simp [h1])
  obtain rfl : u = 3 := by simpa using hu.symm
  have hcell : W.cell? ⟨1, 0, none⟩ = some cs[0] := by simp [World.cell?, hh, h1]
  rw [hcell]
  unfold Cell.ok at hok
  rw [Tryd.underlying3] at hok
  cases hv : cs[0] <;> rw [hv] at hok <;> first | (obtain ⟨rfl, _⟩ := hok; exact ⟨_, rfl⟩) | simp at hok
theorem tbt_in {W : World} (h : laidMetH Tryd.prog laidT W) (hs : W.ShapedOpen Tryd.prog) : TbT W := by
  have hh : laidMet Tryd.prog laidT W := h
  refine ⟨tb_of (Lib.laidMet.reads hh (by simp [laidT])) (Lib.laidMet.reads hh (by simp [laidT])), ?_, ?_, ?_⟩
  · exact err_of (name := "strconv.ErrSyntax") (nm := _) (d := _) (by kernel_rfl) (by kernel_rfl) (Lib.laidMet.reads hh (d := Rows.laid_strconv_ErrSyntax) (by simp [laidT]))
  · exact err_of (name := "strconv.ErrRange") (nm := _) (d := _) (by kernel_rfl) (by kernel_rfl) (Lib.laidMet.reads hh (d := Rows.laid_strconv_ErrRange) (by simp [laidT]))
  · exact int_of_shape hs
end Go.Proofs.YtfciaohicbchgaaDoor
