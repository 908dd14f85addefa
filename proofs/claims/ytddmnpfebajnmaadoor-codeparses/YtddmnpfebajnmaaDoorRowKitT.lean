/-
  What the rows of texts ask besides: an error and a number of the library's (Tt).
-/
import Derived.Test.YtddmnpfebajnmaaDoorRowKit
import Derived.Test.YtddmnpfebajnmaaDoorFind
import Derived.LaidLaws
import Derived.Clock
namespace Go.Proofs.YtddmnpfebajnmaaDoor
open Go.ChangeShapes Go.WideShapes Go.ChangeAt Go.RowKit
abbrev laidT : List (String × DataW Unit) := [("math/bits.deBruijn32tab", Rows.laid_math_bits_deBruijn32tab), ("math/bits.deBruijn64tab", Rows.laid_math_bits_deBruijn64tab), ("internal/strconv.uint64pow10", Rows.laid_internal_strconv_uint64pow10), ("strconv.ErrRange", Rows.laid_strconv_ErrRange), ("strconv.ErrSyntax", Rows.laid_strconv_ErrSyntax)]
theorem und73 : ∃ ms, Tryd.prog.underlying 73 = some (.interface ms) := ⟨_, Tryd.underlying73⟩
theorem err_of {W : World} {name : String} {g : Nat} {nm : String} {d : DataW Unit} (hg : Tryd.prog.globalNamed name = some g) (hty : (Tryd.prog.globals[g]?).map (·.type) = some 73) (h : Lib.VarReads Tryd.prog W name (.iface nm d)) : ∃ te pe, W.cell? ⟨g, 0, none⟩ = some (.iface te pe) := by
  obtain ⟨g', t', cs, fuel, p, hg', ht', hvar, hd⟩ := h
  obtain rfl := Option.some.inj (hg.symm.trans hg')
  obtain rfl := Option.some.inj (hty.symm.trans ht')
  obtain ⟨ms, hms⟩ := und73
  obtain ⟨_, u, v, hcs, _, _⟩ := iface_of_trod hms hd
  obtain rfl : cs = #[.iface u v] := by cases cs; simp_all
  have h0 := World.var?_cell hg hvar 0
  exact ⟨u, v, by simpa using h0⟩
theorem begun0 : ((begin Tryd.prog (fun _ _ => 0) default).world.heap[0]?).bind Obj.row? = some (#[.int .i64 0], 3) := by kernel_rfl
theorem build3t : Tryd.prog.buildable 3 = true := by kernel_rfl
theorem cells3t : Tryd.prog.cellTypes Tryd.prog.depth 3 = some [3] := by kernel_rfl
set_option maxRecDepth 100000 in
/-- A number that no row lists is some number. -/
theorem int_of_shape {W : World} (h : W.ShapedOpen Tryd.prog) : ∃ m, W.cell? ⟨0, 0, none⟩ = some (.int .i64 m) := by
  obtain ⟨cs, hh, hz, hr⟩ := h.1 0 _ _ (by decide +kernel) begun0
  obtain ⟨ts, hts, _, hall⟩ := hr build3t
  rw [cells3t] at hts
  cases hts
  have h1 : 0 < cs.size := by rw [hz]; decide
  obtain ⟨u, hu, hok⟩ := hall 0 cs[0] (by simp [h1])
  obtain rfl : u = 3 := by simpa using hu.symm
  have hcell : W.cell? ⟨0, 0, none⟩ = some cs[0] := by simp [World.cell?, hh, h1]
  rw [hcell]
  unfold Cell.ok at hok
  rw [Tryd.underlying3] at hok
  cases hv : cs[0] <;> rw [hv] at hok <;> first | (obtain ⟨rfl, _⟩ := hok; exact ⟨_, rfl⟩) | simp at hok
theorem tt_in {W : World} (h : laidMetH Tryd.prog laidT W) (hs : W.ShapedOpen Tryd.prog) : Tt W := by
  have hh : laidMet Tryd.prog laidT W := h
  refine ⟨tp_of (Lib.laidMet.reads hh (by simp [laidT])) (Lib.laidMet.reads hh (by simp [laidT])), ?_, ?_⟩
  · exact err_of (name := "strconv.ErrSyntax") (nm := _) (d := _) (by kernel_rfl) (by kernel_rfl) (Lib.laidMet.reads hh (d := Rows.laid_strconv_ErrSyntax) (by simp [laidT]))
  · exact int_of_shape hs
end Go.Proofs.YtddmnpfebajnmaaDoor
