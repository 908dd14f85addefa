/-
  Joined from: RowKit.
-/
import Derived.Test.YtahodgmdikaedaaDoorCards
import Derived.Test.YtahodgmdikaedaaDoorTie
import Derived.Test.YtahodgmdikaedaaDoorM04
import Derived.WalkKit
import Derived.ProofKit
import Derived.OpenShut
import Derived.ChangeOld
import Derived.Deep.DeepHandedRow
import Derived.Lib.LaidTab
import Derived.LaidMore
section
/-
  What every row of this seat shares: the listed table as cells (Tab), a world for the witness, a slice of bytes that came in (Bs).
-/
namespace Go.Proofs.YtahodgmdikaedaaDoor
open Go.ChangeShapes Go.WideShapes Go.ChangeAt Go.RowKit

theorem own : ownKnob Tryd.prog.godebug = none := by kernel_rfl
theorem laidOut : laidOutB Tryd.prog = true := by kernel_rfl
theorem gTab : Tryd.prog.globalNamed "gauntlet/octet.sumSteps" = some 0 := by kernel_rfl
theorem gTabType : (Tryd.prog.globals[0]?).map (·.type) = some 132 := by kernel_rfl
theorem cells79 : Tryd.prog.cellsOf 132 = 16 := by kernel_rfl
theorem cells36 : Tryd.prog.cellsOf 94 = 1 := by kernel_rfl

/-- The table's numbers. -/
def stepsI : List Int := [0, 274646895, 549293790, 820201905, 1098587580, 1361435347, 1640403810, 1905808397, 2197175160, 2460548119, 2722870694, 2987750089, 3280807620, 3553878443, 3811616794, 4084100981]

/-- WHAT THE ROW's LIST GIVES: the table's cells hold its sixteen numbers. -/
theorem table {W : World} (h : laidMetH Tryd.prog [("gauntlet/octet.sumSteps", Rows.laid_gauntlet_octet_sumSteps)] W) : Tab W := by
  have ht : Lib.TabIs Tryd.prog W "gauntlet/octet.sumSteps" .u32 stepsI :=
    Lib.tabIs_of_head (rest := []) gTab gTabType Tryd.underlying132 Tryd.underlying94 cells36 cells79 h
  intro i hi
  have hc := ht.cell gTab i (by simpa [stepsI] using hi)
  have : ∀ i : Fin 16, stepsI.getD i.val 0 = ((stepsN.getD i.val 0 : Nat) : Int) := by decide
  rw [← this ⟨i, hi⟩]
  exact hc

theorem wf_u8 {z : Int} (h : (Lit.int .u8 z).wf = true) : 0 ≤ z ∧ z < 256 := by
  have := bounds_u8 h
  omega
theorem wf_i64 {z : Int} (h : (Lit.int .i64 z).wf = true) : -9223372036854775808 ≤ z ∧ z ≤ 9223372036854775807 := bounds_i64 h

/-- A slice of bytes that came in. -/
theorem bs_in {H : Type} {enc : TypeId × Value → H} {W : World} {a : Option Addr} {len cap : Nat} {d : DataW H} {p : List MemPlace} (h : DataW.Trod enc Tryd.prog W 0 (fun _ => true) true 29 (.slice a len cap) d p) :
    ∃ zs, Bs W (.slice a len cap) zs ∧ Byt zs := by
  obtain ⟨fuel, hf⟩ := h
  rcases open_ints Tryd.underlying29 Tryd.underlying5 (by kernel_rfl) hf with ⟨hcs, _⟩ | ⟨x, l, c, zs, hcs, _, hl, hm, hz, _, hcell, hwz⟩
  · simp [Value.cells] at hcs
    obtain ⟨rfl, rfl, rfl⟩ := hcs
    exact ⟨[], Or.inl ⟨rfl, none, 0, rfl, by simp [maxLen], fun _ => rfl⟩, fun z hz => by cases hz⟩
  · simp [Value.cells] at hcs
    obtain ⟨rfl, rfl, rfl⟩ := hcs
    have hz' : zs.length = cap := by simpa using hz
    have htl : (zs.take len).length = len := by simp; omega
    refine ⟨zs.take len, ?_, fun z hz2 => wf_u8 (hwz z (List.mem_of_mem_take hz2))⟩
    by_cases h0 : len = 0
    · subst h0
      exact Or.inl ⟨by simp, _, cap, rfl, hm, fun e => by cases e⟩
    · obtain ⟨b, off, spot⟩ := x
      have hc := hcell 0 (by omega)
      have hspot : spot = none := by simpa [Addr.add] using World.cell?_spot hc
      subst hspot
      refine Or.inr ⟨fun e => by rw [e] at htl; simp at htl; omega, b, off, cap, by rw [htl], by omega, hm, fun i hi => ?_⟩
      have hci := hcell i (by omega)
      rw [Addr.add_lit] at hci
      rw [hci]
      have : (zs.take len).getD i 0 = zs.getD i 0 := by simp [List.getD, show i < len by omega]
      rw [this]

end Go.Proofs.YtahodgmdikaedaaDoor
end
