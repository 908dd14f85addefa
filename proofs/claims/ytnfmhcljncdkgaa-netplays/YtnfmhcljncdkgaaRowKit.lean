/-
  What every row of this seat shares: a slice of bytes that came in (Bs).
-/
import Derived.Test.YtnfmhcljncdkgaaRows
import Derived.Test.YtnfmhcljncdkgaaBase
import Derived.WalkKit
import Derived.ProofKit
import Derived.OpenShut
import Derived.ChangeOld
import Derived.Deep.DeepHandedRow
import Derived.LaidMore
namespace Go.Proofs.Ytnfmhcljncdkgaa
open Go.ChangeShapes Go.WideShapes Go.ChangeAt Go.RowKit

def BytI (zs : List Int) : Prop := ∀ z ∈ zs, 0 ≤ z ∧ z < 256
theorem ownK : ownKnob Try.prog.godebug = none := by kernel_rfl
theorem own : ownKnob Try.prog.godebug = none := by kernel_rfl
theorem laidOut : laidOutB Try.prog = true := by kernel_rfl
theorem wf_u8 {z : Int} (h : (Lit.int .u8 z).wf = true) : 0 ≤ z ∧ z < 256 := by
  have := bounds_u8 h
  omega
theorem wf_i64 {z : Int} (h : (Lit.int .i64 z).wf = true) : -9223372036854775808 ≤ z ∧ z ≤ 9223372036854775807 := bounds_i64 h
/-- A slice of bytes that came in. -/
theorem bs_in {H : Type} {enc : TypeId × Value → H} {W : World} {a : Option Addr} {len cap : Nat} {d : DataW H} {p : List MemPlace} (h : DataW.Trod enc Try.prog W 0 (fun _ => true) true 23 (.slice a len cap) d p) :
    ∃ zs, Bs W (.slice a len cap) zs ∧ BytI zs := by
  obtain ⟨fuel, hf⟩ := h
  rcases open_ints Try.underlying23 Try.underlying5 (by kernel_rfl) hf with ⟨hcs, _⟩ | ⟨x, l, c, zs, hcs, _, hl, hm, hz, _, hcell, hwz⟩
  · simp [Value.cells] at hcs
    obtain ⟨rfl, rfl, rfl⟩ := hcs
    exact ⟨[], Or.inl ⟨rfl, none, 0, rfl, by simp [maxLen], fun _ => rfl⟩, fun z hz => by cases hz⟩
  · simp [Value.cells] at hcs
    obtain ⟨rfl, rfl, rfl⟩ := hcs
    have hz' : zs.length = cap := by simpa using hz
    have htl : (zs.take len).length = len := by simp; omega
    refine ⟨zs.take len, ?_, fun z hz2 => wf_u8 (hwz z (List.mem_of_mem_take hz2))⟩
    by_cases h0 : len = 0
    · subst h0
      exact Or.inl ⟨by simp, _, cap, rfl, hm, fun e => by cases e⟩
    · obtain ⟨b, off, spot⟩ := x
      have hc := hcell 0 (by omega)
      have hspot : spot = none := by simpa [Addr.add] using World.cell?_spot hc
      subst hspot
      refine Or.inr ⟨fun e => by rw [e] at htl; simp at htl; omega, b, off, cap, by rw [htl], by omega, hm, fun i hi => ?_⟩
      have hci := hcell i (by omega)
      rw [Addr.add_lit] at hci
      rw [hci]
      have : (zs.take len).getD i 0 = zs.getD i 0 := by simp [List.getD, show i < len by omega]
      rw [this]

/-- A slice of bytes that came in is not longer than the reach. -/
theorem len_reach {H : Type} {enc : TypeId × Value → H} {W : World} {a : Option Addr} {len cap : Nat} {d : DataW H} {p : List MemPlace} (h : DataW.Trod enc Try.prog W 0 (fun _ => true) true 23 (.slice a len cap) d p) (hw : ∀ x ∈ DataW.weights Try.prog 23 d, x ≤ reachBytes) : len ≤ 140737488355328 := by
  obtain ⟨fuel, hf⟩ := h
  rcases open_ints Try.underlying23 Try.underlying5 (by kernel_rfl) hf with ⟨hcs, _⟩ | ⟨x, l, c, zs, hcs, _, hl, hm, hz, hx, hcell, hwz⟩
  · simp [Value.cells] at hcs
    omega
  · simp [Value.cells] at hcs
    obtain ⟨rfl, rfl, rfl⟩ := hcs
    have hb5 : Try.prog.bytesOf 5 = 1 := by kernel_rfl
    have hd : d = .slice (lits .u8 (zs.take len)) (lits .u8 (zs.drop len)) := congrArg Prod.fst hx
    have hmem : ((lits (H := H) .u8 (zs.take len)).length + (lits (H := H) .u8 (zs.drop len)).length) * Try.prog.bytesOf 5 ∈ DataW.weights Try.prog 23 d := by
      rw [hd]
      simp [DataW.weights, Try.underlying23]
    have := hw _ hmem
    rw [hb5] at this
    simp only [reachBytes] at this
    have hzl : zs.length = cap := by simpa using hz
    simp [lits] at this
    omega

end Go.Proofs.Ytnfmhcljncdkgaa
