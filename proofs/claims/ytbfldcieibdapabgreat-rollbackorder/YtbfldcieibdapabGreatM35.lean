/-
  Joined from: RowKit, ArgRows, NumIn.
-/
import Derived.Test.YtbfldcieibdapabGreatRows
import Derived.Test.YtbfldcieibdapabGreatM06
import Derived.WalkKit
import Derived.ProofKit
import Derived.OpenShut
import Derived.ChangeOld
import Derived.Deep.DeepHandedRow
import Derived.LaidMore
section
/-
  What every row of this seat shares.
-/
namespace Go.Proofs.YtbfldcieibdapabGreat
open Go.ChangeShapes Go.WideShapes Go.ChangeAt Go.RowKit

theorem ownK : ownKnob Tryz.prog.godebug = none := by kernel_rfl
theorem laidOut : laidOutB Tryz.prog = true := by kernel_rfl
theorem bounds_i32 {z : Int} (h : (Lit.int .i32 z).wf = true) : In32 z := by
  simp [Lit.wf, IntKind.min, IntKind.max, IntKind.signed, IntKind.bits] at h
  exact ⟨by omega, by omega⟩
theorem bounds_u32 {z : Int} (h : (Lit.int .u32 z).wf = true) : 0 ≤ z ∧ z < 4294967296 := by
  simp [Lit.wf, IntKind.min, IntKind.max, IntKind.signed, IntKind.bits] at h
  exact ⟨by omega, by omega⟩
end Go.Proofs.YtbfldcieibdapabGreat
end

section
/-
  Rows of any one width as arguments: a slice whose elements are read as words of one kind. No number of the seat is in it but the type's.
-/
namespace Go.Proofs.YtbfldcieibdapabGreat.Ax
open Go.ChangeShapes Go.WideShapes Go.ChangeAt Go.RowKit
/-- The slice at ao of n elements, of c cells each, reads as the words l. -/
structure Rw {α : Type} (w : World) (c : Nat) (en : α → List Value) (ao : Option Addr) (n cap : Nat) (l : List α) : Prop where
  len : l.length = n
  le : n ≤ cap
  mx : cap ≤ maxLen
  no : ao = none → cap = 0
  at' : ∀ i s, l[i]? = some s → ∃ g off, ao = some ⟨g, off, none⟩ ∧ ∀ j u, (en s)[j]? = some u → w.cell? ⟨g, off + i * c + j, none⟩ = some u
theorem Rw.below {α : Type} {w w' : World} {c : Nat} {en : α → List Value} {ao : Option Addr} {n cap : Nat} {l : List α} {B : Nat} (h : Rw w c en ao n cap l) (hb : Below B w w') (hB : w.heap.size ≤ B) : Rw w' c en ao n cap l := by
  refine ⟨h.len, h.le, h.mx, h.no, fun i s hs => ?_⟩
  obtain ⟨g, off, h1, h2⟩ := h.at' i s hs
  refine ⟨g, off, h1, fun j u hu => ?_⟩
  have h3 := h2 j u hu
  have hlt := World.block_lt_of_cell? w _ h3
  exact (hb.cell (p := ⟨g, off + i * c + j, none⟩) (Nat.lt_of_lt_of_le hlt hB)).trans h3
section
variable {P : Program} {H : Type} {enc : TypeId × Value → H} {W : World} {α : Type}
theorem rw_in {t e c : Nat} {en : α → List Value} {Good : α → Prop} (hu : P.underlying t = some (.slice e)) (hc : P.cellsOf e = c) (hl : ∀ s, (en s).length = c) (h0 : 0 < c)
    (el : ∀ fuel cs x, DataW.trod enc P W 0 (fun _ => true) true fuel e cs = some x → ∃ s, cs = en s ∧ Good s)
    {a : Option Addr} {len cap : Nat} {d : DataW H} {p : List MemPlace} (h : DataW.Trod enc P W 0 (fun _ => true) true t (.slice a len cap) d p) : ∃ l, Rw W c en a len cap l ∧ ∀ s ∈ l, Good s := by
  obtain ⟨fuel, h⟩ := h
  have h' : DataW.trod enc P W 0 (fun _ => true) true fuel t [.slice a len cap] = some (d, p) := h
  rcases DataW.trod_slice hu h' with ⟨hc, _⟩ | ⟨a1, len1, cap1, elems, rest, n, _, hc1, hx, _, hl1, hm, hle, hel, _, _⟩
  · simp at hc
    obtain ⟨rfl, rfl, rfl⟩ := hc
    exact ⟨[], ⟨rfl, Nat.le_refl _, by unfold maxLen; omega, fun _ => rfl, fun i s hs => by simp at hs⟩, fun s hs => by cases hs⟩
  · simp at hc1
    obtain ⟨rfl, rfl, rfl⟩ := hc1
    simp only [Prod.mk.injEq] at hx
    rw [hc] at hel
    have each : ∀ i, i < len → ∃ s : α, Good s ∧ ∀ (j : Nat) (u : Value), (en s)[j]? = some u → W.cell? ((a1.add (i * c)).add j) = some u := by
      intro i hi
      have h1 := hel i hi
      rw [List.getElem?_eq_getElem (by omega)] at h1
      obtain ⟨cs, hcs, ht⟩ := Option.bind_eq_some_iff.1 h1
      obtain ⟨s, rfl, hg⟩ := el _ _ _ ht
      obtain ⟨_, hlc, hcell⟩ := World.cells?_some hcs
      refine ⟨s, hg, fun j u hu => ?_⟩
      have hj := (List.getElem?_eq_some_iff.1 hu).1
      rw [hcell j (by omega)]
      exact hu
    by_cases hz : len = 0
    · subst hz
      exact ⟨[], ⟨rfl, Nat.zero_le _, hm, fun e => (by cases e), fun i s hs => by simp at hs⟩, fun s hs => by cases hs⟩
    · obtain ⟨f0, _, hf0⟩ := each 0 (by omega)
      have hc0 := hf0 0 _ (List.getElem?_eq_getElem (by rw [hl]; exact h0))
      obtain ⟨b, off, spot⟩ := a1
      have hspot : spot = none := by simpa [Addr.add] using World.cell?_spot hc0
      subst hspot
      have hsp : ∀ (i : Nat) (s : α), ((List.range len).attach.map (fun i => Classical.choose (each i.1 (List.mem_range.1 i.2))))[i]? = some s → Good s ∧ ∀ (j : Nat) (u : Value), (en s)[j]? = some u → W.cell? ⟨b, off + i * c + j, none⟩ = some u := by
        intro i r hr
        have hi : i < len := by have := (List.getElem?_eq_some_iff.1 hr).1; simpa using this
        have hre : r = Classical.choose (each i hi) := by
          rw [List.getElem?_map, List.getElem?_eq_getElem (by simpa using hi)] at hr
          simp at hr
          exact hr.symm
        have hs := Classical.choose_spec (each i hi)
        rw [← hre] at hs
        refine ⟨hs.1, ?_⟩
        intro j u hu
        have := hs.2 j u hu
        rw [Addr.add_lit, Addr.add_lit] at this
        exact this
      refine ⟨_, ⟨by simp, hl1, hm, fun e => (by cases e), fun i s hs => ⟨b, off, rfl, (hsp i s hs).2⟩⟩, fun s hs => ?_⟩
      obtain ⟨i, hi⟩ := List.getElem?_of_mem hs
      exact (hsp i s hi).1
end
end Go.Proofs.YtbfldcieibdapabGreat.Ax
end

section
/-
  Arguments that came in, opened: rows of numbers.
-/
namespace Go.Proofs.YtbfldcieibdapabGreat.St
open Go.ChangeShapes Go.WideShapes Go.ChangeAt Go.RowKit
theorem cells3 : Tryz.prog.cellsOf 3 = 1 := by kernel_rfl
theorem cells37 : Tryz.prog.cellsOf 37 = 1 := by kernel_rfl
def i64c (z : Int) : List Value := [.int .i64 z]
def u16c (z : Int) : List Value := [.int .u16 z]
section
variable {H : Type} {enc : TypeId × Value → H} {W : World}
theorem int_cells (fuel : Nat) (cs : List Value) (x : DataW H × List MemPlace) (h : DataW.trod enc Tryz.prog W 0 (fun _ => true) true fuel 3 cs = some x) : ∃ z, cs = i64c z ∧ (-9223372036854775808 ≤ z ∧ z ≤ 9223372036854775807) := by
  obtain ⟨z, e, _, wz⟩ := DataW.trod_int Tryz.underlying3 (x := x) h
  exact ⟨z, e, bounds_i64 wz⟩
theorem u16_cells (fuel : Nat) (cs : List Value) (x : DataW H × List MemPlace) (h : DataW.trod enc Tryz.prog W 0 (fun _ => true) true fuel 37 cs = some x) : ∃ z, cs = u16c z ∧ (0 ≤ z ∧ z < 65536) := by
  obtain ⟨z, e, _, wz⟩ := DataW.trod_int Tryz.underlying37 (x := x) h
  exact ⟨z, e, by have := bounds_u16 wz; omega⟩
theorem u16s_in {a : Option Addr} {len cap : Nat} {d : DataW H} {p : List MemPlace} (h : DataW.Trod enc Tryz.prog W 0 (fun _ => true) true 26 (.slice a len cap) d p) : ∃ l, Ax.Rw W 1 u16c a len cap l ∧ ∀ z ∈ l, 0 ≤ z ∧ z < 65536 :=
  Ax.rw_in Tryz.underlying26 cells37 (fun _ => rfl) (by decide) u16_cells h
theorem ints_in {a : Option Addr} {len cap : Nat} {d : DataW H} {p : List MemPlace} (h : DataW.Trod enc Tryz.prog W 0 (fun _ => true) true 27 (.slice a len cap) d p) : ∃ l, Ax.Rw W 1 i64c a len cap l ∧ ∀ z ∈ l, -9223372036854775808 ≤ z ∧ z ≤ 9223372036854775807 :=
  Ax.rw_in Tryz.underlying27 cells3 (fun _ => rfl) (by decide) int_cells h
end
end Go.Proofs.YtbfldcieibdapabGreat.St
end
