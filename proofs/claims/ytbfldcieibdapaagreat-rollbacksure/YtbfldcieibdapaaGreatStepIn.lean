/-
  Arguments that came in, opened: what is told, rows of it, rows of numbers.
-/
import Derived.Test.YtbfldcieibdapaaGreatArgRows
namespace Go.Proofs.YtbfldcieibdapaaGreat.St
open Go.ChangeShapes Go.WideShapes Go.ChangeAt Go.RowKit
theorem cells3 : Tryz.prog.cellsOf 3 = 1 := by kernel_rfl
theorem cells36 : Tryz.prog.cellsOf 36 = 1 := by kernel_rfl
theorem cells38 : Tryz.prog.cellsOf 38 = 3 := by kernel_rfl
/-- What is told of a player in a frame. -/
structure To where
  p : Int
  f : Int
  x : Int
def To.cells (t : To) : List Value := [.int .i64 t.p, .int .i64 t.f, .int .u16 t.x]
def To.Good (t : To) : Prop := (-9223372036854775808 ≤ t.p ∧ t.p ≤ 9223372036854775807) ∧ (-9223372036854775808 ≤ t.f ∧ t.f ≤ 9223372036854775807) ∧ (0 ≤ t.x ∧ t.x < 65536)
def i64c (z : Int) : List Value := [.int .i64 z]
def u16c (z : Int) : List Value := [.int .u16 z]
theorem len3 {cs : List Value} (h : cs.length = 3) : ∃ a b c, cs = [a, b, c] := by
  match cs, h with
  | [a, b, c], _ => exact ⟨a, b, c, rfl⟩
section
variable {H : Type} {enc : TypeId × Value → H} {W : World}
theorem int_cells (fuel : Nat) (cs : List Value) (x : DataW H × List MemPlace) (h : DataW.trod enc Tryz.prog W 0 (fun _ => true) true fuel 3 cs = some x) : ∃ z, cs = i64c z ∧ (-9223372036854775808 ≤ z ∧ z ≤ 9223372036854775807) := by
  obtain ⟨z, e, _, wz⟩ := DataW.trod_int Tryz.underlying3 (x := x) h
  exact ⟨z, e, bounds_i64 wz⟩
theorem u16_cells (fuel : Nat) (cs : List Value) (x : DataW H × List MemPlace) (h : DataW.trod enc Tryz.prog W 0 (fun _ => true) true fuel 36 cs = some x) : ∃ z, cs = u16c z ∧ (0 ≤ z ∧ z < 65536) := by
  obtain ⟨z, e, _, wz⟩ := DataW.trod_int Tryz.underlying36 (x := x) h
  exact ⟨z, e, by have := bounds_u16 wz; omega⟩
theorem told_cells (fuel : Nat) (cs : List Value) (x : DataW H × List MemPlace) (h : DataW.trod enc Tryz.prog W 0 (fun _ => true) true fuel 38 cs = some x) : ∃ t : To, cs = t.cells ∧ t.Good := by
  obtain ⟨xs, n, _, hx, hcl, hxl, hel⟩ := DataW.trod_struct Tryz.underlying38 (x := x) h
  rw [cells38] at hcl
  have h0 : DataW.trod enc Tryz.prog W 0 (fun _ => true) true n 3 ((cs.drop 0).take (Tryz.prog.cellsOf 3)) = xs[0]? := hel 0 _ rfl
  have h1 : DataW.trod enc Tryz.prog W 0 (fun _ => true) true n 3 ((cs.drop 1).take (Tryz.prog.cellsOf 3)) = xs[1]? := hel 1 _ rfl
  have h2 : DataW.trod enc Tryz.prog W 0 (fun _ => true) true n 36 ((cs.drop 2).take (Tryz.prog.cellsOf 36)) = xs[2]? := hel 2 _ rfl
  rw [cells3] at h0 h1
  rw [cells36] at h2
  have hxl3 : xs.length = 3 := hxl
  obtain ⟨c0, c1, c2, rfl⟩ := len3 hcl
  rw [List.getElem?_eq_getElem (by omega)] at h0 h1 h2
  obtain ⟨a, e0, wa⟩ := int_cells _ _ _ h0
  obtain ⟨b, e1, wb⟩ := int_cells _ _ _ h1
  obtain ⟨c, e2, wc⟩ := u16_cells _ _ _ h2
  have e0' : [c0] = [.int .i64 a] := e0
  have e1' : [c1] = [.int .i64 b] := e1
  have e2' : [c2] = [.int .u16 c] := e2
  simp only [List.cons.injEq, and_true] at e0' e1' e2'
  subst e0' e1' e2'
  exact ⟨⟨a, b, c⟩, rfl, wa, wb, wc⟩
theorem told_in {v : Value} {d : DataW H} {p : List MemPlace} (h : DataW.Trod enc Tryz.prog W 0 (fun _ => true) true 38 v d p) : ∃ t : To, v = .agg #[.int .i64 t.p, .int .i64 t.f, .int .u16 t.x] ∧ t.Good := by
  obtain ⟨fuel, hf⟩ := h
  obtain ⟨t, hc, hg⟩ := told_cells _ _ _ hf
  refine ⟨t, ?_, hg⟩
  cases v with
  | agg xs =>
    have hc' : xs.toList = t.cells := by simpa [Value.cells] using hc
    obtain ⟨l⟩ := xs
    simp only at hc'
    rw [hc']
    rfl
  | _ => simp [Value.cells, To.cells] at hc
theorem tolds_in {a : Option Addr} {len cap : Nat} {d : DataW H} {p : List MemPlace} (h : DataW.Trod enc Tryz.prog W 0 (fun _ => true) true 26 (.slice a len cap) d p) : ∃ l, Ax.Rw W 3 To.cells a len cap l ∧ ∀ s ∈ l, To.Good s :=
  Ax.rw_in Tryz.underlying26 cells38 (fun _ => rfl) (by decide) told_cells h
theorem u16s_in {a : Option Addr} {len cap : Nat} {d : DataW H} {p : List MemPlace} (h : DataW.Trod enc Tryz.prog W 0 (fun _ => true) true 55 (.slice a len cap) d p) : ∃ l, Ax.Rw W 1 u16c a len cap l ∧ ∀ z ∈ l, 0 ≤ z ∧ z < 65536 :=
  Ax.rw_in Tryz.underlying55 cells36 (fun _ => rfl) (by decide) u16_cells h
theorem ints_in {a : Option Addr} {len cap : Nat} {d : DataW H} {p : List MemPlace} (h : DataW.Trod enc Tryz.prog W 0 (fun _ => true) true 56 (.slice a len cap) d p) : ∃ l, Ax.Rw W 1 i64c a len cap l ∧ ∀ z ∈ l, -9223372036854775808 ≤ z ∧ z ≤ 9223372036854775807 :=
  Ax.rw_in Tryz.underlying56 cells3 (fun _ => rfl) (by decide) int_cells h
end
end Go.Proofs.YtbfldcieibdapaaGreat.St
