/-
  Arguments that came in, opened: bytes, rows of bytes, rows of numbers, a message, a script.
-/
import Derived.Test.YtnfmhcljncdkgaaArgRows
import Derived.Maps.OwnSet
namespace Go.Proofs.Ytnfmhcljncdkgaa
open Go.ChangeShapes Go.WideShapes Go.ChangeAt Go.RowKit
theorem weightsAll_mem {P : Program} {H : Type} {t : TypeId} {d : DataW H} : ∀ {l : List (DataW H)}, d ∈ l → ∀ x ∈ DataW.weights P t d, x ∈ DataW.weightsAll P t l
  | e :: l, h, x, hx => by
    simp only [DataW.weightsAll, List.mem_append]
    rcases List.mem_cons.1 h with rfl | h
    · exact Or.inl hx
    · exact Or.inr (weightsAll_mem h x hx)
section
open Ax
variable {P : Program} {H : Type} {enc : TypeId × Value → H} {W : World} {α : Type}
theorem rw_reach {t e c : Nat} {en : α → List Value} {Good : α → Prop} (hu : P.underlying t = some (.slice e)) (hc : P.cellsOf e = c) (hl : ∀ s, (en s).length = c) (h0 : 0 < c)
    (hby : 0 < P.bytesOf e) (el : ∀ fuel cs x, DataW.trod enc P W 0 (fun _ => true) true fuel e cs = some x → (∀ y ∈ DataW.weights P e x.1, y ≤ reachBytes) → ∃ s, cs = en s ∧ Good s)
    {a : Option Addr} {len cap : Nat} {d : DataW H} {p : List MemPlace} (h : DataW.Trod enc P W 0 (fun _ => true) true t (.slice a len cap) d p) (hw : ∀ x ∈ DataW.weights P t d, x ≤ reachBytes) : ∃ l, Rw W c en a len cap l ∧ (∀ s ∈ l, Good s) ∧ len ≤ 140737488355328 := by
  obtain ⟨fuel, h⟩ := h
  have h' : DataW.trod enc P W 0 (fun _ => true) true fuel t [.slice a len cap] = some (d, p) := h
  rcases DataW.trod_slice hu h' with ⟨hc, _⟩ | ⟨a1, len1, cap1, elems, rest, n, _, hc1, hx, _, hl1, hm, hle, hel, _, _⟩
  · simp at hc
    obtain ⟨rfl, rfl, rfl⟩ := hc
    exact ⟨[], ⟨rfl, Nat.le_refl _, by unfold maxLen; omega, fun _ => rfl, fun i s hs => by simp at hs⟩, fun s hs => (by cases hs), by omega⟩
  · simp at hc1
    obtain ⟨rfl, rfl, rfl⟩ := hc1
    simp only [Prod.mk.injEq] at hx
    rw [hc] at hel
    have hlen : len ≤ 140737488355328 := by
      have h1 := hw (((elems.map (·.1)).length + (rest.map (·.1)).length) * P.bytesOf e) (by
        rw [hx.1]
        simp [DataW.weights, hu])
      have h2 : ((elems.map (·.1)).length + (rest.map (·.1)).length) * 1 ≤ ((elems.map (·.1)).length + (rest.map (·.1)).length) * P.bytesOf e := Nat.mul_le_mul_left _ hby
      simp only [reachBytes] at h1
      simp at h1 h2
      omega
    have each : ∀ i, i < len → ∃ s : α, Good s ∧ ∀ (j : Nat) (u : Value), (en s)[j]? = some u → W.cell? ((a1.add (i * c)).add j) = some u := by
      intro i hi
      have h1 := hel i hi
      rw [List.getElem?_eq_getElem (by omega)] at h1
      obtain ⟨cs, hcs, ht⟩ := Option.bind_eq_some_iff.1 h1
      have hwi : ∀ x ∈ DataW.weights P e elems[i].1, x ≤ reachBytes := by
        intro x hxx
        refine hw x ?_
        rw [hx.1]
        simp only [DataW.weights, hu, List.mem_cons, List.mem_append]
        exact Or.inr (Or.inl (weightsAll_mem (List.mem_map.2 ⟨elems[i], List.getElem_mem _, rfl⟩) x hxx))
      obtain ⟨s, rfl, hg⟩ := el _ _ _ ht hwi
      obtain ⟨_, hlc, hcell⟩ := World.cells?_some hcs
      refine ⟨s, hg, fun j u hu => ?_⟩
      have hj := (List.getElem?_eq_some_iff.1 hu).1
      rw [hcell j (by omega)]
      exact hu
    by_cases hz : len = 0
    · subst hz
      exact ⟨[], ⟨rfl, Nat.zero_le _, hm, fun e => (by cases e), fun i s hs => by simp at hs⟩, fun s hs => (by cases hs), by omega⟩
    · obtain ⟨f0, _, hf0⟩ := each 0 (by omega)
      have hc0 := hf0 0 _ (List.getElem?_eq_getElem (by rw [hl]; exact h0))
      obtain ⟨b, off, spot⟩ := a1
      have hspot : spot = none := by simpa [Addr.add] using World.cell?_spot hc0
      subst hspot
      have hsp : ∀ (i : Nat) (s : α), ((List.range len).attach.map (fun i => Classical.choose (each i.1 (List.mem_range.1 i.2))))[i]? = some s → Good s ∧ ∀ (j : Nat) (u : Value), (en s)[j]? = some u → W.cell? ⟨b, off + i * c + j, none⟩ = some u := by
        intro i r hr
        have hi : i < len := by have := (List.getElem?_eq_some_iff.1 hr).1; simpa using this
        have hre : r = Classical.choose (each i hi) := by
          rw [List.getElem?_map, List.getElem?_eq_getElem (by simpa using hi)] at hr
          simp at hr
          exact hr.symm
        have hs := Classical.choose_spec (each i hi)
        rw [← hre] at hs
        refine ⟨hs.1, ?_⟩
        intro j u hu
        have := hs.2 j u hu
        rw [Addr.add_lit, Addr.add_lit] at this
        exact this
      refine ⟨_, ⟨by simp, hl1, hm, fun e => (by cases e), fun i s hs => ⟨b, off, rfl, (hsp i s hs).2⟩⟩, fun s hs => ?_, hlen⟩
      obtain ⟨i, hi⟩ := List.getElem?_of_mem hs
      exact (hsp i s hi).1
end
theorem cells3 : Try.prog.cellsOf 3 = 1 := by kernel_rfl
theorem cells23 : Try.prog.cellsOf 23 = 1 := by kernel_rfl
theorem cells25 : Try.prog.cellsOf 25 = 3 := by kernel_rfl
theorem cells27 : Try.prog.cellsOf 27 = 5 := by kernel_rfl
theorem bytes3 : 0 < Try.prog.bytesOf 3 := of_decide_eq_true (by kernel_rfl)
theorem bytes23 : 0 < Try.prog.bytesOf 23 := of_decide_eq_true (by kernel_rfl)
theorem bytes27 : 0 < Try.prog.bytesOf 27 := of_decide_eq_true (by kernel_rfl)
def i64c (z : Int) : List Value := [.int .i64 z]
/-- Bytes that came in: the slice and what it reads as. -/
structure Bi where
  v : Value
  zs : List Int
def Bi.ok (W : World) (r : Bi) : Prop := Bs W r.v r.zs ∧ (∀ z ∈ r.zs, 0 ≤ z ∧ z < 256) ∧ r.zs.length ≤ 140737488355328
def Bi.cells (r : Bi) : List Value := [r.v]
/-- A message that came in. -/
structure Mi where
  fr : Int
  to : Int
  r : Bi
def Mi.cells (m : Mi) : List Value := [.int .i64 m.fr, .int .i64 m.to, m.r.v]
/-- A step that came in. -/
structure Si where
  k : Int
  n : Int
  m : Mi
def Si.cells (s : Si) : List Value := [.int .i64 s.k, .int .i64 s.n, .int .i64 s.m.fr, .int .i64 s.m.to, s.m.r.v]
section
variable {H : Type} {enc : TypeId × Value → H} {W : World}
theorem int_cells (fuel : Nat) (cs : List Value) (x : DataW H × List MemPlace) (h : DataW.trod enc Try.prog W 0 (fun _ => true) true fuel 3 cs = some x) : ∃ z, cs = i64c z ∧ (-9223372036854775808 ≤ z ∧ z ≤ 9223372036854775807) := by
  obtain ⟨z, e, _, wz⟩ := DataW.trod_int Try.underlying3 (x := x) h
  exact ⟨z, e, bounds_i64 wz⟩
theorem slice_form {fuel : Nat} {c : Value} {x : DataW H × List MemPlace} (h : DataW.trod enc Try.prog W 0 (fun _ => true) true fuel 23 [c] = some x) : ∃ a len cap, c = .slice a len cap := by
  rcases DataW.trod_slice Try.underlying23 h with ⟨hc, _⟩ | ⟨a, len, cap, elems, rest, n, _, hc, _⟩
  · simp at hc; exact ⟨none, 0, 0, hc⟩
  · simp at hc; exact ⟨_, _, _, hc⟩
theorem bi_cells (fuel : Nat) (cs : List Value) (x : DataW H × List MemPlace) (h : DataW.trod enc Try.prog W 0 (fun _ => true) true fuel 23 cs = some x) (hw : ∀ y ∈ DataW.weights Try.prog 23 x.1, y ≤ reachBytes) : ∃ r : Bi, cs = r.cells ∧ r.ok W := by
  have hcl : cs.length = 1 := by
    rcases DataW.trod_slice Try.underlying23 h with ⟨hc, _⟩ | ⟨a, len, cap, elems, rest, n, _, hc, _⟩ <;> rw [hc] <;> rfl
  obtain ⟨c, rfl⟩ : ∃ c, cs = [c] := by
    match cs, hcl with
    | [c], _ => exact ⟨c, rfl⟩
  obtain ⟨a, len, cap, rfl⟩ := slice_form h
  have ht : DataW.Trod enc Try.prog W 0 (fun _ => true) true 23 (.slice a len cap) x.1 x.2 := ⟨_, h⟩
  obtain ⟨zs, hbs, hby⟩ := bs_in ht
  have hln := len_reach ht hw
  have e0 : zs.length = len := by obtain ⟨_, _, hv, _⟩ := hbs.len; simp only [Value.slice.injEq] at hv; exact hv.2.1.symm
  exact ⟨⟨_, zs⟩, rfl, hbs, hby, by rw [e0]; exact hln⟩
theorem len3 {cs : List Value} (h : cs.length = 3) : ∃ a b c, cs = [a, b, c] := by
  match cs, h with
  | [a, b, c], _ => exact ⟨a, b, c, rfl⟩
theorem mi_cells (fuel : Nat) (cs : List Value) (x : DataW H × List MemPlace) (h : DataW.trod enc Try.prog W 0 (fun _ => true) true fuel 25 cs = some x) (hw : ∀ y ∈ DataW.weights Try.prog 25 x.1, y ≤ reachBytes) : ∃ m : Mi, cs = m.cells ∧ m.r.ok W := by
  obtain ⟨xs, n, _, hx, hcl, hxl, hel⟩ := DataW.trod_struct Try.underlying25 (x := x) h
  rw [cells25] at hcl
  have h0 : DataW.trod enc Try.prog W 0 (fun _ => true) true n 3 ((cs.drop 0).take (Try.prog.cellsOf 3)) = xs[0]? := hel 0 _ rfl
  have h1 : DataW.trod enc Try.prog W 0 (fun _ => true) true n 3 ((cs.drop 1).take (Try.prog.cellsOf 3)) = xs[1]? := hel 1 _ rfl
  have h2 : DataW.trod enc Try.prog W 0 (fun _ => true) true n 23 ((cs.drop 2).take (Try.prog.cellsOf 23)) = xs[2]? := hel 2 _ rfl
  rw [cells3] at h0 h1
  rw [cells23] at h2
  have hxl3 : xs.length = 3 := hxl
  clear hel hxl
  obtain ⟨x0, x1, x2, rfl⟩ : ∃ x0 x1 x2, xs = [x0, x1, x2] := by
    match xs, hxl3 with
    | [x0, x1, x2], _ => exact ⟨x0, x1, x2, rfl⟩
  obtain ⟨c0, c1, c2, rfl⟩ := len3 hcl
  obtain ⟨a, e0, wa⟩ := int_cells _ _ x0 h0
  obtain ⟨b, e1, wb⟩ := int_cells _ _ x1 h1
  have hd : x.1 = .agg [x0.1, x1.1, x2.1] := by simpa using congrArg Prod.fst hx
  obtain ⟨r, e2, ok⟩ := bi_cells _ _ x2 h2 fun y hy => by
    refine hw y ?_
    rw [hd]
    have := DataW.weights_mem_each (P := Try.prog) (ts := [3, 3, 23]) (ds := [x0.1, x1.1, x2.1]) (j := 2) rfl rfl y hy
    simp only [DataW.weights, Try.underlying25]
    exact this
  have e0' : [c0] = [.int .i64 a] := e0
  have e1' : [c1] = [.int .i64 b] := e1
  have e2' : [c2] = [r.v] := e2
  simp only [List.cons.injEq, and_true] at e0' e1' e2'
  subst e0' e1' e2'
  exact ⟨⟨a, b, r⟩, rfl, ok⟩
theorem mi_in {v : Value} {d : DataW H} {p : List MemPlace} (h : DataW.Trod enc Try.prog W 0 (fun _ => true) true 25 v d p) (hw : ∀ y ∈ DataW.weights Try.prog 25 d, y ≤ reachBytes) : ∃ m : Mi, v = .agg #[.int .i64 m.fr, .int .i64 m.to, m.r.v] ∧ m.r.ok W := by
  obtain ⟨fuel, hf⟩ := h
  obtain ⟨m, hc, hg⟩ := mi_cells _ _ _ hf hw
  refine ⟨m, ?_, hg⟩
  cases v with
  | agg xs =>
    have hc' : xs.toList = m.cells := by simpa [Value.cells] using hc
    obtain ⟨l⟩ := xs
    simp only at hc'
    rw [hc']
    rfl
  | _ => simp [Value.cells, Mi.cells] at hc
theorem si_cells (fuel : Nat) (cs : List Value) (x : DataW H × List MemPlace) (h : DataW.trod enc Try.prog W 0 (fun _ => true) true fuel 27 cs = some x) (hw : ∀ y ∈ DataW.weights Try.prog 27 x.1, y ≤ reachBytes) : ∃ s : Si, cs = s.cells ∧ s.m.r.ok W := by
  obtain ⟨xs, n, _, hx, hcl, hxl, hel⟩ := DataW.trod_struct Try.underlying27 (x := x) h
  rw [cells27] at hcl
  have h0 : DataW.trod enc Try.prog W 0 (fun _ => true) true n 3 ((cs.drop 0).take (Try.prog.cellsOf 3)) = xs[0]? := hel 0 _ rfl
  have h1 : DataW.trod enc Try.prog W 0 (fun _ => true) true n 3 ((cs.drop 1).take (Try.prog.cellsOf 3)) = xs[1]? := hel 1 _ rfl
  have h2 : DataW.trod enc Try.prog W 0 (fun _ => true) true n 25 ((cs.drop 2).take (Try.prog.cellsOf 25)) = xs[2]? := hel 2 _ rfl
  rw [cells3] at h0 h1
  rw [cells25] at h2
  have hxl3 : xs.length = 3 := hxl
  clear hel hxl
  obtain ⟨x0, x1, x2, rfl⟩ : ∃ x0 x1 x2, xs = [x0, x1, x2] := by
    match xs, hxl3 with
    | [x0, x1, x2], _ => exact ⟨x0, x1, x2, rfl⟩
  obtain ⟨c0, c1, c2, c3, c4, rfl⟩ : ∃ c0 c1 c2 c3 c4, cs = [c0, c1, c2, c3, c4] := by
    match cs, hcl with
    | [c0, c1, c2, c3, c4], _ => exact ⟨c0, c1, c2, c3, c4, rfl⟩
  obtain ⟨a, e0, wa⟩ := int_cells _ _ x0 h0
  obtain ⟨b, e1, wb⟩ := int_cells _ _ x1 h1
  have hd : x.1 = .agg [x0.1, x1.1, x2.1] := by simpa using congrArg Prod.fst hx
  obtain ⟨m, e2, ok⟩ := mi_cells _ _ x2 h2 fun y hy => by
    refine hw y ?_
    rw [hd]
    have := DataW.weights_mem_each (P := Try.prog) (ts := [3, 3, 25]) (ds := [x0.1, x1.1, x2.1]) (j := 2) rfl rfl y hy
    simp only [DataW.weights, Try.underlying27]
    exact this
  have e0' : [c0] = [.int .i64 a] := e0
  have e1' : [c1] = [.int .i64 b] := e1
  have e2' : [c2, c3, c4] = [.int .i64 m.fr, .int .i64 m.to, m.r.v] := e2
  simp only [List.cons.injEq, and_true] at e0' e1' e2'
  obtain ⟨rfl, rfl, rfl⟩ := e2'
  subst e0' e1'
  exact ⟨⟨a, b, m⟩, rfl, ok⟩
theorem ints_in {a : Option Addr} {len cap : Nat} {d : DataW H} {p : List MemPlace} (h : DataW.Trod enc Try.prog W 0 (fun _ => true) true 51 (.slice a len cap) d p) (hw : ∀ y ∈ DataW.weights Try.prog 51 d, y ≤ reachBytes) : ∃ l, Ax.Rw W 1 i64c a len cap l ∧ (∀ z ∈ l, -9223372036854775808 ≤ z ∧ z ≤ 9223372036854775807) ∧ len ≤ 140737488355328 :=
  rw_reach Try.underlying51 cells3 (fun _ => rfl) (by decide) bytes3 (fun f cs x h _ => int_cells f cs x h) h hw
theorem rows_in {a : Option Addr} {len cap : Nat} {d : DataW H} {p : List MemPlace} (h : DataW.Trod enc Try.prog W 0 (fun _ => true) true 48 (.slice a len cap) d p) (hw : ∀ y ∈ DataW.weights Try.prog 48 d, y ≤ reachBytes) : ∃ l, Ax.Rw W 1 Bi.cells a len cap l ∧ (∀ r ∈ l, Bi.ok W r) ∧ len ≤ 140737488355328 :=
  rw_reach Try.underlying48 cells23 (fun _ => rfl) (by decide) bytes23 bi_cells h hw
theorem script_in {a : Option Addr} {len cap : Nat} {d : DataW H} {p : List MemPlace} (h : DataW.Trod enc Try.prog W 0 (fun _ => true) true 22 (.slice a len cap) d p) (hw : ∀ y ∈ DataW.weights Try.prog 22 d, y ≤ reachBytes) : ∃ l, Ax.Rw W 5 Si.cells a len cap l ∧ (∀ s ∈ l, s.m.r.ok W) ∧ len ≤ 140737488355328 :=
  rw_reach Try.underlying22 cells27 (fun _ => rfl) (by decide) bytes27 si_cells h hw
end
end Go.Proofs.Ytnfmhcljncdkgaa
