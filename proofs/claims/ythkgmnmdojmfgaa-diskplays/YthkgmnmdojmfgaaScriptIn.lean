/-
  A script that came in as an argument: opened (Sts).
-/
import Derived.Test.YthkgmnmdojmfgaaPlayH
import Derived.Test.YthkgmnmdojmfgaaRowsIn
namespace Go.Proofs.Ythkgmnmdojmfgaa
open Go.ChangeShapes Go.WideShapes Go.ChangeAt Go.RowKit
variable {H : Type} {enc : TypeId × Value → H} {W : World}

theorem cells3i : Try.prog.cellsOf 3 = 1 := by kernel_rfl
theorem cells9 : Try.prog.cellsOf 9 = 1 := by kernel_rfl
theorem cells5i : Try.prog.cellsOf 5 = 1 := by kernel_rfl
theorem cells34 : Try.prog.cellsOf 34 = 6 := by kernel_rfl
theorem bytes34 : Try.prog.bytesOf 34 = 80 := by kernel_rfl
theorem step_in {fuel : Nat} {cs : List Value} {d : DataW H} {p : List MemPlace} (h : DataW.trod enc Try.prog W 0 (fun _ => true) true fuel 34 cs = some (d, p)) (hw : ∀ x ∈ DataW.weights Try.prog 34 d, x ≤ reachBytes) : ∃ s : Sp, cs = s.cells ∧ s.ok W := by
  obtain ⟨xs, n, _, hx, hcl, hxl, hel⟩ := DataW.trod_struct Try.underlying34 h
  rw [cells34] at hcl
  have h0 : DataW.trod enc Try.prog W 0 (fun _ => true) true n 3 ((cs.drop 0).take (Try.prog.cellsOf 3)) = xs[0]? := hel 0 _ rfl
  have h1 : DataW.trod enc Try.prog W 0 (fun _ => true) true n 3 ((cs.drop 1).take (Try.prog.cellsOf 3)) = xs[1]? := hel 1 _ rfl
  have h2 : DataW.trod enc Try.prog W 0 (fun _ => true) true n 9 ((cs.drop 2).take (Try.prog.cellsOf 9)) = xs[2]? := hel 2 _ rfl
  have h3 : DataW.trod enc Try.prog W 0 (fun _ => true) true n 9 ((cs.drop 3).take (Try.prog.cellsOf 9)) = xs[3]? := hel 3 _ rfl
  have h4 : DataW.trod enc Try.prog W 0 (fun _ => true) true n 32 ((cs.drop 4).take (Try.prog.cellsOf 32)) = xs[4]? := hel 4 _ rfl
  have h5 : DataW.trod enc Try.prog W 0 (fun _ => true) true n 5 ((cs.drop 5).take (Try.prog.cellsOf 5)) = xs[5]? := hel 5 _ rfl
  rw [cells3i] at h0 h1
  rw [cells9] at h2 h3
  rw [cells32] at h4
  rw [cells5i] at h5
  have hxl6 : xs.length = 6 := hxl
  clear hel hxl
  obtain ⟨x0, x1, x2, x3, x4, x5, rfl⟩ : ∃ x0 x1 x2 x3 x4 x5, xs = [x0, x1, x2, x3, x4, x5] := by
    match xs, hxl6 with
    | [x0, x1, x2, x3, x4, x5], _ => exact ⟨x0, x1, x2, x3, x4, x5, rfl⟩
  obtain ⟨c0, c1, c2, c3, c4, c5, rfl⟩ : ∃ c0 c1 c2 c3 c4 c5, cs = [c0, c1, c2, c3, c4, c5] := by
    match cs, hcl with
    | [c0, c1, c2, c3, c4, c5], _ => exact ⟨c0, c1, c2, c3, c4, c5, rfl⟩
  have h0' : DataW.trod enc Try.prog W 0 (fun _ => true) true n 3 [c0] = some x0 := h0
  have h1' : DataW.trod enc Try.prog W 0 (fun _ => true) true n 3 [c1] = some x1 := h1
  have h2' : DataW.trod enc Try.prog W 0 (fun _ => true) true n 9 [c2] = some x2 := h2
  have h3' : DataW.trod enc Try.prog W 0 (fun _ => true) true n 9 [c3] = some x3 := h3
  have h4' : DataW.trod enc Try.prog W 0 (fun _ => true) true n 32 [c4] = some x4 := h4
  have h5' : DataW.trod enc Try.prog W 0 (fun _ => true) true n 5 [c5] = some x5 := h5
  obtain ⟨k, e0, _, wk⟩ := DataW.trod_int Try.underlying3 h0'
  obtain ⟨m, e1, _, wm⟩ := DataW.trod_int Try.underlying3 h1'
  obtain ⟨sa, e2, e2', _⟩ := DataW.trod_string Try.underlying9 h2'
  obtain ⟨st, e3, e3', _⟩ := DataW.trod_string Try.underlying9 h3'
  obtain ⟨x, e5, _, wx⟩ := DataW.trod_int Try.underlying5 h5'
  simp only [List.cons.injEq, and_true] at e0 e1 e2 e3 e5
  subst e0
  subst e1
  subst e2
  subst e3
  subst e5
  obtain ⟨d4, p4⟩ := x4
  obtain ⟨a4, len4, cap4, rfl⟩ := slice_form h4'
  have ht' : DataW.Trod enc Try.prog W 0 (fun _ => true) true 32 (.slice a4 len4 cap4) d4 p4 := ⟨_, h4'⟩
  obtain ⟨zs, hbs, hby⟩ := bs_in ht'
  have hd : d = .agg [x0.1, x1.1, x2.1, x3.1, d4, x5.1] := by simpa using congrArg Prod.fst hx
  have hmem : ∀ (j : Nat) (t : TypeId) (dj : DataW H), ([3, 3, 9, 9, 32, 5] : List TypeId)[j]? = some t → ([x0.1, x1.1, x2.1, x3.1, d4, x5.1] : List (DataW H))[j]? = some dj → ∀ y ∈ DataW.weights Try.prog t dj, y ≤ reachBytes := fun j t dj ht hdj y hy => by
    refine hw y ?_
    rw [hd]
    have := DataW.weights_mem_each ht hdj y hy
    simp only [DataW.weights, Try.underlying34]
    exact this
  have hln := len_reach ht' (hmem 4 32 d4 rfl rfl)
  have e4 : zs.length = len4 := by obtain ⟨_, _, hv, _⟩ := hbs.len; simp only [Value.slice.injEq] at hv; exact hv.2.1.symm
  have hstr : ∀ (j : Nat) (dj : DataW H) (s : ByteArray), ([3, 3, 9, 9, 32, 5] : List TypeId)[j]? = some 9 → ([x0.1, x1.1, x2.1, x3.1, d4, x5.1] : List (DataW H))[j]? = some dj → dj = .lit (.string s.data.toList) → s.data.toList.length ≤ 140737488355328 := fun j dj s ht hdj he => by
    have := hmem j 9 dj ht hdj s.data.toList.length (by rw [he]; simp [DataW.weights])
    simp only [reachBytes] at this
    omega
  have la := hstr 2 x2.1 sa rfl rfl (by rw [e2'])
  have lt := hstr 3 x3.1 st rfl rfl (by rw [e3'])
  exact ⟨⟨k, m, sa.data.toList, st.data.toList, .slice a4 len4 cap4, zs, x⟩, by simp [Sp.cells, ← str_in], ⟨hbs, hby, by rw [e4]; exact hln, wm, la, lt, wf_u8 wx⟩⟩
theorem script_in {a : Option Addr} {len cap : Nat} {d : DataW H} {p : List MemPlace} (h0 : DataW.Trod enc Try.prog W 0 (fun _ => true) true 22 (.slice a len cap) d p) (hw : ∀ x ∈ DataW.weights Try.prog 22 d, x ≤ reachBytes) : ∃ ss, Sts W (.slice a len cap) ss := by
  obtain ⟨fuel, h⟩ := h0
  rcases DataW.trod_slice Try.underlying22 h with ⟨hc, _⟩ | ⟨a1, len1, cap1, elems, rest, n, _, hc, hx, _, hl, hm, hle, hel, _, _⟩
  · simp [Value.cells] at hc
    obtain ⟨rfl, rfl, rfl⟩ := hc
    exact ⟨[], none, 0, rfl, by simp, fun s hs => (by cases hs), fun e => absurd rfl e⟩
  · simp [Value.cells] at hc
    obtain ⟨rfl, rfl, rfl⟩ := hc
    simp only [Prod.mk.injEq] at hx
    rw [cells34] at hel
    have hlen : len ≤ 140737488355328 := by
      have := hw (((elems.map (·.1)).length + (rest.map (·.1)).length) * Try.prog.bytesOf 34) (by
        rw [hx.1]
        simp [DataW.weights, Try.underlying22])
      rw [bytes34] at this
      simp only [reachBytes] at this
      simp at this
      omega
    have each : ∀ i, i < len → ∃ s : Sp, s.ok W ∧ ∀ j u, s.cells[j]? = some u → W.cell? ((a1.add (i * 6)).add j) = some u := by
      intro i hi
      have h1 := hel i hi
      rw [List.getElem?_eq_getElem (by omega)] at h1
      obtain ⟨cs, hcs, ht⟩ := Option.bind_eq_some_iff.1 h1
      have hwi : ∀ x ∈ DataW.weights Try.prog 34 elems[i].1, x ≤ reachBytes := by
        intro x hxx
        refine hw x ?_
        rw [hx.1]
        simp only [DataW.weights, Try.underlying22, List.mem_cons, List.mem_append]
        exact Or.inr (Or.inl (weightsAll_mem (List.mem_map.2 ⟨elems[i], List.getElem_mem _, rfl⟩) x hxx))
      obtain ⟨s, rfl, hok⟩ := step_in (d := elems[i].1) (p := elems[i].2) ht hwi
      obtain ⟨_, hlc, hcell⟩ := World.cells?_some hcs
      refine ⟨s, hok, fun j u hu => ?_⟩
      have hj := (List.getElem?_eq_some_iff.1 hu).1
      rw [hcell j (by omega)]
      exact hu
    by_cases h0 : len = 0
    · subst h0
      exact ⟨[], some a1, cap, rfl, by simp, fun s hs => (by cases hs), fun e => absurd rfl e⟩
    · obtain ⟨f0, _, hf0⟩ := each 0 (by omega)
      have hc0 := hf0 0 _ rfl
      obtain ⟨b, off, spot⟩ := a1
      have hspot : spot = none := by simpa [Addr.add] using World.cell?_spot hc0
      subst hspot
      have hfl : ((List.range len).attach.map (fun i => Classical.choose (each i.1 (List.mem_range.1 i.2)))).length = len := by simp
      have hsp : ∀ i s, ((List.range len).attach.map (fun i => Classical.choose (each i.1 (List.mem_range.1 i.2))))[i]? = some s → s.ok W ∧ ∀ j u, s.cells[j]? = some u → W.cell? ⟨b, off + i * 6 + j, none⟩ = some u := by
        intro i r hr
        have hi : i < len := by have := (List.getElem?_eq_some_iff.1 hr).1; omega
        have hre : r = Classical.choose (each i hi) := by
          rw [List.getElem?_map, List.getElem?_eq_getElem (by simpa using hi)] at hr
          simp at hr
          exact hr.symm
        have hs := Classical.choose_spec (each i hi)
        rw [← hre] at hs
        refine ⟨hs.1, fun j u hu => ?_⟩
        have := hs.2 j u hu
        rw [Addr.add_lit, Addr.add_lit] at this
        exact this
      refine ⟨_, some ⟨b, off, none⟩, cap, by rw [hfl], by rw [hfl]; exact hlen, fun r hr => ?_, fun _ => ⟨b, off, rfl, fun i r hr => (hsp i r hr).2⟩⟩
      obtain ⟨i, hi⟩ := List.getElem?_of_mem hr
      exact (hsp i r hi).1
end Go.Proofs.Ythkgmnmdojmfgaa
