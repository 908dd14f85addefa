/-
  Arguments that came in, opened: a game, a state, what players do.
-/
import Derived.Test.YtbfldcieibdapabGreatM35
namespace Go.Proofs.YtbfldcieibdapabGreat
open Go.ChangeShapes Go.WideShapes Go.ChangeAt Go.RowKit
theorem cells31 : Tryz.prog.cellsOf 41 = 2 := by kernel_rfl
theorem cells29 : Tryz.prog.cellsOf 37 = 1 := by kernel_rfl
theorem cells52 : Tryz.prog.cellsOf 66 = 2 := by kernel_rfl
theorem cells3 : Tryz.prog.cellsOf 3 = 1 := by kernel_rfl
theorem cells4 : Tryz.prog.cellsOf 4 = 1 := by kernel_rfl
theorem cells21 : Tryz.prog.cellsOf 21 = 1 := by kernel_rfl
theorem cells22 : Tryz.prog.cellsOf 22 = 1 := by kernel_rfl
theorem cells24 : Tryz.prog.cellsOf 24 = 3 := by kernel_rfl
theorem cells25 : Tryz.prog.cellsOf 42 = 16 := by kernel_rfl
theorem cells26 : Tryz.prog.cellsOf 25 = 1 := by kernel_rfl
theorem cells28 : Tryz.prog.cellsOf 44 = 20 := by kernel_rfl
theorem wf_u16 {z : Int} (h : (Lit.int .u16 z).wf = true) : 0 ≤ z ∧ z < 65536 := by
  simp [Lit.wf, IntKind.min, IntKind.max, IntKind.signed, IntKind.bits] at h
  exact ⟨by omega, by omega⟩
theorem len2 {cs : List Value} (h : cs.length = 2) : ∃ a b, cs = [a, b] := by
  match cs, h with
  | [a, b], _ => exact ⟨a, b, rfl⟩
theorem len3 {cs : List Value} (h : cs.length = 3) : ∃ a b c, cs = [a, b, c] := by
  match cs, h with
  | [a, b, c], _ => exact ⟨a, b, c, rfl⟩
theorem len20 {cs : List Value} (h : cs.length = 20) : cs = (cs.drop 0).take 1 ++ ((cs.drop 1).take 16 ++ ((cs.drop 17).take 1 ++ ((cs.drop 18).take 1 ++ (cs.drop 19).take 1))) := by
  match cs, h with
  | [c0, c1, c2, c3, c4, c5, c6, c7, c8, c9, c10, c11, c12, c13, c14, c15, c16, c17, c18, c19], _ => rfl
section
variable {H : Type} {enc : TypeId × Value → H} {W : World}
set_option maxRecDepth 50000 in
theorem pair_cells {fuel : Nat} {cs : List Value} {x : DataW H × List MemPlace} (hf : DataW.trod enc Tryz.prog W 0 (fun _ => true) true fuel 41 cs = some x) : ∃ a b, cs = [.int .u16 a, .int .u16 b] ∧ (0 ≤ a ∧ a < 65536) ∧ (0 ≤ b ∧ b < 65536) := by
  obtain ⟨xs, m, _, _, hcl, hn, hel⟩ := DataW.trod_array Tryz.underlying41 hf
  rw [cells31] at hcl
  obtain ⟨c0, c1, rfl⟩ := len2 hcl
  have h0 := hel 0 (by omega)
  have h1 := hel 1 (by omega)
  rw [cells29] at h0 h1
  have h0' : DataW.trod enc Tryz.prog W 0 (fun _ => true) true m 37 [c0] = xs[0]? := h0
  have h1' : DataW.trod enc Tryz.prog W 0 (fun _ => true) true m 37 [c1] = xs[1]? := h1
  rw [List.getElem?_eq_getElem (by omega)] at h0' h1'
  obtain ⟨a, e0, _, wa⟩ := DataW.trod_int Tryz.underlying37 h0'
  obtain ⟨b, e1, _, wb⟩ := DataW.trod_int Tryz.underlying37 h1'
  simp only [List.cons.injEq, and_true] at e0 e1
  subst e0
  subst e1
  exact ⟨a, b, rfl, wf_u16 wa, wf_u16 wb⟩
theorem pair_in {v : Value} {d : DataW H} {p : List MemPlace} (h : DataW.Trod enc Tryz.prog W 0 (fun _ => true) true 41 v d p) : ∃ a b, v = .agg #[.int .u16 a, .int .u16 b] ∧ (0 ≤ a ∧ a < 65536) ∧ (0 ≤ b ∧ b < 65536) := by
  obtain ⟨fuel, hf⟩ := h
  obtain ⟨a, b, hc, ha, hb⟩ := pair_cells hf
  refine ⟨a, b, ?_, ha, hb⟩
  cases v with
  | agg xs =>
    have hc' : xs.toList = [.int .u16 a, .int .u16 b] := by simpa [Value.cells] using hc
    obtain ⟨l⟩ := xs
    simp only at hc'
    rw [hc']
  | _ => simp [Value.cells] at hc
theorem ins_in {fuel : Nat} {cs : List Value} {d : DataW H} {p : List MemPlace} (h : DataW.trod enc Tryz.prog W 0 (fun _ => true) true fuel 66 cs = some (d, p)) : ∃ s : Ii, cs = [.int .i64 s.1, .int .i64 s.2] := by
  obtain ⟨xs, n, _, hx, hcl, hxl, hel⟩ := DataW.trod_struct Tryz.underlying66 h
  rw [cells52] at hcl
  have h0 : DataW.trod enc Tryz.prog W 0 (fun _ => true) true n 3 ((cs.drop 0).take (Tryz.prog.cellsOf 3)) = xs[0]? := hel 0 _ rfl
  have h1 : DataW.trod enc Tryz.prog W 0 (fun _ => true) true n 3 ((cs.drop 1).take (Tryz.prog.cellsOf 3)) = xs[1]? := hel 1 _ rfl
  rw [cells3] at h0 h1
  have hxl2 : xs.length = 2 := hxl
  clear hel hxl
  obtain ⟨x0, x1, rfl⟩ : ∃ x0 x1, xs = [x0, x1] := by
    match xs, hxl2 with
    | [x0, x1], _ => exact ⟨x0, x1, rfl⟩
  obtain ⟨c0, c1, rfl⟩ := len2 hcl
  have h0' : DataW.trod enc Tryz.prog W 0 (fun _ => true) true n 3 [c0] = some x0 := h0
  have h1' : DataW.trod enc Tryz.prog W 0 (fun _ => true) true n 3 [c1] = some x1 := h1
  obtain ⟨k, e0, _, wk⟩ := DataW.trod_int Tryz.underlying3 h0'
  obtain ⟨i, e1, _, wi⟩ := DataW.trod_int Tryz.underlying3 h1'
  simp only [List.cons.injEq, and_true] at e0 e1
  subst e0
  subst e1
  exact ⟨(k, i), rfl⟩
theorem cells2_split : ∀ (l : List Ii) (j : Nat) (u : Value), (cells2 l)[j]? = some u → ∃ x, l[j / 2]? = some x ∧ ([.int .i64 x.1, .int .i64 x.2] : List Value)[j % 2]? = some u
  | [], j, u, h => by simp [cells2] at h
  | x :: l, 0, u, h => ⟨x, rfl, h⟩
  | x :: l, 1, u, h => ⟨x, rfl, h⟩
  | x :: l, j + 2, u, h => by
    obtain ⟨y, h1, h2⟩ := cells2_split l j u h
    exact ⟨y, by rw [show (j + 2) / 2 = j / 2 + 1 by omega]; exact h1, by rw [show (j + 2) % 2 = j % 2 by omega]; exact h2⟩
theorem ls_in {a : Option Addr} {len cap : Nat} {d : DataW H} {p : List MemPlace} {fuel : Nat} (h : DataW.trod enc Tryz.prog W 0 (fun _ => true) true fuel 22 [.slice a len cap] = some (d, p)) : ∃ l, Ls W (.slice a len cap) l := by
  rcases DataW.trod_slice Tryz.underlying22 h with ⟨hc, _⟩ | ⟨a1, len1, cap1, elems, rest, n, _, hc, hx, _, hl, hm, hle, hel, _, _⟩
  · simp at hc
    obtain ⟨rfl, rfl, rfl⟩ := hc
    exact ⟨[], Or.inl ⟨rfl, none, 0, rfl, by unfold maxLen; omega, fun _ => rfl⟩⟩
  · simp at hc
    obtain ⟨rfl, rfl, rfl⟩ := hc
    simp only [Prod.mk.injEq] at hx
    rw [cells52] at hel
    have each : ∀ i, i < len → ∃ s : Ii, ∀ (j : Nat) (u : Value), ([.int .i64 s.1, .int .i64 s.2] : List Value)[j]? = some u → W.cell? ((a1.add (i * 2)).add j) = some u := by
      intro i hi
      have h1 := hel i hi
      rw [List.getElem?_eq_getElem (by omega)] at h1
      obtain ⟨cs, hcs, ht⟩ := Option.bind_eq_some_iff.1 h1
      obtain ⟨s, rfl⟩ := ins_in (d := elems[i].1) (p := elems[i].2) ht
      obtain ⟨_, hlc, hcell⟩ := World.cells?_some hcs
      refine ⟨s, fun j u hu => ?_⟩
      have hj := (List.getElem?_eq_some_iff.1 hu).1
      rw [hcell j (by omega)]
      exact hu
    by_cases h0 : len = 0
    · subst h0
      exact ⟨[], Or.inl ⟨rfl, some a1, cap, rfl, hm, fun e => by cases e⟩⟩
    · obtain ⟨f0, hf0⟩ := each 0 (by omega)
      have hc0 := hf0 0 _ rfl
      obtain ⟨b, off, spot⟩ := a1
      have hspot : spot = none := by simpa [Addr.add] using World.cell?_spot hc0
      subst hspot
      have hfl : ((List.range len).attach.map (fun i => Classical.choose (each i.1 (List.mem_range.1 i.2)))).length = len := by simp
      have hsp : ∀ (i : Nat) (s : Ii), ((List.range len).attach.map (fun i => Classical.choose (each i.1 (List.mem_range.1 i.2))))[i]? = some s → ∀ (j : Nat) (u : Value), ([.int .i64 s.1, .int .i64 s.2] : List Value)[j]? = some u → W.cell? ⟨b, off + i * 2 + j, none⟩ = some u := by
        intro i r hr
        have hi : i < len := by have := (List.getElem?_eq_some_iff.1 hr).1; omega
        have hre : r = Classical.choose (each i hi) := by
          rw [List.getElem?_map, List.getElem?_eq_getElem (by simpa using hi)] at hr
          simp at hr
          exact hr.symm
        have hs := Classical.choose_spec (each i hi)
        rw [← hre] at hs
        intro j u hu
        have := hs j u hu
        rw [Addr.add_lit, Addr.add_lit] at this
        exact this
      refine ⟨_, Or.inr ⟨fun e => ?_, b, off, cap, by rw [hfl], by rw [hfl]; exact hl, hm, fun j u hu => ?_⟩⟩
      · have := congrArg List.length e
        rw [hfl] at this
        exact h0 this
      · obtain ⟨x, hx1, hx2⟩ := cells2_split _ j u hu
        have := hsp (j / 2) x hx1 (j % 2) u hx2
        rw [show off + j / 2 * 2 + j % 2 = off + j by omega] at this
        exact this

theorem arr_in {fuel : Nat} {cs : List Value} {x : DataW H × List MemPlace} (hf : DataW.trod enc Tryz.prog W 0 (fun _ => true) true fuel 42 cs = some x) : ∃ zs : List Int, cs = zs.map (Value.int .i32) ∧ zs.length = 16 ∧ ∀ z ∈ zs, In32 z := by
  obtain ⟨xs, m, _, _, hcl, hn, hel⟩ := DataW.trod_array Tryz.underlying42 hf
  rw [cells25] at hcl
  have each : ∀ i, i < 16 → ∃ z, cs[i]? = some (.int .i32 z) ∧ In32 z := by
    intro i hi
    have h := hel i hi
    rw [cells21, Nat.mul_one] at h
    have hcs : (cs.drop i).take 1 = [cs[i]] := by
      rw [List.drop_eq_getElem_cons (by omega)]; rfl
    rw [hcs, List.getElem?_eq_getElem (by omega)] at h
    obtain ⟨z, e1, _, wz⟩ := DataW.trod_int Tryz.underlying21 h
    simp only [List.cons.injEq, and_true] at e1
    exact ⟨z, by rw [List.getElem?_eq_getElem (by omega), e1], bounds_i32 wz⟩
  refine ⟨cs.map intOf, ?_, by simpa using hcl, ?_⟩
  · apply List.ext_getElem?
    intro i
    by_cases hi : i < 16
    · obtain ⟨z, hz, _⟩ := each i hi
      simp [hz, intOf]
    · rw [List.getElem?_eq_none (by omega), List.getElem?_eq_none (by simp; omega)]
  · intro z hz
    obtain ⟨c, hc, rfl⟩ := List.mem_map.1 hz
    obtain ⟨i, hi, rfl⟩ := List.mem_iff_getElem.1 hc
    obtain ⟨z, hz, hb⟩ := each i (by omega)
    rw [List.getElem?_eq_getElem hi] at hz
    rw [Option.some.inj hz]
    exact hb
theorem state_in {v : Value} {d : DataW H} {p : List MemPlace} (h : DataW.Trod enc Tryz.prog W 0 (fun _ => true) true 44 v d p) : ∃ s : Sp, v = .agg (stV s).toArray ∧ s.Wf := by
  obtain ⟨fuel, hf⟩ := h
  have key : ∃ s : Sp, v.cells.toList = stV s ∧ s.Wf := by
    generalize v.cells.toList = cs at hf
    obtain ⟨xs, n, _, hx, hcl, hxl, hel⟩ := DataW.trod_struct Tryz.underlying44 hf
    rw [cells28] at hcl
    have h0 : DataW.trod enc Tryz.prog W 0 (fun _ => true) true n 3 ((cs.drop 0).take (Tryz.prog.cellsOf 3)) = xs[0]? := hel 0 _ rfl
    have h1 : DataW.trod enc Tryz.prog W 0 (fun _ => true) true n 42 ((cs.drop 1).take (Tryz.prog.cellsOf 42)) = xs[1]? := hel 1 _ rfl
    have h2 : DataW.trod enc Tryz.prog W 0 (fun _ => true) true n 25 ((cs.drop 17).take (Tryz.prog.cellsOf 25)) = xs[2]? := hel 2 _ rfl
    have h3 : DataW.trod enc Tryz.prog W 0 (fun _ => true) true n 4 ((cs.drop 18).take (Tryz.prog.cellsOf 4)) = xs[3]? := hel 3 _ rfl
    have h4 : DataW.trod enc Tryz.prog W 0 (fun _ => true) true n 3 ((cs.drop 19).take (Tryz.prog.cellsOf 3)) = xs[4]? := hel 4 _ rfl
    rw [cells3] at h0 h4
    rw [cells25] at h1
    rw [cells26] at h2
    rw [cells4] at h3
    have hxl5 : xs.length = 5 := hxl
    rw [List.getElem?_eq_getElem (by omega)] at h0 h1 h2 h3 h4
    obtain ⟨fr, e0, _, _⟩ := DataW.trod_int Tryz.underlying3 h0
    obtain ⟨zs, e1, hz, hzi⟩ := arr_in h1
    obtain ⟨sd, e2, _, w2⟩ := DataW.trod_int Tryz.underlying25 h2
    obtain ⟨ov, e3, _⟩ := DataW.trod_bool Tryz.underlying4 h3
    obtain ⟨wn, e4, _, _⟩ := DataW.trod_int Tryz.underlying3 h4
    refine ⟨⟨fr, zs, sd, ov, wn⟩, ?_, ⟨hz, hzi, bounds_u32 w2⟩⟩
    have s1 := len20 hcl
    rw [s1, e0, e1, e2, e3, e4]
    rfl
  obtain ⟨s, hc, hw⟩ := key
  refine ⟨s, ?_, hw⟩
  cases v with
  | agg xs =>
    have hc' : xs.toList = stV s := by simpa [Value.cells] using hc
    obtain ⟨l⟩ := xs
    simp only at hc'
    rw [hc']
  | _ => simp [Value.cells, stV] at hc
theorem game_in {v : Value} {d : DataW H} {p : List MemPlace} (h : DataW.Trod enc Tryz.prog W 0 (fun _ => true) true 24 v d p) : ∃ cv l cap fuel, v = gameV cv cap fuel ∧ Ls W cv l := by
  obtain ⟨fuel, hf⟩ := h
  have key : ∃ cv l cap fuel, v.cells.toList = [cv, .int .i64 cap, .int .i64 fuel] ∧ Ls W cv l := by
    generalize v.cells.toList = cs at hf
    obtain ⟨xs, n, _, hx, hcl, hxl, hel⟩ := DataW.trod_struct Tryz.underlying24 hf
    rw [cells24] at hcl
    have h0 : DataW.trod enc Tryz.prog W 0 (fun _ => true) true n 22 ((cs.drop 0).take (Tryz.prog.cellsOf 22)) = xs[0]? := hel 0 _ rfl
    have h1 : DataW.trod enc Tryz.prog W 0 (fun _ => true) true n 3 ((cs.drop 1).take (Tryz.prog.cellsOf 3)) = xs[1]? := hel 1 _ rfl
    have h2 : DataW.trod enc Tryz.prog W 0 (fun _ => true) true n 3 ((cs.drop 2).take (Tryz.prog.cellsOf 3)) = xs[2]? := hel 2 _ rfl
    rw [cells22] at h0
    rw [cells3] at h1 h2
    have hxl3 : xs.length = 3 := hxl
    obtain ⟨c0, c1, c2, rfl⟩ := len3 hcl
    rw [List.getElem?_eq_getElem (by omega)] at h0 h1 h2
    have h0' : DataW.trod enc Tryz.prog W 0 (fun _ => true) true n 22 [c0] = some (xs[0].1, xs[0].2) := h0
    obtain ⟨a, e1, _, _⟩ := DataW.trod_int Tryz.underlying3 h1
    obtain ⟨b, e2, _, _⟩ := DataW.trod_int Tryz.underlying3 h2
    have e1' : [c1] = [.int .i64 a] := e1
    have e2' : [c2] = [.int .i64 b] := e2
    simp only [List.cons.injEq, and_true] at e1' e2'
    subst e1' e2'
    obtain ⟨ao, len, cp, rfl⟩ : ∃ ao len cp, c0 = .slice ao len cp := by
      rcases DataW.trod_slice Tryz.underlying22 h0' with ⟨hc, _⟩ | ⟨a1, len1, cap1, elems, rest, n, _, hc, _⟩
      · simp at hc; exact ⟨_, _, _, hc⟩
      · simp at hc; exact ⟨_, _, _, hc⟩
    obtain ⟨l, hl⟩ := ls_in h0'
    exact ⟨_, l, a, b, rfl, hl⟩
  obtain ⟨cv, l, a, b, hc, hl⟩ := key
  refine ⟨cv, l, a, b, ?_, hl⟩
  cases v with
  | agg xs =>
    have hc' : xs.toList = [cv, .int .i64 a, .int .i64 b] := by simpa [Value.cells] using hc
    obtain ⟨l⟩ := xs
    simp only at hc'
    rw [hc']
    rfl
  | _ => simp [Value.cells] at hc
end
end Go.Proofs.YtbfldcieibdapabGreat
