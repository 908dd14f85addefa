/-
  A field, and a slice of fields, that came in as an argument: opened into numbers and bytes (Fd, Fs).
-/
import Derived.Test.YtamifgaaalclcabDoorRowKit
import Derived.Test.YtamifgaaalclcabDoorFields
namespace Go.Proofs.YtamifgaaalclcabDoor
open Go.ChangeShapes Go.WideShapes Go.ChangeAt Go.RowKit

theorem cells3 : Tryd.prog.cellsOf 3 = 1 := by kernel_rfl
theorem cells5 : Tryd.prog.cellsOf 5 = 1 := by kernel_rfl
theorem cells24 : Tryd.prog.cellsOf 24 = 1 := by kernel_rfl
theorem cells28 : Tryd.prog.cellsOf 28 = 32 := by kernel_rfl
theorem cells30 : Tryd.prog.cellsOf 30 = 35 := by kernel_rfl
theorem bytes5 : Tryd.prog.bytesOf 5 = 1 := by kernel_rfl

section
variable {H : Type} {enc : TypeId × Value → H} {W : World}

/-- A slice of bytes that came in, with its datum's length. -/
theorem bs_in2 {fuel : Nat} {c : Value} {d : DataW H} {p : List MemPlace} (hf : DataW.trod enc Tryd.prog W 0 (fun _ => true) true fuel 24 [c] = some (d, p)) :
    ∃ zs, Bs W c zs ∧ Byt zs ∧ (zs = [] ∨ ∃ elems spare, d = .slice elems spare ∧ elems.length = zs.length) := by
  rcases open_ints Tryd.underlying24 Tryd.underlying5 (by kernel_rfl) hf with ⟨hcs, _⟩ | ⟨x, l, cap, zs, hcs, _, hl, hm, hz, hx, hcell, hwz⟩
  · simp at hcs
    subst hcs
    exact ⟨[], Or.inl ⟨rfl, none, 0, rfl, by simp [maxLen], fun _ => rfl⟩, ⟨(by intro z hz; cases hz), Or.inl rfl⟩⟩
  · simp at hcs
    subst hcs
    have hz' : zs.length = cap := by simpa using hz
    have htl : (zs.take l).length = l := by simp; omega
    simp only [Prod.mk.injEq] at hx
    refine ⟨zs.take l, ?_, fun z hz2 => wf_u8 (hwz z (List.mem_of_mem_take hz2)), Or.inr ⟨_, _, hx.1, by simp [lits]⟩⟩
    by_cases h0 : l = 0
    · subst h0
      exact Or.inl ⟨by simp, _, cap, rfl, hm, fun e => by cases e⟩
    · obtain ⟨b, off, spot⟩ := x
      have hc := hcell 0 (by omega)
      have hspot : spot = none := by simpa [Addr.add] using World.cell?_spot hc
      subst hspot
      refine Or.inr ⟨fun e => by rw [e] at htl; simp at htl; omega, b, off, cap, by rw [htl], by omega, hm, fun i hi => ?_⟩
      have hci := hcell i (by omega)
      rw [Addr.add_lit] at hci
      rw [hci]
      have : (zs.take l).getD i 0 = zs.getD i 0 := by simp [List.getD, show i < l by omega]
      rw [this]

theorem hash_in {fuel : Nat} {cs : List Value} {x : DataW H × List MemPlace} (hf : DataW.trod enc Tryd.prog W 0 (fun _ => true) true fuel 28 cs = some x) : ∃ zs, cs = cellsOf zs ∧ zs.length = 32 ∧ Byt zs := by
  obtain ⟨xs, m, _, _, hcl, hn, hel⟩ := DataW.trod_array Tryd.underlying28 hf
  rw [cells28] at hcl
  have each : ∀ i, i < 32 → ∃ z, cs[i]? = some (.int .u8 z) ∧ 0 ≤ z ∧ z < 256 := by
    intro i hi
    have h := hel i hi
    rw [cells5, Nat.mul_one] at h
    have hcs : (cs.drop i).take 1 = [cs[i]] := by
      rw [List.drop_eq_getElem_cons (by omega)]; rfl
    rw [hcs, List.getElem?_eq_getElem (by omega)] at h
    obtain ⟨z, e1, _, wz⟩ := DataW.trod_int Tryd.underlying5 h
    simp only [List.cons.injEq, and_true] at e1
    exact ⟨z, by rw [List.getElem?_eq_getElem (by omega), e1], wf_u8 wz⟩
  refine ⟨cs.map intOf, ?_, by simpa using hcl, ?_⟩
  · apply List.ext_getElem?
    intro i
    by_cases hi : i < 32
    · obtain ⟨z, hz, _⟩ := each i hi
      simp [cellsOf, hz, intOf]
    · rw [List.getElem?_eq_none (by omega), List.getElem?_eq_none (by simp [cellsOf]; omega)]
  · intro z hz
    obtain ⟨c, hc, rfl⟩ := List.mem_map.1 hz
    obtain ⟨i, hi, rfl⟩ := List.mem_iff_getElem.1 hc
    obtain ⟨z, hz, hb⟩ := each i (by omega)
    rw [List.getElem?_eq_getElem hi] at hz
    rw [Option.some.inj hz]
    exact hb

theorem field_in {fuel : Nat} {cs : List Value} {d : DataW H} {p : List MemPlace} (h : DataW.trod enc Tryd.prog W 0 (fun _ => true) true fuel 30 cs = some (d, p)) (hw : ∀ x ∈ DataW.weights Tryd.prog 30 d, x ≤ reachBytes) : ∃ f : Fd, cs = f.cells ∧ f.ok W := by
  obtain ⟨xs, n, _, hx, hcl, hxl, hel⟩ := DataW.trod_struct Tryd.underlying30 h
  rw [cells30] at hcl
  have h0 : DataW.trod enc Tryd.prog W 0 (fun _ => true) true n 3 ((cs.drop 0).take (Tryd.prog.cellsOf 3)) = xs[0]? := hel 0 _ rfl
  have h1 : DataW.trod enc Tryd.prog W 0 (fun _ => true) true n 3 ((cs.drop 1).take (Tryd.prog.cellsOf 3)) = xs[1]? := hel 1 _ rfl
  have h2 : DataW.trod enc Tryd.prog W 0 (fun _ => true) true n 24 ((cs.drop 2).take (Tryd.prog.cellsOf 24)) = xs[2]? := hel 2 _ rfl
  have h3 : DataW.trod enc Tryd.prog W 0 (fun _ => true) true n 28 ((cs.drop 3).take (Tryd.prog.cellsOf 28)) = xs[3]? := hel 3 _ rfl
  rw [cells3] at h0 h1
  rw [cells24] at h2
  rw [cells28] at h3
  have hxl4 : xs.length = 4 := hxl
  clear hel hxl
  obtain ⟨x0, x1, x2, x3, rfl⟩ : ∃ x0 x1 x2 x3, xs = [x0, x1, x2, x3] := by
    match xs, hxl4 with
    | [x0, x1, x2, x3], _ => exact ⟨x0, x1, x2, x3, rfl⟩
  obtain ⟨c0, c1, c2, hs, rfl⟩ : ∃ c0 c1 c2 hs, cs = c0 :: c1 :: c2 :: hs := by
    match cs, hcl with
    | c0 :: c1 :: c2 :: hs, _ => exact ⟨c0, c1, c2, hs, rfl⟩
  have hhl : hs.length = 32 := by simpa using hcl
  have h0' : DataW.trod enc Tryd.prog W 0 (fun _ => true) true n 3 [c0] = some x0 := h0
  have h1' : DataW.trod enc Tryd.prog W 0 (fun _ => true) true n 3 [c1] = some x1 := h1
  have h2' : DataW.trod enc Tryd.prog W 0 (fun _ => true) true n 24 [c2] = some x2 := h2
  have h3' : DataW.trod enc Tryd.prog W 0 (fun _ => true) true n 28 hs = some x3 := by
    have e : ((c0 :: c1 :: c2 :: hs).drop 3).take 32 = hs := by simp [List.take_of_length_le, hhl]
    rw [e] at h3; exact h3
  obtain ⟨k, e0, _, wk⟩ := DataW.trod_int Tryd.underlying3 h0'
  obtain ⟨m, e1, _, wm⟩ := DataW.trod_int Tryd.underlying3 h1'
  simp only [List.cons.injEq, and_true] at e0 e1
  subst e0
  subst e1
  obtain ⟨d2, p2⟩ := x2
  obtain ⟨zs, hbs, hby, hdl⟩ := bs_in2 h2'
  obtain ⟨hz, rfl, hhz, hhb⟩ := hash_in h3'
  have hsmall : zs.length ≤ 140737488355328 := by
    rcases hdl with rfl | ⟨elems, spare, rfl, hel⟩
    · simp
    · simp only [Prod.mk.injEq] at hx
      have hmem : (elems.length + spare.length) * Tryd.prog.bytesOf 5 ∈ DataW.weights Tryd.prog 30 d := by
        rw [hx.1]
        simp [DataW.weights, Tryd.underlying30, DataW.weightsEach, Tryd.underlying24]
      have := hw _ hmem
      rw [bytes5] at this
      simp only [reachBytes] at this
      omega
  exact ⟨⟨k, m, c2, zs, hz⟩, rfl, ⟨hbs, hby, hhz, hhb, (wf_i64 wk).1, (wf_i64 wk).2, (wf_i64 wm).1, (wf_i64 wm).2, hsmall⟩⟩
end
end Go.Proofs.YtamifgaaalclcabDoor
