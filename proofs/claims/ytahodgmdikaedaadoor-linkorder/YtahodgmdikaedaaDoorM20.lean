/-
  Joined from: OrIn.
-/
import Derived.Test.YtahodgmdikaedaaDoorM19
import Derived.Test.YtahodgmdikaedaaDoorM15
section
/-
  A row of numbers that came in as an argument: opened (Ir9); a row of rows: its room.
-/
namespace Go.Proofs.YtahodgmdikaedaaDoor
open Go.ChangeShapes Go.WideShapes Go.ChangeAt Go.RowKit
theorem ints_in9 {H : Type} {enc : TypeId × Value → H} {W : World} {a : Option Addr} {len cap : Nat} {d : DataW H} {p : List MemPlace} (h : DataW.Trod enc Tryd.prog W 0 (fun _ => true) true 34 (.slice a len cap) d p) (hw : ∀ x ∈ DataW.weights Tryd.prog 34 d, x ≤ reachBytes) :
    ∃ zs, Ir9 W (.slice a len cap) zs ∧ zs.length = len := by
  obtain ⟨fuel, hf⟩ := h
  rcases open_ints Tryd.underlying34 Tryd.underlying3 (by kernel_rfl) hf with ⟨hcs, _⟩ | ⟨x, l, c, zs, hcs, _, hl, hm, hz, hx, hcell, hwz⟩
  · simp [Value.cells] at hcs
    obtain ⟨rfl, rfl, rfl⟩ := hcs
    exact ⟨[], ⟨none, 0, rfl, by simp, fun h => absurd rfl h⟩, rfl⟩
  · simp [Value.cells] at hcs
    obtain ⟨rfl, rfl, rfl⟩ := hcs
    have hz' : zs.length = cap := by simpa using hz
    have htl : (zs.take len).length = len := by simp; omega
    have hb3 : Tryd.prog.bytesOf 3 = 8 := by kernel_rfl
    have hd : d = .slice (lits .i64 (zs.take len)) (lits .i64 (zs.drop len)) := congrArg Prod.fst hx
    have hmem : ((lits (H := H) .i64 (zs.take len)).length + (lits (H := H) .i64 (zs.drop len)).length) * Tryd.prog.bytesOf 3 ∈ DataW.weights Tryd.prog 34 d := by
      rw [hd]
      simp [DataW.weights, Tryd.underlying34]
    have hle := hw _ hmem
    rw [hb3] at hle
    simp only [reachBytes] at hle
    simp [lits] at hle
    have h64 : len ≤ 140737488355328 := by omega
    refine ⟨zs.take len, ⟨x, cap, by rw [htl], by rw [htl]; exact h64, fun hne => ?_⟩, htl⟩
    have h0 : 0 < len := by
      rcases Nat.eq_zero_or_pos len with e | e
      · subst e; simp at hne
      · exact e
    obtain ⟨b, off, spot⟩ := x
    have hc := hcell 0 (by omega)
    have hspot : spot = none := by simpa [Addr.add] using World.cell?_spot hc
    subst hspot
    have hc0 := hcell 0 (by omega)
    refine ⟨b, off, rfl, World.block_lt_of_cell? W _ hc0, fun i hi => ?_⟩
    rw [htl] at hi
    have hci := hcell i (by omega)
    rw [Addr.add_lit] at hci
    rw [hci]
    have : (zs.take len).getD i 0 = zs.getD i 0 := by simp [List.getD, show i < len by omega]
    rw [this]
theorem rows_cap33 {H : Type} {enc : TypeId × Value → H} {W : World} {a : Option Addr} {len cap : Nat} {d : DataW H} {p : List MemPlace} (h0 : DataW.Trod enc Tryd.prog W 0 (fun _ => true) true 33 (.slice a len cap) d p) : len ≤ cap ∧ cap ≤ maxLen := by
  obtain ⟨fuel, h⟩ := h0
  rcases DataW.trod_slice Tryd.underlying33 h with ⟨hc, _⟩ | ⟨a1, len1, cap1, elems, rest, n, _, hc, hx, _, hl, hm, hle, hel, _, _⟩
  · simp [Value.cells] at hc
    obtain ⟨rfl, rfl, rfl⟩ := hc
    exact ⟨Nat.le_refl _, Nat.zero_le _⟩
  · simp [Value.cells] at hc
    obtain ⟨rfl, rfl, rfl⟩ := hc
    exact ⟨by omega, by first | exact hm | exact hle | omega⟩
end Go.Proofs.YtahodgmdikaedaaDoor
end
