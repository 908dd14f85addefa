/-
  A string's bytes in a row of their own, which bears a frozen mark behind its last place; and back.
-/
import Derived.Test.YtkfnmdhhiigceaaTkStr
import Derived.Lib.ConvBytes
namespace Go.Proofs.Ytkfnmdhhiigceaa
open Go.RowKit Dg
/-- Block g has the bytes zs, and more behind them; its mark stands behind all of it. -/
def Fz (w : World) (g cap : Nat) (zs : List Int) : Prop := ∃ (rest : List Value) (k : Nat), w.heap[g]? = some (.cells (cellsOf zs ++ rest).toArray 5 (k, k + 1)) ∧ zs.length + rest.length = cap ∧ cap ≤ k ∧ cap ≤ maxLen
theorem Fz.lt {w : World} {g cap : Nat} {zs : List Int} (h : Fz w g cap zs) : g < w.heap.size := by
  obtain ⟨_, _, h1, _⟩ := h
  exact (Array.getElem?_eq_some_iff.1 h1).1
theorem Fz.below {w w' : World} {g cap B : Nat} {zs : List Int} (h : Fz w g cap zs) (hb : Below B w w') (hg : g < B) : Fz w' g cap zs := by
  obtain ⟨r, k, h1, h2⟩ := h
  exact ⟨r, k, (hb.block g hg).trans h1, h2⟩
theorem Fz.cell {w : World} {g cap : Nat} {zs : List Int} (h : Fz w g cap zs) (i : Nat) (hi : i < zs.length) : w.cell? ⟨g, i, none⟩ = some (.int .u8 (zs.getD i 0)) := by
  obtain ⟨r, k, h1, _⟩ := h
  rw [cell_of_row w g i _ _ _ h1]
  have := cellsOf_get' zs i hi
  simp only [List.getElem?_toArray]
  rw [List.getElem?_append_left (by rw [cellsOf_length]; exact hi)]
  exact this
theorem Fz.frozen {w : World} {g cap : Nat} {zs : List Int} (h : Fz w g cap zs) (i : Nat) (hi : i < zs.length) : w.frozen? ⟨g, i, none⟩ = false := by
  obtain ⟨r, k, h1, h2, h3, _⟩ := h
  simp only [World.frozen?, h1]
  simp
  omega
theorem Fz.set {w : World} {g cap : Nat} {zs : List Int} (h : Fz w g cap zs) (i : Nat) (hi : i < zs.length) (c : Int) : Fz (w.setCell ⟨g, i, none⟩ (.int .u8 c)) g cap (zs.set i c) := by
  obtain ⟨r, k, h1, h2, h3⟩ := h
  refine ⟨r, k, ?_, by rw [List.length_set]; exact h2, h3⟩
  rw [← cellsOf_set, ← List.set_append_left _ _ (by rw [cellsOf_length]; exact hi)]
  simp only [World.setCell, Array.getElem?_modify, h1]
  simp
theorem Fz.bs {w : World} {g cap : Nat} {zs : List Int} (h : Fz w g cap zs) : Bs w (.slice (some ⟨g, 0, none⟩) zs.length cap) zs := by
  have hc := h.cell
  obtain ⟨r, k, _, h2, h3, h4⟩ := h
  by_cases e : zs = []
  · subst e
    exact Or.inl ⟨rfl, _, cap, rfl, h4, fun e => by cases e⟩
  · exact Or.inr ⟨e, g, 0, cap, rfl, by omega, h4, fun i hi => by rw [Nat.zero_add]; exact hc i hi⟩
/-- []byte of a string. -/
theorem conv_bytes (w : World) (zs : List Int) (hby : Byt zs) (hm : zs.length ≤ maxLen) : ∃ cap w', (convert 9 22 (.string (strOfNums zs))).run Try.prog w = .ok (.slice (some ⟨w.heap.size, 0, none⟩) zs.length cap) w' ∧ Fz w' w.heap.size cap zs ∧ Below w.heap.size w w' := by
  have hsz : (strOfNums zs).size = zs.length := strOfNums_size zs
  have hge := grownCap_ge w (strOfNums zs).size 0 5
  refine ⟨grownCap w (strOfNums zs).size 0 5, Lib.bytesWorld w 5 (strOfNums zs), ?_, ?_, ?_⟩
  · rw [← hsz]
    exact Lib.run_convert_string_bytes w 9 22 5 _ Try.underlying9 Try.underlying22 Try.underlying5
  · have e : ((strOfNums zs).data.map fun b => Value.int .u8 b.toNat).toList = cellsOf zs := by
      rw [Array.toList_map, strOfNums_data, List.map_map]
      unfold cellsOf
      apply List.map_congr_left
      intro z hz
      obtain ⟨h1, h2⟩ := hby z hz
      simp only [Function.comp]
      rw [UInt8.toNat_ofNat']
      congr 1
      omega
    have hk : (Lib.bytesCells w 5 (strOfNums zs)).size = grownCap w (strOfNums zs).size 0 5 := by
      simp only [Lib.bytesCells, Array.size_append, Array.size_map, Array.size_replicate]
      rw [show (strOfNums zs).data.size = (strOfNums zs).size from rfl]
      omega
    refine ⟨(Lib.bytesCells w 5 (strOfNums zs)).toList.drop zs.length, (Lib.bytesCells w 5 (strOfNums zs)).size, ?_, ?_, Nat.le_of_eq hk.symm, grownCap_le_maxLen w _ 0 5 (by omega)⟩
    · have h1 := Lib.bytesWorld_at_new w 5 (strOfNums zs)
      rw [h1]
      congr 2
      unfold Lib.bytesCells
      rw [Array.toList_append, e, List.drop_append_of_le_length (by rw [cellsOf_length]; exact Nat.le_refl _), List.drop_of_length_le (by rw [cellsOf_length]; exact Nat.le_refl _), List.nil_append, ← e]
      apply Array.ext'
      simp
    · have h3 : (Lib.bytesCells w 5 (strOfNums zs)).toList.length = (Lib.bytesCells w 5 (strOfNums zs)).size := Array.length_toList
      rw [List.length_drop, h3, hk]
      omega
  · exact ⟨rfl, rfl, rfl, by rw [Lib.bytesWorld_size]; omega, fun k hk => Lib.bytesWorld_at_old w 5 _ k hk⟩
/-- string of a row of bytes. -/
theorem conv_str {w : World} {v : Value} {zs : List Int} (h : Bs w v zs) : (convert 22 9 v).run Try.prog w = .ok (.string (strOfNums zs)) w := by
  rcases h with ⟨rfl, ao, cap, rfl, _⟩ | ⟨_, b, off, cap, rfl, _, _, hc⟩
  · rw [run_convert_bytes_string w 22 9 5 ao 0 cap Try.underlying22 Try.underlying5 Try.underlying9]
    cases ao with
    | none => rfl
    | some a =>
      have hl : (loadCells a 0).run Try.prog w = .ok (([] : List Int).map (Value.int .u8)).toArray w := by
        have := run_loadCells_list (P := Try.prog) w a [] (fun j v hj => by simp at hj)
        simpa using this
      rw [run_bytesToString w a 0 cap [] hl]
      rfl
  · exact run_convert_bytes_arg w 22 5 Try.underlying22 Try.underlying5 b off zs.length cap zs rfl hc 9 Try.underlying9
end Go.Proofs.Ytkfnmdhhiigceaa
