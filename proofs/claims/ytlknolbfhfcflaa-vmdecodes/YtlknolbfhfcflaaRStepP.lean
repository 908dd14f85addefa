/-
  The document's Step: plain words for a frame that runs.
-/
import Derived.Test.YtlknolbfhfcflaaRSt
import Derived.Test.YtlknolbfhfcflaaDoesA
import Derived.Deep.CutBlock
import Derived.Deep.RegionHeld3
namespace Go.Proofs.Ytlknolbfhfcflaa
open Go.RowKit
/-- How the document's loop ends. -/
def REnd (R : Option Mp) (q : Rm) : Prop := (q.bad = false ∧ ∃ m, R = some m ∧ q.cells = m.cells ∧ q.seed = m.seed ∧ q.won = wonI m.won ∧ ∀ a, m.won = some a → 0 ≤ a) ∨ (q.bad = true ∧ R = none)
theorem St4.ge {w W W' : World} {b M : Nat} {cv : Value} {cap fuel i0 i1 : Int} {cs os : List Value} (h : St4 w W b cv cap fuel cs i0 i1 os) (hb : Below M W W') (hM : b + 1 < M) : St4 w W' b cv cap fuel cs i0 i1 os :=
  ⟨h.g.below hb (by have := h.hb; omega), h.s.below hb (by have := h.hb; omega), h.i.below hb (by omega), h.r.below hb hM, h.below.trans (hb.mono (by have := h.hb; omega)), h.hb⟩
theorem mayI_win {x : Ii} {n : Int} (h : mayI x n = true) (h20 : x.1 = 20) : 0 ≤ x.2 := by
  obtain ⟨o, a⟩ := x
  simp only at h20
  subst h20
  have h2 : decide (0 ≤ a ∧ a ≤ 2) = true := h
  simp only [decide_eq_true_eq] at h2
  exact h2.1
theorem push_won {m m' : Mp} {v : Int} (h : m.push v = some m') : m'.won = m.won := by
  unfold Mp.push at h
  split at h
  · cases h; rfl
  · cases h
theorem doI_won {fr i0 i1 : Int} {n : Nat} {x : Ii} {m m' : Mp} (h : doI fr i0 i1 n x m = some m') (hm : m.won = none) (hx : mayI x (n : Int) = true) : ∀ a, m'.won = some a → 0 ≤ a := by
  intro a ha
  have h20 := mayI_win hx
  obtain ⟨c, sd, st, pc, won⟩ := m
  simp only at hm
  subst hm
  unfold doI at h
  by_cases c0 : x.1 = 1
  · rw [if_pos c0] at h
    (rcases st with _ | ⟨a1, _ | ⟨b1, st⟩⟩ <;> first | (cases h; cases ha) | (have e9 := push_won h; rw [e9] at ha; cases ha) | cases h)
  rw [if_neg c0] at h
  by_cases c1 : x.1 = 2
  · rw [if_pos c1] at h
    (rcases st with _ | ⟨a1, _ | ⟨b1, st⟩⟩ <;> first | (cases h; cases ha) | (have e9 := push_won h; rw [e9] at ha; cases ha) | cases h)
  rw [if_neg c1] at h
  by_cases c2 : x.1 = 3
  · rw [if_pos c2] at h
    (rcases st with _ | ⟨a1, _ | ⟨b1, st⟩⟩ <;> first | (cases h; cases ha) | (have e9 := push_won h; rw [e9] at ha; cases ha) | cases h)
  rw [if_neg c2] at h
  by_cases c3 : x.1 ≤ 11
  · rw [if_pos c3] at h
    (rcases st with _ | ⟨a1, _ | ⟨b1, st⟩⟩ <;> first | (cases h; cases ha) | (have e9 := push_won h; rw [e9] at ha; cases ha) | cases h)
  rw [if_neg c3] at h
  by_cases c4 : x.1 = 12
  · rw [if_pos c4] at h
    (rcases st with _ | ⟨a1, _ | ⟨b1, st⟩⟩ <;> first | (cases h; cases ha) | (have e9 := push_won h; rw [e9] at ha; cases ha) | cases h)
  rw [if_neg c4] at h
  by_cases c5 : x.1 = 13
  · rw [if_pos c5] at h
    (rcases st with _ | ⟨a1, _ | ⟨b1, st⟩⟩ <;> first | (cases h; cases ha) | (have e9 := push_won h; rw [e9] at ha; cases ha) | cases h)
  rw [if_neg c5] at h
  by_cases c6 : x.1 = 14
  · rw [if_pos c6] at h
    (rcases st with _ | ⟨a1, _ | ⟨b1, st⟩⟩ <;> first | (cases h; cases ha) | (have e9 := push_won h; rw [e9] at ha; cases ha) | cases h)
  rw [if_neg c6] at h
  by_cases c7 : x.1 = 15
  · rw [if_pos c7] at h
    (rcases st with _ | ⟨a1, _ | ⟨b1, st⟩⟩ <;> first | (cases h; cases ha) | (have e9 := push_won h; rw [e9] at ha; cases ha) | cases h)
  rw [if_neg c7] at h
  by_cases c8 : x.1 = 16
  · rw [if_pos c8] at h
    (rcases st with _ | ⟨a1, _ | ⟨b1, st⟩⟩ <;> first | (cases h; cases ha) | (have e9 := push_won h; rw [e9] at ha; cases ha) | cases h)
  rw [if_neg c8] at h
  by_cases c9 : x.1 = 17
  · rw [if_pos c9] at h
    (rcases st with _ | ⟨a1, _ | ⟨b1, st⟩⟩ <;> first | (cases h; cases ha) | (have e9 := push_won h; rw [e9] at ha; cases ha) | cases h)
  rw [if_neg c9] at h
  by_cases c10 : x.1 = 18
  · rw [if_pos c10] at h
    (rcases st with _ | ⟨a1, _ | ⟨b1, st⟩⟩ <;> first | (cases h; cases ha) | (have e9 := push_won h; rw [e9] at ha; cases ha) | cases h)
  rw [if_neg c10] at h
  by_cases c11 : x.1 = 19
  · rw [if_pos c11] at h
    (rcases st with _ | ⟨a1, _ | ⟨b1, st⟩⟩ <;> first | (cases h; cases ha) | (have e9 := push_won h; rw [e9] at ha; cases ha) | cases h)
  rw [if_neg c11] at h
  by_cases c12 : x.1 = 20
  · rw [if_pos c12] at h
    cases h; cases ha; exact h20 c12
  rw [if_neg c12] at h
  by_cases c13 : x.1 = 21
  · rw [if_pos c13] at h
    (rcases st with _ | ⟨a1, _ | ⟨b1, st⟩⟩ <;> first | (cases h; cases ha) | (have e9 := push_won h; rw [e9] at ha; cases ha) | cases h)
  rw [if_neg c13] at h
  (rcases st with _ | ⟨a1, _ | ⟨b1, st⟩⟩ <;> first | (cases h; cases ha) | (have e9 := push_won h; rw [e9] at ha; cases ha) | cases h)
/-- A state, and what lies behind it. -/
def rowT (t : Sp) (tl : List Value) : List Value := stV t ++ tl
theorem setT0 (t : Sp) (tl : List Value) (v : Int) : (rowT t tl).set 0 (.int .i64 v) = rowT { t with frame := v } tl := rfl
theorem setT18 {t : Sp} (h : t.cells.length = 16) (tl : List Value) (v : Bool) : (rowT t tl).set 18 (.bool v) = rowT { t with over := v } tl := by
  obtain ⟨fr, cells, seed, over, win⟩ := t
  obtain ⟨c0, c1, c2, c3, c4, c5, c6, c7, c8, c9, c10, c11, c12, c13, c14, c15, e⟩ := sixteen h
  simp only at e
  subst e
  rfl
theorem setT19 {t : Sp} (h : t.cells.length = 16) (tl : List Value) (v : Int) : (rowT t tl).set 19 (.int .i64 v) = rowT { t with win := v } tl := by
  obtain ⟨fr, cells, seed, over, win⟩ := t
  obtain ⟨c0, c1, c2, c3, c4, c5, c6, c7, c8, c9, c10, c11, c12, c13, c14, c15, e⟩ := sixteen h
  simp only at e
  subst e
  rfl
theorem getT {t : Sp} (h : t.cells.length = 16) (tl : List Value) : (rowT t tl)[0]? = some (.int .i64 t.frame) ∧ (rowT t tl)[1]? = some (.int .i32 (t.cells.getD 0 0)) ∧ (rowT t tl)[2]? = some (.int .i32 (t.cells.getD 1 0)) ∧ (rowT t tl)[18]? = some (.bool t.over) ∧ (rowT t tl)[19]? = some (.int .i64 t.win) ∧ ∀ i, (rowT t tl)[20 + i]? = tl[i]? := by
  obtain ⟨fr, cells, seed, over, win⟩ := t
  obtain ⟨c0, c1, c2, c3, c4, c5, c6, c7, c8, c9, c10, c11, c12, c13, c14, c15, e⟩ := sixteen h
  simp only at e
  subst e
  refine ⟨rfl, rfl, rfl, rfl, rfl, fun i => ?_⟩
  rw [rowT, List.getElem?_append_right (by simp [stV])]
  simp [stV]
theorem rowD_T (fr i0 i1 : Int) (sv : Value) (q : Rm) : rowD fr i0 i1 sv q = rowT ⟨fr, q.cells, q.seed, false, 0⟩ [.int .u16 i0, .int .u16 i1, sv, .int .i64 q.pc, .int .i64 q.won, .bool q.bad] := by
  simp [rowD, rowT, stV]
theorem rangeT {W : World} {M : Nat} {t : Sp} {tl : List Value} (h : Cw W M (rowT t tl) 66) : W.rangeAt M 0 (stV t) := by
  intro j u hu
  rw [Nat.zero_add, h.cell, rowT, List.getElem?_append_left (List.getElem?_eq_some_iff.1 hu).1]
  exact hu
/-- The machine ahead of its first instruction. -/
theorem Rw.start {W : World} {M : Nat} {s : Sp} (hs : s.Wf) (ho : s.over = false) (hw : s.win = 0) {i0 i1 : Int} (h : Cw W M (stV s ++ [.int .u16 i0, .int .u16 i1, .slice none 0 0, .int .i64 0, .int .i64 (-1), .bool false]) 66) : Rw W M s.frame i0 i1 [] ⟨s.cells, s.seed, ((0 : Nat) : Int), -1, false⟩ (.slice none 0 0) := by
  refine ⟨?_, ⟨hs.cells, hs.cin, hs.seed⟩, ⟨rfl, Or.inl ⟨rfl, rfl⟩⟩, fun x hx => (by cases hx), by simp⟩
  rw [rowD_T]
  obtain ⟨fr, cells, seed, over, win⟩ := s
  simp only at ho hw
  subst ho hw
  exact h
end Go.Proofs.Ytlknolbfhfcflaa
