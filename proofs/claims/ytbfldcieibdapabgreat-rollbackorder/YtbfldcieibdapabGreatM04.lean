/-
  Joined from: VmMem.
-/
import Derived.Test.YtbfldcieibdapabGreatM02
import Derived.Test.YtbfldcieibdapabGreatM03
section
/-
  The program's machine in memory (Mw); lay and take, by contracts.
-/
namespace Go.Proofs.YtbfldcieibdapabGreat
open Go.RowKit

/-- The machine's cells. -/
def rowM (cv : Value) (i0 i1 fr : Int) (p : Pm) : List Value :=
  [cv, .int .u16 i0, .int .u16 i1, .int .i64 fr] ++ (p.cells.map (Value.int .i32) ++ ([.int .u32 p.seed, .bool p.over, .int .i64 p.win] ++ (p.stk.map (Value.int .i32) ++ [.int .i64 (p.high : Int), .int .i64 p.pc, .int .i64 p.err])))
variable {cv : Value} {i0 i1 fr : Int} {p : Pm}
theorem rowM_len (h : p.Wf) : (rowM cv i0 i1 fr p).length = 58 := by simp [rowM, h.cells, h.stk]
theorem getM_cell (h : p.Wf) (i : Nat) (hi : i < 16) : (rowM cv i0 i1 fr p)[4 + i]? = some (.int .i32 (p.cells.getD i 0)) := by
  have hc := h.cells
  rw [rowM, List.getElem?_append_right (by simp), List.getElem?_append_left (by simp [hc]; omega)]
  simp only [List.length_cons, List.length_nil, List.getElem?_map]
  rw [show 4 + i - (0 + 1 + 1 + 1 + 1) = i by omega, List.getD, List.getElem?_eq_getElem (by omega)]
  rfl
theorem getM_stk (h : p.Wf) (i : Nat) (hi : i < 32) : (rowM cv i0 i1 fr p)[23 + i]? = some (.int .i32 (p.stk.getD i 0)) := by
  have hc := h.cells
  have hs := h.stk
  rw [rowM, List.getElem?_append_right (by simp; omega), List.getElem?_append_right (by simp [hc]; omega), List.getElem?_append_right (by simp [hc]; omega), List.getElem?_append_left (by simp [hc, hs]; omega)]
  simp only [List.length_cons, List.length_nil, List.getElem?_map, List.length_map, hc]
  rw [show 23 + i - (0 + 1 + 1 + 1 + 1) - 16 - (0 + 1 + 1 + 1) = i by omega, List.getD, List.getElem?_eq_getElem (by omega)]
  rfl
theorem getM_mid (h : p.Wf) (i : Nat) (hi : i < 3) : (rowM cv i0 i1 fr p)[20 + i]? = [Value.int .u32 p.seed, .bool p.over, .int .i64 p.win][i]? := by
  have hc := h.cells
  rw [rowM, List.getElem?_append_right (by simp; omega), List.getElem?_append_right (by simp [hc]; omega), List.getElem?_append_left (by simp [hc]; omega)]
  simp only [List.length_cons, List.length_nil, List.length_map, hc]
  rw [show 20 + i - (0 + 1 + 1 + 1 + 1) - 16 = i by omega]
theorem getM_end (h : p.Wf) (i : Nat) : (rowM cv i0 i1 fr p)[55 + i]? = [Value.int .i64 (p.high : Int), .int .i64 p.pc, .int .i64 p.err][i]? := by
  have hc := h.cells
  have hs := h.stk
  rw [rowM, List.getElem?_append_right (by simp; omega), List.getElem?_append_right (by simp [hc]; omega), List.getElem?_append_right (by simp [hc]; omega), List.getElem?_append_right (by simp [hc, hs]; omega)]
  simp only [List.length_cons, List.length_nil, List.length_map, hc, hs]
  rw [show 55 + i - (0 + 1 + 1 + 1 + 1) - 16 - (0 + 1 + 1 + 1) - 32 = i by omega]
theorem setM_cell (h : p.Wf) (i : Nat) (hi : i < 16) (v : Int) : (rowM cv i0 i1 fr p).set (4 + i) (.int .i32 v) = rowM cv i0 i1 fr { p with cells := p.cells.set i v } := by
  have hc := h.cells
  rw [rowM, List.set_append_right _ _ (by simp), List.set_append_left _ _ (by simp [hc]; omega)]
  simp only [List.length_cons, List.length_nil, rowM, List.map_set]
  rw [show 4 + i - (0 + 1 + 1 + 1 + 1) = i by omega]
theorem setM_stk (h : p.Wf) (i : Nat) (hi : i < 32) (v : Int) : (rowM cv i0 i1 fr p).set (23 + i) (.int .i32 v) = rowM cv i0 i1 fr { p with stk := p.stk.set i v } := by
  have hc := h.cells
  have hs := h.stk
  rw [rowM, List.set_append_right _ _ (by simp; omega), List.set_append_right _ _ (by simp [hc]; omega), List.set_append_right _ _ (by simp [hc]; omega), List.set_append_left _ _ (by simp [hc, hs]; omega)]
  simp only [List.length_cons, List.length_nil, rowM, List.map_set, List.length_map, hc]
  rw [show 23 + i - (0 + 1 + 1 + 1 + 1) - 16 - (0 + 1 + 1 + 1) = i by omega]
theorem setM_mid (h : p.Wf) (i : Nat) (hi : i < 3) (v : Value) : (rowM cv i0 i1 fr p).set (20 + i) v = [cv, .int .u16 i0, .int .u16 i1, .int .i64 fr] ++ (p.cells.map (Value.int .i32) ++ (([.int .u32 p.seed, .bool p.over, .int .i64 p.win] : List Value).set i v ++ (p.stk.map (Value.int .i32) ++ [.int .i64 (p.high : Int), .int .i64 p.pc, .int .i64 p.err]))) := by
  have hc := h.cells
  rw [rowM, List.set_append_right _ _ (by simp; omega), List.set_append_right _ _ (by simp [hc]; omega), List.set_append_left _ _ (by simp [hc]; omega)]
  simp only [List.length_cons, List.length_nil, List.length_map, hc]
  rw [show 20 + i - (0 + 1 + 1 + 1 + 1) - 16 = i by omega]
theorem setM_end (h : p.Wf) (i : Nat) (v : Value) : (rowM cv i0 i1 fr p).set (55 + i) v = [cv, .int .u16 i0, .int .u16 i1, .int .i64 fr] ++ (p.cells.map (Value.int .i32) ++ ([.int .u32 p.seed, .bool p.over, .int .i64 p.win] ++ (p.stk.map (Value.int .i32) ++ ([.int .i64 (p.high : Int), .int .i64 p.pc, .int .i64 p.err] : List Value).set i v))) := by
  have hc := h.cells
  have hs := h.stk
  rw [rowM, List.set_append_right _ _ (by simp; omega), List.set_append_right _ _ (by simp [hc]; omega), List.set_append_right _ _ (by simp [hc]; omega), List.set_append_right _ _ (by simp [hc, hs]; omega)]
  simp only [List.length_cons, List.length_nil, List.length_map, hc, hs]
  rw [show 55 + i - (0 + 1 + 1 + 1 + 1) - 16 - (0 + 1 + 1 + 1) - 32 = i by omega]

/-- Block g is the machine p, of the program cv, with what the players do and the frame's number. -/
structure Mw (w : World) (g : Nat) (cv : Value) (i0 i1 fr : Int) (p : Pm) : Prop where
  row : Cw w g (rowM cv i0 i1 fr p) 114
  wf : p.Wf
variable {w w' : World} {g : Nat}
theorem Mw.lt (h : Mw w g cv i0 i1 fr p) : g < w.heap.size := h.row.lt
theorem Mw.keep (h : Mw w g cv i0 i1 fr p) (hk : w'.heap[g]? = w.heap[g]?) : Mw w' g cv i0 i1 fr p := ⟨h.row.keep hk, h.wf⟩
theorem Mw.cell (h : Mw w g cv i0 i1 fr p) (i : Nat) (hi : i < 16) : w.cell? ⟨g, 4 + i, none⟩ = some (.int .i32 (p.cells.getD i 0)) := (h.row.cell _).trans (getM_cell h.wf i hi)
theorem Mw.stk (h : Mw w g cv i0 i1 fr p) (i : Nat) (hi : i < 32) : w.cell? ⟨g, 23 + i, none⟩ = some (.int .i32 (p.stk.getD i 0)) := (h.row.cell _).trans (getM_stk h.wf i hi)
theorem Mw.code (h : Mw w g cv i0 i1 fr p) : w.cell? ⟨g, 0, none⟩ = some cv := (h.row.cell 0).trans rfl
theorem Mw.in0 (h : Mw w g cv i0 i1 fr p) : w.cell? ⟨g, 1, none⟩ = some (.int .u16 i0) := (h.row.cell 1).trans rfl
theorem Mw.in1 (h : Mw w g cv i0 i1 fr p) : w.cell? ⟨g, 2, none⟩ = some (.int .u16 i1) := (h.row.cell 2).trans rfl
theorem Mw.frame (h : Mw w g cv i0 i1 fr p) : w.cell? ⟨g, 3, none⟩ = some (.int .i64 fr) := (h.row.cell 3).trans rfl
theorem Mw.seed (h : Mw w g cv i0 i1 fr p) : w.cell? ⟨g, 20, none⟩ = some (.int .u32 p.seed) := (h.row.cell _).trans (getM_mid h.wf 0 (by omega))
theorem Mw.over (h : Mw w g cv i0 i1 fr p) : w.cell? ⟨g, 21, none⟩ = some (.bool p.over) := (h.row.cell _).trans (getM_mid h.wf 1 (by omega))
theorem Mw.win (h : Mw w g cv i0 i1 fr p) : w.cell? ⟨g, 22, none⟩ = some (.int .i64 p.win) := (h.row.cell _).trans (getM_mid h.wf 2 (by omega))
theorem Mw.high (h : Mw w g cv i0 i1 fr p) : w.cell? ⟨g, 55, none⟩ = some (.int .i64 (p.high : Int)) := (h.row.cell _).trans (getM_end h.wf 0)
theorem Mw.pc (h : Mw w g cv i0 i1 fr p) : w.cell? ⟨g, 56, none⟩ = some (.int .i64 p.pc) := (h.row.cell _).trans (getM_end h.wf 1)
theorem Mw.err (h : Mw w g cv i0 i1 fr p) : w.cell? ⟨g, 57, none⟩ = some (.int .i64 p.err) := (h.row.cell _).trans (getM_end h.wf 2)
theorem Mw.setCell (h : Mw w g cv i0 i1 fr p) (i : Nat) (hi : i < 16) (v : Int) (hv : In32 v) : Mw (w.setCell ⟨g, 4 + i, none⟩ (.int .i32 v)) g cv i0 i1 fr { p with cells := p.cells.set i v } :=
  ⟨by have := h.row.set (4 + i) (.int .i32 v); rwa [setM_cell h.wf i hi] at this, ⟨by simpa using h.wf.cells, set_in h.wf.cin _ hv, h.wf.stk, h.wf.sin, h.wf.high, h.wf.seed⟩⟩
theorem Mw.setStk (h : Mw w g cv i0 i1 fr p) (i : Nat) (hi : i < 32) (v : Int) (hv : In32 v) : Mw (w.setCell ⟨g, 23 + i, none⟩ (.int .i32 v)) g cv i0 i1 fr { p with stk := p.stk.set i v } :=
  ⟨by have := h.row.set (23 + i) (.int .i32 v); rwa [setM_stk h.wf i hi] at this, ⟨h.wf.cells, h.wf.cin, by simpa using h.wf.stk, set_in h.wf.sin _ hv, h.wf.high, h.wf.seed⟩⟩
theorem Mw.setSeed (h : Mw w g cv i0 i1 fr p) (v : Int) (hv : 0 ≤ v ∧ v < 4294967296) : Mw (w.setCell ⟨g, 20, none⟩ (.int .u32 v)) g cv i0 i1 fr { p with seed := v } :=
  ⟨by have := h.row.set (20 + 0) (.int .u32 v); rwa [setM_mid h.wf 0 (by omega)] at this, ⟨h.wf.cells, h.wf.cin, h.wf.stk, h.wf.sin, h.wf.high, hv⟩⟩
theorem Mw.setOver (h : Mw w g cv i0 i1 fr p) (v : Bool) : Mw (w.setCell ⟨g, 21, none⟩ (.bool v)) g cv i0 i1 fr { p with over := v } :=
  ⟨by have := h.row.set (20 + 1) (.bool v); rwa [setM_mid h.wf 1 (by omega)] at this, ⟨h.wf.cells, h.wf.cin, h.wf.stk, h.wf.sin, h.wf.high, h.wf.seed⟩⟩
theorem Mw.setWin (h : Mw w g cv i0 i1 fr p) (v : Int) : Mw (w.setCell ⟨g, 22, none⟩ (.int .i64 v)) g cv i0 i1 fr { p with win := v } :=
  ⟨by have := h.row.set (20 + 2) (.int .i64 v); rwa [setM_mid h.wf 2 (by omega)] at this, ⟨h.wf.cells, h.wf.cin, h.wf.stk, h.wf.sin, h.wf.high, h.wf.seed⟩⟩
theorem Mw.setHigh (h : Mw w g cv i0 i1 fr p) (k : Nat) (hk : k ≤ 32) : Mw (w.setCell ⟨g, 55, none⟩ (.int .i64 (k : Int))) g cv i0 i1 fr { p with high := k } :=
  ⟨by have := h.row.set (55 + 0) (.int .i64 (k : Int)); rwa [setM_end h.wf 0] at this, ⟨h.wf.cells, h.wf.cin, h.wf.stk, h.wf.sin, hk, h.wf.seed⟩⟩
theorem Mw.setPc (h : Mw w g cv i0 i1 fr p) (v : Int) : Mw (w.setCell ⟨g, 56, none⟩ (.int .i64 v)) g cv i0 i1 fr { p with pc := v } :=
  ⟨by have := h.row.set (55 + 1) (.int .i64 v); rwa [setM_end h.wf 1] at this, ⟨h.wf.cells, h.wf.cin, h.wf.stk, h.wf.sin, h.wf.high, h.wf.seed⟩⟩
theorem Mw.setErr (h : Mw w g cv i0 i1 fr p) (v : Int) : Mw (w.setCell ⟨g, 57, none⟩ (.int .i64 v)) g cv i0 i1 fr { p with err := v } :=
  ⟨by have := h.row.set (55 + 2) (.int .i64 v); rwa [setM_end h.wf 2] at this, ⟨h.wf.cells, h.wf.cin, h.wf.stk, h.wf.sin, h.wf.high, h.wf.seed⟩⟩

set_option maxHeartbeats 1000000 in
theorem lay_any (v : Int) (hv : In32 v) (h : Mw w g cv i0 i1 fr p) :
    Calls Tryz.prog 121 #[.pointer (some ⟨g, 0, none⟩), .int .i32 v] w fun e w' => e = .returned (.tuple #[]) ∧ Mw w' g cv i0 i1 fr (p.lay v) ∧ Only g w w' := by
  have c1 := h.high
  have c2 := h.err
  have f1 := h.row.frozen 55
  have f2 := h.row.frozen 57
  have hh := h.wf.high
  obtain ⟨k, hk⟩ : ∃ k, k = p.high := ⟨_, rfl⟩
  by_cases e : k = 32
  · have HM : Hid (Mw (w.setCell ⟨g, 57, none⟩ (.int .i64 11)) g cv i0 i1 fr (p.lay v)) := by
      have := h.setErr 11
      unfold Pm.lay
      rw [if_pos (by omega)]
      exact this
    rw [← hk, e] at c1
    clear h hk hh
    go_enter Tryz.func121, Tryz.ntmps121
    go_wp2
    exact bodyPost_ret (results_none rfl _ _ _) rfl ⟨rfl, HM.out, Only.set _ _ _ _⟩
  · have hk32 : k < 32 := by omega
    have HM : Hid (Mw ((w.setCell ⟨g, 23 + k, none⟩ (.int .i32 v)).setCell ⟨g, 55, none⟩ (.int .i64 ((k + 1 : Nat) : Int))) g cv i0 i1 fr (p.lay v)) := by
      have h1 := (h.setStk k hk32 v hv).setHigh (k + 1) (by omega)
      unfold Pm.lay
      rw [if_neg (by omega), ← hk]
      exact h1
    have c3 := h.stk k hk32
    have f3 := h.row.frozen (23 + k)
    rw [← hk] at c1
    have ne : ¬ (k : Int) = 32 := by omega
    clear h hk hh
    go_enter Tryz.func121, Tryz.ntmps121
    go_wp2_with fail
    go_region
    go_wp2_with fail
    go_end0
    exact ⟨rfl, HM.out.keep rfl, ((Only.set _ _ _ _).trans (Only.set _ _ _ _)).drew⟩
set_option maxHeartbeats 1000000 in
theorem take_any (h : Mw w g cv i0 i1 fr p) :
    Calls Tryz.prog 122 #[.pointer (some ⟨g, 0, none⟩)] w fun e w' => e = .returned (.int .i32 p.top) ∧ Mw w' g cv i0 i1 fr p.take ∧ Only g w w' := by
  have c1 := h.high
  have c2 := h.err
  have f1 := h.row.frozen 55
  have f2 := h.row.frozen 57
  have hh := h.wf.high
  obtain ⟨k, hk⟩ : ∃ k, k = p.high := ⟨_, rfl⟩
  cases k with
  | zero =>
    have HM : Hid (Mw (w.setCell ⟨g, 57, none⟩ (.int .i64 11)) g cv i0 i1 fr p.take) := by
      have := h.setErr 11
      unfold Pm.take
      rw [if_pos (by omega)]
      exact this
    have HT : Hid (p.top = 0) := by
      show _ = _
      unfold Pm.top
      rw [if_pos (by omega)]
    rw [← hk] at c1
    clear h hk hh
    go_enter Tryz.func122, Tryz.ntmps122
    go_wp2
    go_ret
    exact ⟨by rw [HT.out]; rfl, HM.out, Only.set _ _ _ _⟩
  | succ k =>
    have hk32 : k < 32 := by omega
    have HM : Hid (Mw (w.setCell ⟨g, 55, none⟩ (.int .i64 (k : Int))) g cv i0 i1 fr p.take) := by
      have h1 := h.setHigh k (by omega)
      unfold Pm.take
      rw [if_neg (by omega), show p.high - 1 = k by omega]
      exact h1
    have HT : Hid (p.top = p.stk.getD k 0) := by
      show _ = _
      unfold Pm.top
      rw [if_neg (by omega), show p.high - 1 = k by omega]
    have c3 := h.stk k hk32
    have f3 := h.row.frozen (23 + k)
    rw [← hk] at c1
    have c1' : w.cell? ⟨g, 55, none⟩ = some (.int .i64 ((k : Int) + 1)) := c1
    have ne : ¬ (k : Int) + 1 = 0 := by omega
    clear h hk hh c1
    go_enter Tryz.func122, Tryz.ntmps122
    go_wp2_with fail
    go_region
    go_wp2_with fail
    go_ret
    exact ⟨by rw [HT.out]; rfl, HM.out.keep rfl, (Only.set _ _ _ _).drew⟩
end Go.Proofs.YtbfldcieibdapabGreat
end
