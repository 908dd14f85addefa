/-
  States in memory (stV); Check, isState, whoHasMore, mayStep, by contracts.
-/
import Derived.Test.YtkchdkcdkeajkaaMach
namespace Go.Proofs.Ytkchdkcdkeajkaa
open Go.RowKit
variable {w w' : World} {g : Nat}
/-- A state's cells. -/
def stV (s : Sp) : List Value := .int .i64 s.frame :: (s.cells.map (Value.int .i32) ++ [.int .u32 s.seed, .bool s.over, .int .i64 s.win])
structure Sp.Wf (s : Sp) : Prop where
  cells : s.cells.length = 16
  cin : ∀ x ∈ s.cells, In32 x
  seed : 0 ≤ s.seed ∧ s.seed < 4294967296
/-- The cells of a state, one by one. -/
structure StC (cs : List Value) (s : Sp) : Prop where
  len : cs.length = 20
  one : ∀ v ∈ cs, v.oneCell' = true
  frame : cs[0]? = some (.int .i64 s.frame)
  cell : ∀ i, i < 16 → cs[1 + i]? = some (.int .i32 (s.cells.getD i 0))
  seed : cs[17]? = some (.int .u32 s.seed)
  over : cs[18]? = some (.bool s.over)
  win : cs[19]? = some (.int .i64 s.win)
theorem stV_c {s : Sp} (h : s.Wf) : StC (stV s) s := by
  have hl := h.cells
  have hr : ∀ j, (stV s)[17 + j]? = ([.int .u32 s.seed, .bool s.over, .int .i64 s.win] : List Value)[j]? := fun j => by
    rw [stV, show 17 + j = (16 + j) + 1 by omega, List.getElem?_cons_succ, List.getElem?_append_right (by simp [hl])]
    simp [hl]
  refine ⟨by simp [stV, hl], ?_, rfl, fun i hi => ?_, hr 0, hr 1, hr 2⟩
  · intro v hv
    simp only [stV, List.mem_cons, List.mem_append, List.mem_map, List.not_mem_nil, or_false] at hv
    rcases hv with rfl | ⟨x, _, rfl⟩ | rfl | rfl | rfl <;> rfl
  · rw [stV, show 1 + i = i + 1 by omega, List.getElem?_cons_succ, List.getElem?_append_left (by simp [hl]; omega), List.getElem?_map, List.getD, List.getElem?_eq_getElem (by omega)]
    rfl
theorem Try.size35 : (Try.prog.info? 35).map (·.size) = some 20 := by kernel_rfl
def zeroS : List Value := stV noS
theorem Try.zero35 : (Try.prog.info? 35).bind (·.zero) = some (.agg zeroS.toArray) := by kernel_rfl
set_option maxHeartbeats 1000000 in
theorem isState_c (cs : List Value) (s : Sp) (h : StC cs s) (w : World) : Calls Try.prog 30 #[.agg cs.toArray] w fun e w' => e = .returned (.bool (isS s)) ∧ Below w.heap.size w w' := by
  have k0 := hid_into h.frame
  have k18 := hid_into h.over
  have k19 := hid_into h.win
  clear h
  obtain ⟨fr, cells, seed, over, win⟩ := s
  simp only at k0 k18 k19
  by_cases h1 : fr < 0
  · rw [show isS ⟨fr, cells, seed, over, win⟩ = false by simp [isS]; omega]
    go_enter Try.func30, Try.ntmps30
    go_wp2_with (refine wpList_box_row rfl 35 (.tmp 0) rfl cs rfl ?_; intro W1 hc1 B1 HS1; have q0 := (hc1.cell 0).trans k0.out; have q3 := (hc1.cell 18).trans k18.out; have q4 := (hc1.cell 19).trans k19.out)
    go_ret
    exact ⟨rfl, B1⟩
  by_cases h2 : 600 < fr
  · rw [show isS ⟨fr, cells, seed, over, win⟩ = false by simp [isS]; omega]
    go_enter Try.func30, Try.ntmps30
    go_wp2_with (refine wpList_box_row rfl 35 (.tmp 0) rfl cs rfl ?_; intro W1 hc1 B1 HS1; have q0 := (hc1.cell 0).trans k0.out; have q3 := (hc1.cell 18).trans k18.out; have q4 := (hc1.cell 19).trans k19.out)
    go_ret
    exact ⟨rfl, B1⟩
  by_cases h3 : win < 0
  · rw [show isS ⟨fr, cells, seed, over, win⟩ = false by simp [isS]; omega]
    go_enter Try.func30, Try.ntmps30
    go_wp2_with (refine wpList_box_row rfl 35 (.tmp 0) rfl cs rfl ?_; intro W1 hc1 B1 HS1; have q0 := (hc1.cell 0).trans k0.out; have q3 := (hc1.cell 18).trans k18.out; have q4 := (hc1.cell 19).trans k19.out)
    go_ret
    exact ⟨rfl, B1⟩
  by_cases h4 : 2 < win
  · rw [show isS ⟨fr, cells, seed, over, win⟩ = false by simp [isS]; omega]
    go_enter Try.func30, Try.ntmps30
    go_wp2_with (refine wpList_box_row rfl 35 (.tmp 0) rfl cs rfl ?_; intro W1 hc1 B1 HS1; have q0 := (hc1.cell 0).trans k0.out; have q3 := (hc1.cell 18).trans k18.out; have q4 := (hc1.cell 19).trans k19.out)
    go_ret
    exact ⟨rfl, B1⟩
  cases over with
  | true =>
    rw [show isS ⟨fr, cells, seed, true, win⟩ = true by simp [isS]; omega]
    go_enter Try.func30, Try.ntmps30
    go_wp2_with (refine wpList_box_row rfl 35 (.tmp 0) rfl cs rfl ?_; intro W1 hc1 B1 HS1; have q0 := (hc1.cell 0).trans k0.out; have q3 := (hc1.cell 18).trans k18.out; have q4 := (hc1.cell 19).trans k19.out)
    go_ret
    exact ⟨rfl, B1⟩
  | false =>
    by_cases h5 : win = 0
    · subst h5
      rw [show isS ⟨fr, cells, seed, false, 0⟩ = true by simp [isS]; omega]
      go_enter Try.func30, Try.ntmps30
      go_wp2_with (refine wpList_box_row rfl 35 (.tmp 0) rfl cs rfl ?_; intro W1 hc1 B1 HS1; have q0 := (hc1.cell 0).trans k0.out; have q3 := (hc1.cell 18).trans k18.out; have q4 := (hc1.cell 19).trans k19.out)
      go_ret
      exact ⟨rfl, B1⟩
    · rw [show isS ⟨fr, cells, seed, false, win⟩ = false by simp [isS]; omega]
      have h5' : (win == 0) = false := by simp [h5]
      go_enter Try.func30, Try.ntmps30
      go_wp2_with (refine wpList_box_row rfl 35 (.tmp 0) rfl cs rfl ?_; intro W1 hc1 B1 HS1; have q0 := (hc1.cell 0).trans k0.out; have q3 := (hc1.cell 18).trans k18.out; have q4 := (hc1.cell 19).trans k19.out)
      go_ret
      exact ⟨by simp [Array.getD], B1⟩
/-- Check of a game. -/
def gameV (cv : Value) (cap fuel : Int) : Value := .agg #[cv, .int .i64 cap, .int .i64 fuel]
end Go.Proofs.Ytkchdkcdkeajkaa
