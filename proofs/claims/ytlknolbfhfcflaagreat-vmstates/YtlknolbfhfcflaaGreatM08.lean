/-
  Joined from: VmSt.
-/
import Derived.Test.YtlknolbfhfcflaaGreatM07
section
/-
  States in memory (stV); Check, isState, whoHasMore, mayStep, by contracts.
-/
namespace Go.Proofs.YtlknolbfhfcflaaGreat
open Go.RowKit
variable {w w' : World} {g : Nat}
/-- A state's cells. -/
def stV (s : Sp) : List Value := .int .i64 s.frame :: (s.cells.map (Value.int .i32) ++ [.int .u32 s.seed, .bool s.over, .int .i64 s.win])
structure Sp.Wf (s : Sp) : Prop where
  cells : s.cells.length = 16
  cin : ∀ x ∈ s.cells, In32 x
  seed : 0 ≤ s.seed ∧ s.seed < 4294967296
/-- The cells of a state, one by one. -/
structure StC (cs : List Value) (s : Sp) : Prop where
  len : cs.length = 20
  one : ∀ v ∈ cs, v.oneCell' = true
  frame : cs[0]? = some (.int .i64 s.frame)
  cell : ∀ i, i < 16 → cs[1 + i]? = some (.int .i32 (s.cells.getD i 0))
  seed : cs[17]? = some (.int .u32 s.seed)
  over : cs[18]? = some (.bool s.over)
  win : cs[19]? = some (.int .i64 s.win)
theorem stV_c {s : Sp} (h : s.Wf) : StC (stV s) s := by
  have hl := h.cells
  have hr : ∀ j, (stV s)[17 + j]? = ([.int .u32 s.seed, .bool s.over, .int .i64 s.win] : List Value)[j]? := fun j => by
    rw [stV, show 17 + j = (16 + j) + 1 by omega, List.getElem?_cons_succ, List.getElem?_append_right (by simp [hl])]
    simp [hl]
  refine ⟨by simp [stV, hl], ?_, rfl, fun i hi => ?_, hr 0, hr 1, hr 2⟩
  · intro v hv
    simp only [stV, List.mem_cons, List.mem_append, List.mem_map, List.not_mem_nil, or_false] at hv
    rcases hv with rfl | ⟨x, _, rfl⟩ | rfl | rfl | rfl <;> rfl
  · rw [stV, show 1 + i = i + 1 by omega, List.getElem?_cons_succ, List.getElem?_append_left (by simp [hl]; omega), List.getElem?_map, List.getD, List.getElem?_eq_getElem (by omega)]
    rfl
theorem Tryz.size25 : (Tryz.prog.info? 25).map (·.size) = some 20 := by kernel_rfl
def zeroS : List Value := stV noS
theorem Tryz.zero25 : (Tryz.prog.info? 25).bind (·.zero) = some (.agg zeroS.toArray) := by kernel_rfl
theorem more_any (a b : Int) (w : World) : Calls Tryz.prog 58 #[.int .i32 a, .int .i32 b] w fun e w' => e = .returned (.int .i64 (moreI a b)) ∧ w' = w := by
  by_cases h1 : b < a
  · rw [show moreI a b = 0 by unfold moreI; rw [if_neg (by omega), if_neg (by omega)]]
    go_enter Tryz.func58, Tryz.ntmps58
    go_wp2
    go_ret
    exact ⟨rfl, rfl⟩
  · by_cases h2 : a < b
    · rw [show moreI a b = 1 by unfold moreI; rw [if_neg (by omega), if_pos h2]]
      go_enter Tryz.func58, Tryz.ntmps58
      go_wp2
      go_ret
      exact ⟨rfl, rfl⟩
    · rw [show moreI a b = 2 by unfold moreI; rw [if_pos (by omega)]]
      go_enter Tryz.func58, Tryz.ntmps58
      go_wp2
      go_ret
      exact ⟨rfl, rfl⟩
set_option maxHeartbeats 1000000 in
theorem isState_c (cs : List Value) (s : Sp) (h : StC cs s) (w : World) : Calls Tryz.prog 27 #[.agg cs.toArray] w fun e w' => e = .returned (.bool (isS s)) ∧ Below w.heap.size w w' := by
  have k0 := hid_into h.frame
  have k18 := hid_into h.over
  have k19 := hid_into h.win
  clear h
  obtain ⟨fr, cells, seed, over, win⟩ := s
  simp only at k0 k18 k19
  by_cases h1 : fr < 0
  · rw [show isS ⟨fr, cells, seed, over, win⟩ = false by simp [isS]; omega]
    go_enter Tryz.func27, Tryz.ntmps27
    go_wp2_with (refine wpList_box_row rfl 25 (.tmp 0) rfl cs rfl ?_; intro W1 hc1 B1 HS1; have q0 := (hc1.cell 0).trans k0.out; have q3 := (hc1.cell 18).trans k18.out; have q4 := (hc1.cell 19).trans k19.out)
    go_ret
    exact ⟨rfl, B1⟩
  by_cases h2 : 600 < fr
  · rw [show isS ⟨fr, cells, seed, over, win⟩ = false by simp [isS]; omega]
    go_enter Tryz.func27, Tryz.ntmps27
    go_wp2_with (refine wpList_box_row rfl 25 (.tmp 0) rfl cs rfl ?_; intro W1 hc1 B1 HS1; have q0 := (hc1.cell 0).trans k0.out; have q3 := (hc1.cell 18).trans k18.out; have q4 := (hc1.cell 19).trans k19.out)
    go_ret
    exact ⟨rfl, B1⟩
  by_cases h3 : win < 0
  · rw [show isS ⟨fr, cells, seed, over, win⟩ = false by simp [isS]; omega]
    go_enter Tryz.func27, Tryz.ntmps27
    go_wp2_with (refine wpList_box_row rfl 25 (.tmp 0) rfl cs rfl ?_; intro W1 hc1 B1 HS1; have q0 := (hc1.cell 0).trans k0.out; have q3 := (hc1.cell 18).trans k18.out; have q4 := (hc1.cell 19).trans k19.out)
    go_ret
    exact ⟨rfl, B1⟩
  by_cases h4 : 2 < win
  · rw [show isS ⟨fr, cells, seed, over, win⟩ = false by simp [isS]; omega]
    go_enter Tryz.func27, Tryz.ntmps27
    go_wp2_with (refine wpList_box_row rfl 25 (.tmp 0) rfl cs rfl ?_; intro W1 hc1 B1 HS1; have q0 := (hc1.cell 0).trans k0.out; have q3 := (hc1.cell 18).trans k18.out; have q4 := (hc1.cell 19).trans k19.out)
    go_ret
    exact ⟨rfl, B1⟩
  cases over with
  | true =>
    rw [show isS ⟨fr, cells, seed, true, win⟩ = true by simp [isS]; omega]
    go_enter Tryz.func27, Tryz.ntmps27
    go_wp2_with (refine wpList_box_row rfl 25 (.tmp 0) rfl cs rfl ?_; intro W1 hc1 B1 HS1; have q0 := (hc1.cell 0).trans k0.out; have q3 := (hc1.cell 18).trans k18.out; have q4 := (hc1.cell 19).trans k19.out)
    go_ret
    exact ⟨rfl, B1⟩
  | false =>
    by_cases h5 : win = 0
    · subst h5
      rw [show isS ⟨fr, cells, seed, false, 0⟩ = true by simp [isS]; omega]
      go_enter Tryz.func27, Tryz.ntmps27
      go_wp2_with (refine wpList_box_row rfl 25 (.tmp 0) rfl cs rfl ?_; intro W1 hc1 B1 HS1; have q0 := (hc1.cell 0).trans k0.out; have q3 := (hc1.cell 18).trans k18.out; have q4 := (hc1.cell 19).trans k19.out)
      go_ret
      exact ⟨rfl, B1⟩
    · rw [show isS ⟨fr, cells, seed, false, win⟩ = false by simp [isS]; omega]
      have h5' : (win == 0) = false := by simp [h5]
      go_enter Tryz.func27, Tryz.ntmps27
      go_wp2_with (refine wpList_box_row rfl 25 (.tmp 0) rfl cs rfl ?_; intro W1 hc1 B1 HS1; have q0 := (hc1.cell 0).trans k0.out; have q3 := (hc1.cell 18).trans k18.out; have q4 := (hc1.cell 19).trans k19.out)
      go_ret
      exact ⟨by simp [Array.getD], B1⟩
/-- Check of a game. -/
def gameV (cv : Value) (cap fuel : Int) : Value := .agg #[cv, .int .i64 cap, .int .i64 fuel]
set_option maxHeartbeats 1000000 in
theorem Check_any (cv : Value) (l : List Ii) (cap fuel : Int) (w : World) (hl : Ls w cv l) : Calls Tryz.prog 56 #[gameV cv cap fuel] w fun e w' => e = .returned (.int .i64 (chkG l cap fuel)) ∧ Below w.heap.size w w' := by
  have CH : Hid (∀ W, Below w.heap.size w W → Calls Tryz.prog 67 #[cv] W fun e w' => e = .returned (.tuple #[.int .i64 (chk l).1, .int .i64 (chk l).2]) ∧ Below W.heap.size W w') := fun W hW => check_any cv l W (hl.below hW)
  have BB := hid_into ((Below.refl w.heap.size w).alloc (Nat.le_refl _) (.cells #[cv, .int .i64 cap, .int .i64 fuel] 59))
  have hlt : ∀ W, Below (w.alloc (.cells #[cv, .int .i64 cap, .int .i64 fuel] 59)).heap.size (w.alloc (.cells #[cv, .int .i64 cap, .int .i64 fuel] 59)) W → Cw W w.heap.size [cv, .int .i64 cap, .int .i64 fuel] 59 := fun W hW => (Cw.new w [cv, .int .i64 cap, .int .i64 fuel] 59).below hW (by rw [World.size_alloc]; omega)
  have HX := hid_into hlt
  have HR : Hid (chkG l cap fuel = if (chk l).2 ≠ 0 then (chk l).2 else if cap < 1 ∨ 600 < cap ∨ fuel < 1 ∨ 2000 < fuel then 1 else 0) := rfl
  clear hl hlt
  unfold gameV
  generalize (chk l).1 = c1 at CH
  generalize (chk l).2 = c2 at CH HR
  generalize chkG l cap fuel = cg at HR ⊢
  by_cases hc : c2 = 0
  · subst hc
    by_cases h1 : cap < 1
    · have HR2 : Hid (cg = 1) := by show _ = _; rw [HR.out, if_neg (by omega), if_pos (by omega)]
      go_enter Tryz.func56, Tryz.ntmps56
      go_wp2_with (go_at_call 67; refine (CH.out _ BB.out).mono ?_; rintro e w1 ⟨rfl, B1⟩; have q1 := (HX.out _ B1).cell 1; have q2 := (HX.out _ B1).cell 2; simp only [List.getElem?_cons_zero, List.getElem?_cons_succ] at q1 q2)
      go_ret
      exact ⟨by rw [HR2.out]; rfl, BB.out.trans (B1.mono BB.out.size)⟩
    by_cases h2 : 600 < cap
    · have HR2 : Hid (cg = 1) := by show _ = _; rw [HR.out, if_neg (by omega), if_pos (by omega)]
      go_enter Tryz.func56, Tryz.ntmps56
      go_wp2_with (go_at_call 67; refine (CH.out _ BB.out).mono ?_; rintro e w1 ⟨rfl, B1⟩; have q1 := (HX.out _ B1).cell 1; have q2 := (HX.out _ B1).cell 2; simp only [List.getElem?_cons_zero, List.getElem?_cons_succ] at q1 q2)
      go_ret
      exact ⟨by rw [HR2.out]; rfl, BB.out.trans (B1.mono BB.out.size)⟩
    by_cases h3 : fuel < 1
    · have HR2 : Hid (cg = 1) := by show _ = _; rw [HR.out, if_neg (by omega), if_pos (by omega)]
      go_enter Tryz.func56, Tryz.ntmps56
      go_wp2_with (go_at_call 67; refine (CH.out _ BB.out).mono ?_; rintro e w1 ⟨rfl, B1⟩; have q1 := (HX.out _ B1).cell 1; have q2 := (HX.out _ B1).cell 2; simp only [List.getElem?_cons_zero, List.getElem?_cons_succ] at q1 q2)
      go_ret
      exact ⟨by rw [HR2.out]; rfl, BB.out.trans (B1.mono BB.out.size)⟩
    by_cases h4 : 2000 < fuel
    · have HR2 : Hid (cg = 1) := by show _ = _; rw [HR.out, if_neg (by omega), if_pos (by omega)]
      go_enter Tryz.func56, Tryz.ntmps56
      go_wp2_with (go_at_call 67; refine (CH.out _ BB.out).mono ?_; rintro e w1 ⟨rfl, B1⟩; have q1 := (HX.out _ B1).cell 1; have q2 := (HX.out _ B1).cell 2; simp only [List.getElem?_cons_zero, List.getElem?_cons_succ] at q1 q2)
      go_ret
      exact ⟨by rw [HR2.out]; rfl, BB.out.trans (B1.mono BB.out.size)⟩
    · have HR2 : Hid (cg = 0) := by show _ = _; rw [HR.out, if_neg (by omega), if_neg (by omega)]
      go_enter Tryz.func56, Tryz.ntmps56
      go_wp2_with (go_at_call 67; refine (CH.out _ BB.out).mono ?_; rintro e w1 ⟨rfl, B1⟩; have q1 := (HX.out _ B1).cell 1; have q2 := (HX.out _ B1).cell 2; simp only [List.getElem?_cons_zero, List.getElem?_cons_succ] at q1 q2)
      go_ret
      exact ⟨by rw [HR2.out]; rfl, BB.out.trans (B1.mono BB.out.size)⟩
  · have HR2 : Hid (cg = c2) := by show _ = _; rw [HR.out, if_pos (by omega)]
    have hc2 : (c2 != 0) = true := by simp [hc]
    go_enter Tryz.func56, Tryz.ntmps56
    go_wp2_with (go_at_call 67; refine (CH.out _ BB.out).mono ?_; rintro e w1 ⟨rfl, B1⟩)
    go_ret
    exact ⟨by rw [HR2.out]; rfl, BB.out.trans (B1.mono BB.out.size)⟩
end Go.Proofs.YtlknolbfhfcflaaGreat
end
