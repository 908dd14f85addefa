/-
  The document's Check of a game, and Is, by contracts.
-/
import Derived.Test.YtkchdkcdkeajkaaVmSt
namespace Go.Proofs.Ytkchdkcdkeajkaa
open Go.RowKit
variable {w w' : World} {g : Nat}
set_option maxHeartbeats 1000000 in
theorem rIs_c (cs : List Value) (s : Sp) (h : StC cs s) (w : World) : Calls Try.prog 21 #[.agg cs.toArray] w fun e w' => e = .returned (.bool (isS s)) ∧ Below w.heap.size w w' := by
  have k0 := hid_into h.frame
  have k18 := hid_into h.over
  have k19 := hid_into h.win
  clear h
  obtain ⟨fr, cells, seed, over, win⟩ := s
  simp only at k0 k18 k19
  by_cases h1 : fr < 0
  · rw [show isS ⟨fr, cells, seed, over, win⟩ = false by simp [isS]; omega]
    go_enter Try.func21, Try.ntmps21
    go_wp2_with (refine wpList_box_row rfl 35 (.tmp 0) rfl cs rfl ?_; intro W1 hc1 B1 HS1; have q0 := (hc1.cell 0).trans k0.out; have q3 := (hc1.cell 18).trans k18.out; have q4 := (hc1.cell 19).trans k19.out)
    go_ret
    exact ⟨rfl, B1⟩
  by_cases h2 : 600 < fr
  · rw [show isS ⟨fr, cells, seed, over, win⟩ = false by simp [isS]; omega]
    go_enter Try.func21, Try.ntmps21
    go_wp2_with (refine wpList_box_row rfl 35 (.tmp 0) rfl cs rfl ?_; intro W1 hc1 B1 HS1; have q0 := (hc1.cell 0).trans k0.out; have q3 := (hc1.cell 18).trans k18.out; have q4 := (hc1.cell 19).trans k19.out)
    go_ret
    exact ⟨rfl, B1⟩
  by_cases h3 : win < 0
  · rw [show isS ⟨fr, cells, seed, over, win⟩ = false by simp [isS]; omega]
    go_enter Try.func21, Try.ntmps21
    go_wp2_with (refine wpList_box_row rfl 35 (.tmp 0) rfl cs rfl ?_; intro W1 hc1 B1 HS1; have q0 := (hc1.cell 0).trans k0.out; have q3 := (hc1.cell 18).trans k18.out; have q4 := (hc1.cell 19).trans k19.out)
    go_ret
    exact ⟨rfl, B1⟩
  by_cases h4 : 2 < win
  · rw [show isS ⟨fr, cells, seed, over, win⟩ = false by simp [isS]; omega]
    go_enter Try.func21, Try.ntmps21
    go_wp2_with (refine wpList_box_row rfl 35 (.tmp 0) rfl cs rfl ?_; intro W1 hc1 B1 HS1; have q0 := (hc1.cell 0).trans k0.out; have q3 := (hc1.cell 18).trans k18.out; have q4 := (hc1.cell 19).trans k19.out)
    go_ret
    exact ⟨rfl, B1⟩
  cases over with
  | true =>
    rw [show isS ⟨fr, cells, seed, true, win⟩ = true by simp [isS]; omega]
    go_enter Try.func21, Try.ntmps21
    go_wp2_with (refine wpList_box_row rfl 35 (.tmp 0) rfl cs rfl ?_; intro W1 hc1 B1 HS1; have q0 := (hc1.cell 0).trans k0.out; have q3 := (hc1.cell 18).trans k18.out; have q4 := (hc1.cell 19).trans k19.out)
    go_ret
    exact ⟨rfl, B1⟩
  | false =>
    by_cases h5 : win = 0
    · subst h5
      rw [show isS ⟨fr, cells, seed, false, 0⟩ = true by simp [isS]; omega]
      go_enter Try.func21, Try.ntmps21
      go_wp2_with (refine wpList_box_row rfl 35 (.tmp 0) rfl cs rfl ?_; intro W1 hc1 B1 HS1; have q0 := (hc1.cell 0).trans k0.out; have q3 := (hc1.cell 18).trans k18.out; have q4 := (hc1.cell 19).trans k19.out)
      go_ret
      exact ⟨rfl, B1⟩
    · rw [show isS ⟨fr, cells, seed, false, win⟩ = false by simp [isS]; omega]
      have h5' : (win == 0) = false := by simp [h5]
      go_enter Try.func21, Try.ntmps21
      go_wp2_with (refine wpList_box_row rfl 35 (.tmp 0) rfl cs rfl ?_; intro W1 hc1 B1 HS1; have q0 := (hc1.cell 0).trans k0.out; have q3 := (hc1.cell 18).trans k18.out; have q4 := (hc1.cell 19).trans k19.out)
      go_ret
      exact ⟨by simp [Array.getD], B1⟩
end Go.Proofs.Ytkchdkcdkeajkaa
