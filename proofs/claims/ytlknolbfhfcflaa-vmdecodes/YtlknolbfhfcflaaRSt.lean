/-
  The document's Check of a game, and Is, by contracts.
-/
import Derived.Test.YtlknolbfhfcflaaRefM
namespace Go.Proofs.Ytlknolbfhfcflaa
open Go.RowKit
variable {w w' : World} {g : Nat}
set_option maxHeartbeats 1000000 in
theorem rIs_c (cs : List Value) (s : Sp) (h : StC cs s) (w : World) : Calls Try.prog 28 #[.agg cs.toArray] w fun e w' => e = .returned (.bool (isS s)) ∧ Below w.heap.size w w' := by
  have k0 := hid_into h.frame
  have k18 := hid_into h.over
  have k19 := hid_into h.win
  clear h
  obtain ⟨fr, cells, seed, over, win⟩ := s
  simp only at k0 k18 k19
  by_cases h1 : fr < 0
  · rw [show isS ⟨fr, cells, seed, over, win⟩ = false by simp [isS]; omega]
    go_enter Try.func28, Try.ntmps28
    go_wp2_with (refine wpList_box_row rfl 28 (.tmp 0) rfl cs rfl ?_; intro W1 hc1 B1 HS1; have q0 := (hc1.cell 0).trans k0.out; have q3 := (hc1.cell 18).trans k18.out; have q4 := (hc1.cell 19).trans k19.out)
    go_ret
    exact ⟨rfl, B1⟩
  by_cases h2 : 600 < fr
  · rw [show isS ⟨fr, cells, seed, over, win⟩ = false by simp [isS]; omega]
    go_enter Try.func28, Try.ntmps28
    go_wp2_with (refine wpList_box_row rfl 28 (.tmp 0) rfl cs rfl ?_; intro W1 hc1 B1 HS1; have q0 := (hc1.cell 0).trans k0.out; have q3 := (hc1.cell 18).trans k18.out; have q4 := (hc1.cell 19).trans k19.out)
    go_ret
    exact ⟨rfl, B1⟩
  by_cases h3 : win < 0
  · rw [show isS ⟨fr, cells, seed, over, win⟩ = false by simp [isS]; omega]
    go_enter Try.func28, Try.ntmps28
    go_wp2_with (refine wpList_box_row rfl 28 (.tmp 0) rfl cs rfl ?_; intro W1 hc1 B1 HS1; have q0 := (hc1.cell 0).trans k0.out; have q3 := (hc1.cell 18).trans k18.out; have q4 := (hc1.cell 19).trans k19.out)
    go_ret
    exact ⟨rfl, B1⟩
  by_cases h4 : 2 < win
  · rw [show isS ⟨fr, cells, seed, over, win⟩ = false by simp [isS]; omega]
    go_enter Try.func28, Try.ntmps28
    go_wp2_with (refine wpList_box_row rfl 28 (.tmp 0) rfl cs rfl ?_; intro W1 hc1 B1 HS1; have q0 := (hc1.cell 0).trans k0.out; have q3 := (hc1.cell 18).trans k18.out; have q4 := (hc1.cell 19).trans k19.out)
    go_ret
    exact ⟨rfl, B1⟩
  cases over with
  | true =>
    rw [show isS ⟨fr, cells, seed, true, win⟩ = true by simp [isS]; omega]
    go_enter Try.func28, Try.ntmps28
    go_wp2_with (refine wpList_box_row rfl 28 (.tmp 0) rfl cs rfl ?_; intro W1 hc1 B1 HS1; have q0 := (hc1.cell 0).trans k0.out; have q3 := (hc1.cell 18).trans k18.out; have q4 := (hc1.cell 19).trans k19.out)
    go_ret
    exact ⟨rfl, B1⟩
  | false =>
    by_cases h5 : win = 0
    · subst h5
      rw [show isS ⟨fr, cells, seed, false, 0⟩ = true by simp [isS]; omega]
      go_enter Try.func28, Try.ntmps28
      go_wp2_with (refine wpList_box_row rfl 28 (.tmp 0) rfl cs rfl ?_; intro W1 hc1 B1 HS1; have q0 := (hc1.cell 0).trans k0.out; have q3 := (hc1.cell 18).trans k18.out; have q4 := (hc1.cell 19).trans k19.out)
      go_ret
      exact ⟨rfl, B1⟩
    · rw [show isS ⟨fr, cells, seed, false, win⟩ = false by simp [isS]; omega]
      have h5' : (win == 0) = false := by simp [h5]
      go_enter Try.func28, Try.ntmps28
      go_wp2_with (refine wpList_box_row rfl 28 (.tmp 0) rfl cs rfl ?_; intro W1 hc1 B1 HS1; have q0 := (hc1.cell 0).trans k0.out; have q3 := (hc1.cell 18).trans k18.out; have q4 := (hc1.cell 19).trans k19.out)
      go_ret
      exact ⟨by simp [Array.getD], B1⟩
set_option maxHeartbeats 1000000 in
theorem rChk_any (cv : Value) (l : List Ii) (cap fuel : Int) (w : World) (hl : Ls w cv l) : Calls Try.prog 11 #[gameV cv cap fuel] w fun e w' => e = .returned (.int .i64 (chkG l cap fuel)) ∧ Below w.heap.size w w' := by
  have CH : Hid (∀ W, Below w.heap.size w W → Calls Try.prog 31 #[cv] W fun e w' => e = .returned (.tuple #[.int .i64 (chk l).1, .int .i64 (chk l).2]) ∧ Below W.heap.size W w') := fun W hW => rcheck_any cv l W (hl.below hW)
  have BB := hid_into ((Below.refl w.heap.size w).alloc (Nat.le_refl _) (.cells #[cv, .int .i64 cap, .int .i64 fuel] 24))
  have hlt : ∀ W, Below (w.alloc (.cells #[cv, .int .i64 cap, .int .i64 fuel] 24)).heap.size (w.alloc (.cells #[cv, .int .i64 cap, .int .i64 fuel] 24)) W → Cw W w.heap.size [cv, .int .i64 cap, .int .i64 fuel] 24 := fun W hW => (Cw.new w [cv, .int .i64 cap, .int .i64 fuel] 24).below hW (by rw [World.size_alloc]; omega)
  have HX := hid_into hlt
  have HR : Hid (chkG l cap fuel = if (chk l).2 ≠ 0 then (chk l).2 else if cap < 1 ∨ 600 < cap ∨ fuel < 1 ∨ 2000 < fuel then 1 else 0) := rfl
  clear hl hlt
  unfold gameV
  generalize (chk l).1 = c1 at CH
  generalize (chk l).2 = c2 at CH HR
  generalize chkG l cap fuel = cg at HR ⊢
  by_cases hc : c2 = 0
  · subst hc
    by_cases h1 : cap < 1
    · have HR2 : Hid (cg = 1) := by show _ = _; rw [HR.out, if_neg (by omega), if_pos (by omega)]
      go_enter Try.func11, Try.ntmps11
      go_wp2_with (go_at_call 31; refine (CH.out _ BB.out).mono ?_; rintro e w1 ⟨rfl, B1⟩; have q1 := (HX.out _ B1).cell 1; have q2 := (HX.out _ B1).cell 2; simp only [List.getElem?_cons_zero, List.getElem?_cons_succ] at q1 q2)
      go_ret
      exact ⟨by rw [HR2.out]; rfl, BB.out.trans (B1.mono BB.out.size)⟩
    by_cases h2 : 600 < cap
    · have HR2 : Hid (cg = 1) := by show _ = _; rw [HR.out, if_neg (by omega), if_pos (by omega)]
      go_enter Try.func11, Try.ntmps11
      go_wp2_with (go_at_call 31; refine (CH.out _ BB.out).mono ?_; rintro e w1 ⟨rfl, B1⟩; have q1 := (HX.out _ B1).cell 1; have q2 := (HX.out _ B1).cell 2; simp only [List.getElem?_cons_zero, List.getElem?_cons_succ] at q1 q2)
      go_ret
      exact ⟨by rw [HR2.out]; rfl, BB.out.trans (B1.mono BB.out.size)⟩
    by_cases h3 : fuel < 1
    · have HR2 : Hid (cg = 1) := by show _ = _; rw [HR.out, if_neg (by omega), if_pos (by omega)]
      go_enter Try.func11, Try.ntmps11
      go_wp2_with (go_at_call 31; refine (CH.out _ BB.out).mono ?_; rintro e w1 ⟨rfl, B1⟩; have q1 := (HX.out _ B1).cell 1; have q2 := (HX.out _ B1).cell 2; simp only [List.getElem?_cons_zero, List.getElem?_cons_succ] at q1 q2)
      go_ret
      exact ⟨by rw [HR2.out]; rfl, BB.out.trans (B1.mono BB.out.size)⟩
    by_cases h4 : 2000 < fuel
    · have HR2 : Hid (cg = 1) := by show _ = _; rw [HR.out, if_neg (by omega), if_pos (by omega)]
      go_enter Try.func11, Try.ntmps11
      go_wp2_with (go_at_call 31; refine (CH.out _ BB.out).mono ?_; rintro e w1 ⟨rfl, B1⟩; have q1 := (HX.out _ B1).cell 1; have q2 := (HX.out _ B1).cell 2; simp only [List.getElem?_cons_zero, List.getElem?_cons_succ] at q1 q2)
      go_ret
      exact ⟨by rw [HR2.out]; rfl, BB.out.trans (B1.mono BB.out.size)⟩
    · have HR2 : Hid (cg = 0) := by show _ = _; rw [HR.out, if_neg (by omega), if_neg (by omega)]
      go_enter Try.func11, Try.ntmps11
      go_wp2_with (go_at_call 31; refine (CH.out _ BB.out).mono ?_; rintro e w1 ⟨rfl, B1⟩; have q1 := (HX.out _ B1).cell 1; have q2 := (HX.out _ B1).cell 2; simp only [List.getElem?_cons_zero, List.getElem?_cons_succ] at q1 q2)
      go_ret
      exact ⟨by rw [HR2.out]; rfl, BB.out.trans (B1.mono BB.out.size)⟩
  · have HR2 : Hid (cg = c2) := by show _ = _; rw [HR.out, if_pos (by omega)]
    have hc2 : (c2 != 0) = true := by simp [hc]
    go_enter Try.func11, Try.ntmps11
    go_wp2_with (go_at_call 31; refine (CH.out _ BB.out).mono ?_; rintro e w1 ⟨rfl, B1⟩)
    go_ret
    exact ⟨by rw [HR2.out]; rfl, BB.out.trans (B1.mono BB.out.size)⟩
end Go.Proofs.Ytlknolbfhfcflaa
