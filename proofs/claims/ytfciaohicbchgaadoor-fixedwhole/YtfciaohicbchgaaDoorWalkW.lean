/-
  FixedWhole, walked.
-/
import Derived.Test.YtfciaohicbchgaaDoorWalkA
import Derived.Deep.RegionHeld3
import Derived.Deep.QuietTactic
import Derived.BigQuiet
namespace Go.Proofs.YtfciaohicbchgaaDoor
open Go.RowKit
theorem heldI_id {x : Int} (h : In32 x) : heldI x = x := by unfold heldI; have := h.1; have := h.2; rw [if_neg (by omega), if_neg (by omega)]
theorem mul_small {a b : Int} (h1 : -100 ≤ a) (h2 : a ≤ 100) (h3 : -100 ≤ b) (h4 : b ≤ 100) : -10000 ≤ a * b ∧ a * b ≤ 10000 := by
  have h : (a * b).natAbs ≤ 100 * 100 := by
    rw [Int.natAbs_mul]
    exact Nat.mul_le_mul (by omega) (by omega)
  omega
theorem div_whole {a b : Int} (hb : b ≠ 0) (hm : a.tmod b = 0) : quoI (a * 65536) (b * 65536) = a.tdiv b * 65536 := by
  have h := Int.mul_tdiv_add_tmod a b
  rw [hm, Int.add_zero] at h
  unfold quoI
  rw [if_neg (by omega)]
  have e : a * 65536 * 65536 = (b * 65536) * (a.tdiv b * 65536) := by
    calc a * 65536 * 65536 = (b * a.tdiv b) * 65536 * 65536 := by rw [h]
      _ = _ := by rw [Int.mul_assoc, Int.mul_assoc, Int.mul_assoc]; congr 1; rw [Int.mul_left_comm 65536]
  rw [e, Int.mul_tdiv_cancel_left _ (by omega)]
theorem root_whole {a : Int} (h0 : 0 ≤ a) (h1 : a ≤ 100) : RootIs (a * a * 65536) (a * 65536) := by
  have e : a * 65536 * (a * 65536) = a * a * 65536 * 65536 := by
    rw [Int.mul_assoc, Int.mul_assoc, Int.mul_assoc]; congr 1; rw [Int.mul_left_comm 65536]
  have hs := sq_mono (x := 0) (y := a) (by decide) h0
  have e2 : (a * 65536 + 1) * (a * 65536 + 1) = a * 65536 * (a * 65536) + 2 * (a * 65536) + 1 := by
    rw [Int.add_mul, Int.mul_add]; omega
  refine ⟨by omega, by omega, ?_, ?_⟩
  · rw [e]; unfold sqV; split <;> omega
  · rw [e2, e]; unfold sqV; split <;> omega
set_option maxHeartbeats 2000000 in
theorem whole_walk (a b : Int) (w : World) (h : Tb w) : Calls Tryd.prog 5 #[.int .i64 a, .int .i64 b] w fun e w' => e = .returned (.bool true) ∧ Below w.heap.size w w' := by
  have K := fun (w1 : World) (hb : Below w.heap.size w w1) => known_any w1 (h.below hb (Nat.le_refl _))
  have B0 := Below.refl w.heap.size w
  by_cases h1 : a < -100
  · go_enter Tryd.func5, Tryd.ntmps5
    go_wp2_with (go_at_call 19; refine (K _ B0).mono ?_; rintro e w3 ⟨rfl, B3⟩)
    go_ret
    exact ⟨rfl, B3⟩
  by_cases h2 : 100 < a
  · go_enter Tryd.func5, Tryd.ntmps5
    go_wp2_with (go_at_call 19; refine (K _ B0).mono ?_; rintro e w3 ⟨rfl, B3⟩)
    go_ret
    exact ⟨rfl, B3⟩
  by_cases h3 : b < -100
  · go_enter Tryd.func5, Tryd.ntmps5
    go_wp2_with (go_at_call 19; refine (K _ B0).mono ?_; rintro e w3 ⟨rfl, B3⟩)
    go_ret
    exact ⟨rfl, B3⟩
  by_cases h4 : 100 < b
  · go_enter Tryd.func5, Tryd.ntmps5
    go_wp2_with (go_at_call 19; refine (K _ B0).mono ?_; rintro e w3 ⟨rfl, B3⟩)
    go_ret
    exact ⟨rfl, B3⟩
  obtain ⟨p1, p2⟩ := mul_small (a := a) (b := b) (by omega) (by omega) (by omega) (by omega)
  obtain ⟨p3, p4⟩ := mul_small (a := a) (b := a) (by omega) (by omega) (by omega) (by omega)
  have ix : In32 (a * 65536) := ⟨by omega, by omega⟩
  have iy : In32 (b * 65536) := ⟨by omega, by omega⟩
  have A := Add_any _ _ ix iy
  have S := Sub_any _ _ ix iy
  have M := Mul_any _ _ ix iy
  have D := Div_any _ _ ix iy
  have R := Root_any (a * a * 65536) ⟨by omega, by omega⟩
  rw [show a * 65536 + b * 65536 = (a + b) * 65536 by omega, heldI_id ⟨by omega, by omega⟩] at A
  rw [show a * 65536 - b * 65536 = (a - b) * 65536 by omega, heldI_id ⟨by omega, by omega⟩] at S
  have em : a * 65536 * (b * 65536) / 65536 = a * b * 65536 := by
    rw [← Int.mul_assoc, Int.mul_ediv_cancel _ (by decide), Int.mul_assoc, Int.mul_comm 65536 b, ← Int.mul_assoc]
  rw [em, heldI_id ⟨by omega, by omega⟩] at M
  have RW : 0 ≤ a → rootF (a * a * 65536) = a * 65536 := fun h0 => (root_whole h0 (by omega)).eq.symm
  have DW := fun (hb : b ≠ 0) (hm : a.tmod b = 0) => div_whole hb hm
  have T1 : (a.tmod b).natAbs ≤ 100 := by rw [Int.natAbs_tmod]; exact Nat.le_trans (Nat.mod_le _ _) (by omega)
  have T2 : (a.tdiv b).natAbs ≤ 100 := tdiv_in (by omega)
  obtain ⟨p, hp⟩ : ∃ p, p = a * b := ⟨_, rfl⟩
  obtain ⟨s, hs⟩ : ∃ s, s = a * a := ⟨_, rfl⟩
  rw [← hp] at p1 p2 M
  rw [← hs] at p3 p4 R RW
  have c1 : wrap64 (a * b) = p := by rw [← hp]; unfold wrap64; omega
  have c2 : wrap64 (a * a) = s := by rw [← hs]; unfold wrap64; omega
  obtain ⟨m, hm⟩ : ∃ m, m = a.tmod b := ⟨_, rfl⟩
  obtain ⟨q, hq⟩ : ∃ q, q = a.tdiv b := ⟨_, rfl⟩
  rw [← hm] at T1
  rw [← hq] at T2
  have c3 : wrap64 (a.tmod b) = m := by rw [← hm]; unfold wrap64; omega
  have c4 : wrap64 (a.tdiv b) = q := by rw [← hq]; unfold wrap64; omega
  have c5 : IntKind.i64.wrap (a.tmod b) = m := by rw [IntKind.wrap_i64]; omega
  have c6 : IntKind.i64.wrap q = q := by rw [IntKind.wrap_i64]; omega
  have c10 : IntKind.i32.wrap (q * 65536) = q * 65536 := by rw [IntKind.wrap_i32]; omega
  have c7 : IntKind.i64.wrap (q * 65536) = q * 65536 := by rw [IntKind.wrap_i64]; omega
  have c8 : a.tmod b = m := hm.symm
  have c9 : a.tdiv b = q := hq.symm
  have DH : b ≠ 0 → m = 0 → heldI (quoI (a * 65536) (b * 65536)) = q * 65536 := fun h1 h2 => by
    rw [DW h1 (by rw [← hm]; exact h2), ← hq]; exact heldI_id ⟨by omega, by omega⟩
  have v1 : -100 ≤ q := by omega
  have v2 : q ≤ 100 := by omega
  generalize heldI (quoI (a * 65536) (b * 65536)) = d at *
  generalize rootF (s * 65536) = r at *
  clear ix iy em DW hp hs hm hq h T1 T2
  by_cases h0 : a < 0
  · clear RW
    by_cases hb : b = 0
    · clear DH c3 c4 c5 c6 c7 c8 c9 c10
      have hz : (b == 0) = true := by simp [hb]
      have hz2 : (b != 0) = false := by simp [hb]
      clear hb
      go_enter Tryd.func5, Tryd.ntmps5
      go_wp2_with (first
        | (go_at_call 9; refine (A _).mono ?_; rintro e w1 ⟨rfl, B1⟩; replace B0 := B0.trans (B1.mono B0.size))
        | (go_at_call 11; refine (S _).mono ?_; rintro e w1 ⟨rfl, B1⟩; replace B0 := B0.trans (B1.mono B0.size))
        | (go_at_call 13; refine (M _).mono ?_; rintro e w1 ⟨rfl, B1⟩; replace B0 := B0.trans (B1.mono B0.size))
        | (go_at_call 15; refine (D _).mono ?_; rintro e w1 ⟨rfl, B1⟩; replace B0 := B0.trans (B1.mono B0.size))
        | (go_at_call 17; refine (R _).mono ?_; rintro e w' ⟨rfl, hw⟩; replace hw := hw.symm; subst hw)
        | (go_at_call 19; refine (K _ B0).mono ?_; rintro e w3 ⟨rfl, B3⟩; replace B0 := B0.trans (B3.mono B0.size)))
      go_quiet (fail)
      go_wp2_with (first
        | (go_at_call 17; refine (R _).mono ?_; rintro e w' ⟨rfl, hw⟩; replace hw := hw.symm; subst hw)
        | (go_at_call 19; refine Calls.mono (K _ (by exact ⟨B0.os, B0.tape, B0.output, B0.size, B0.block⟩)) ?_; rintro e w3 ⟨rfl, B3⟩; replace B0 : Below w.heap.size w w3 := (by refine Below.trans ?_ (B3.mono B0.size); exact ⟨B0.os, B0.tape, B0.output, B0.size, B0.block⟩)))
      go_ret
      exact ⟨rfl, B0⟩
    have hz : (b == 0) = false := by simp [hb]
    have hz2 : (b != 0) = true := by simp [hb]
    by_cases hm0 : m = 0
    · have DE := DH hb hm0
      subst DE
      subst hm0
      clear DH
      go_enter Tryd.func5, Tryd.ntmps5
      go_wp2_with (first
        | (go_at_call 9; refine (A _).mono ?_; rintro e w1 ⟨rfl, B1⟩; replace B0 := B0.trans (B1.mono B0.size))
        | (go_at_call 11; refine (S _).mono ?_; rintro e w1 ⟨rfl, B1⟩; replace B0 := B0.trans (B1.mono B0.size))
        | (go_at_call 13; refine (M _).mono ?_; rintro e w1 ⟨rfl, B1⟩; replace B0 := B0.trans (B1.mono B0.size))
        | (go_at_call 15; refine (D _).mono ?_; rintro e w1 ⟨rfl, B1⟩; replace B0 := B0.trans (B1.mono B0.size))
        | (go_at_call 17; refine (R _).mono ?_; rintro e w' ⟨rfl, hw⟩; replace hw := hw.symm; subst hw)
        | (go_at_call 19; refine (K _ B0).mono ?_; rintro e w3 ⟨rfl, B3⟩; replace B0 := B0.trans (B3.mono B0.size)))
      go_region_held3 (fun _ => True) (exact trivial) (first | (go_at_call 15; refine (D _).mono ?_; rintro e w4 ⟨rfl, B4⟩; replace B0 := B0.drew.trans (B4.mono B0.size)))
      go_wp2_with (first
        | (go_at_call 17; refine (R _).mono ?_; rintro e w' ⟨rfl, hw⟩; replace hw := hw.symm; subst hw)
        | (go_at_call 19; refine (K _ B0).mono ?_; rintro e w3 ⟨rfl, B3⟩; replace B0 := B0.trans (B3.mono B0.size)))
      go_ret
      exact ⟨rfl, B0⟩
    · have hm1 : (m == 0) = false := by simp [hm0]
      clear DH
      go_enter Tryd.func5, Tryd.ntmps5
      go_wp2_with (first
        | (go_at_call 9; refine (A _).mono ?_; rintro e w1 ⟨rfl, B1⟩; replace B0 := B0.trans (B1.mono B0.size))
        | (go_at_call 11; refine (S _).mono ?_; rintro e w1 ⟨rfl, B1⟩; replace B0 := B0.trans (B1.mono B0.size))
        | (go_at_call 13; refine (M _).mono ?_; rintro e w1 ⟨rfl, B1⟩; replace B0 := B0.trans (B1.mono B0.size))
        | (go_at_call 15; refine (D _).mono ?_; rintro e w1 ⟨rfl, B1⟩; replace B0 := B0.trans (B1.mono B0.size))
        | (go_at_call 17; refine (R _).mono ?_; rintro e w' ⟨rfl, hw⟩; replace hw := hw.symm; subst hw)
        | (go_at_call 19; refine (K _ B0).mono ?_; rintro e w3 ⟨rfl, B3⟩; replace B0 := B0.trans (B3.mono B0.size)))
      go_quiet (fail)
      go_wp2_with (first
        | (go_at_call 17; refine (R _).mono ?_; rintro e w' ⟨rfl, hw⟩; replace hw := hw.symm; subst hw)
        | (go_at_call 19; refine Calls.mono (K _ (by exact ⟨B0.os, B0.tape, B0.output, B0.size, B0.block⟩)) ?_; rintro e w3 ⟨rfl, B3⟩; replace B0 : Below w.heap.size w w3 := (by refine Below.trans ?_ (B3.mono B0.size); exact ⟨B0.os, B0.tape, B0.output, B0.size, B0.block⟩)))
      go_ret
      exact ⟨rfl, B0⟩
  · have RE := RW (by omega)
    subst RE
    clear RW
    by_cases hb : b = 0
    · clear DH c3 c4 c5 c6 c7 c8 c9 c10
      have hz : (b == 0) = true := by simp [hb]
      have hz2 : (b != 0) = false := by simp [hb]
      clear hb
      go_enter Tryd.func5, Tryd.ntmps5
      go_wp2_with (first
        | (go_at_call 9; refine (A _).mono ?_; rintro e w1 ⟨rfl, B1⟩; replace B0 := B0.trans (B1.mono B0.size))
        | (go_at_call 11; refine (S _).mono ?_; rintro e w1 ⟨rfl, B1⟩; replace B0 := B0.trans (B1.mono B0.size))
        | (go_at_call 13; refine (M _).mono ?_; rintro e w1 ⟨rfl, B1⟩; replace B0 := B0.trans (B1.mono B0.size))
        | (go_at_call 15; refine (D _).mono ?_; rintro e w1 ⟨rfl, B1⟩; replace B0 := B0.trans (B1.mono B0.size))
        | (go_at_call 17; refine (R _).mono ?_; rintro e w' ⟨rfl, hw⟩; replace hw := hw.symm; subst hw)
        | (go_at_call 19; refine (K _ B0).mono ?_; rintro e w3 ⟨rfl, B3⟩; replace B0 := B0.trans (B3.mono B0.size)))
      go_quiet (fail)
      go_wp2_with (first
        | (go_at_call 17; refine (R _).mono ?_; rintro e w' ⟨rfl, hw⟩; replace hw := hw.symm; subst hw)
        | (go_at_call 19; refine Calls.mono (K _ (by exact ⟨B0.os, B0.tape, B0.output, B0.size, B0.block⟩)) ?_; rintro e w3 ⟨rfl, B3⟩; replace B0 : Below w.heap.size w w3 := (by refine Below.trans ?_ (B3.mono B0.size); exact ⟨B0.os, B0.tape, B0.output, B0.size, B0.block⟩)))
      go_ret
      exact ⟨rfl, B0⟩
    have hz : (b == 0) = false := by simp [hb]
    have hz2 : (b != 0) = true := by simp [hb]
    by_cases hm0 : m = 0
    · have DE := DH hb hm0
      subst DE
      subst hm0
      clear DH
      go_enter Tryd.func5, Tryd.ntmps5
      go_wp2_with (first
        | (go_at_call 9; refine (A _).mono ?_; rintro e w1 ⟨rfl, B1⟩; replace B0 := B0.trans (B1.mono B0.size))
        | (go_at_call 11; refine (S _).mono ?_; rintro e w1 ⟨rfl, B1⟩; replace B0 := B0.trans (B1.mono B0.size))
        | (go_at_call 13; refine (M _).mono ?_; rintro e w1 ⟨rfl, B1⟩; replace B0 := B0.trans (B1.mono B0.size))
        | (go_at_call 15; refine (D _).mono ?_; rintro e w1 ⟨rfl, B1⟩; replace B0 := B0.trans (B1.mono B0.size))
        | (go_at_call 17; refine (R _).mono ?_; rintro e w' ⟨rfl, hw⟩; replace hw := hw.symm; subst hw)
        | (go_at_call 19; refine (K _ B0).mono ?_; rintro e w3 ⟨rfl, B3⟩; replace B0 := B0.trans (B3.mono B0.size)))
      go_region_held3 (fun _ => True) (exact trivial) (first | (go_at_call 15; refine (D _).mono ?_; rintro e w4 ⟨rfl, B4⟩; replace B0 := B0.drew.trans (B4.mono B0.size)))
      go_wp2_with (first
        | (go_at_call 17; refine (R _).mono ?_; rintro e w' ⟨rfl, hw⟩; replace hw := hw.symm; subst hw)
        | (go_at_call 19; refine (K _ B0).mono ?_; rintro e w3 ⟨rfl, B3⟩; replace B0 := B0.trans (B3.mono B0.size)))
      go_ret
      exact ⟨rfl, B0⟩
    · have hm1 : (m == 0) = false := by simp [hm0]
      clear DH
      go_enter Tryd.func5, Tryd.ntmps5
      go_wp2_with (first
        | (go_at_call 9; refine (A _).mono ?_; rintro e w1 ⟨rfl, B1⟩; replace B0 := B0.trans (B1.mono B0.size))
        | (go_at_call 11; refine (S _).mono ?_; rintro e w1 ⟨rfl, B1⟩; replace B0 := B0.trans (B1.mono B0.size))
        | (go_at_call 13; refine (M _).mono ?_; rintro e w1 ⟨rfl, B1⟩; replace B0 := B0.trans (B1.mono B0.size))
        | (go_at_call 15; refine (D _).mono ?_; rintro e w1 ⟨rfl, B1⟩; replace B0 := B0.trans (B1.mono B0.size))
        | (go_at_call 17; refine (R _).mono ?_; rintro e w' ⟨rfl, hw⟩; replace hw := hw.symm; subst hw)
        | (go_at_call 19; refine (K _ B0).mono ?_; rintro e w3 ⟨rfl, B3⟩; replace B0 := B0.trans (B3.mono B0.size)))
      go_quiet (fail)
      go_wp2_with (first
        | (go_at_call 17; refine (R _).mono ?_; rintro e w' ⟨rfl, hw⟩; replace hw := hw.symm; subst hw)
        | (go_at_call 19; refine Calls.mono (K _ (by exact ⟨B0.os, B0.tape, B0.output, B0.size, B0.block⟩)) ?_; rintro e w3 ⟨rfl, B3⟩; replace B0 : Below w.heap.size w w3 := (by refine Below.trans ?_ (B3.mono B0.size); exact ⟨B0.os, B0.tape, B0.output, B0.size, B0.block⟩)))
      go_ret
      exact ⟨rfl, B0⟩
end Go.Proofs.YtfciaohicbchgaaDoor
