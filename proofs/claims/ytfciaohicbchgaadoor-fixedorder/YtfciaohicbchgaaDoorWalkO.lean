/-
  FixedOrder, walked.
-/
import Derived.Test.YtfciaohicbchgaaDoorWalkA
namespace Go.Proofs.YtfciaohicbchgaaDoor
open Go.RowKit
theorem heldI_mono {x y : Int} (h : x ≤ y) : heldI x ≤ heldI y := by unfold heldI; split <;> split <;> (try split) <;> (try split) <;> omega
set_option maxHeartbeats 2000000 in
theorem order_walk (a b c : Int) (ha : In32 a) (hb : In32 b) (hc : In32 c) (w : World) (h : Tb w) : Calls Tryd.prog 8 #[.int .i32 a, .int .i32 b, .int .i32 c] w fun e w' => e = .returned (.bool true) ∧ Below w.heap.size w w' := by
  have K := fun (w1 : World) (hb : Below w.heap.size w w1) => known_any w1 (h.below hb (Nat.le_refl _))
  have M1 := Mul_any a c ha hc; have M2 := Mul_any b c hb hc
  have A1 := Add_any a c ha hc; have A2 := Add_any b c hb hc
  have R1 := Root_any a ha; have R2 := Root_any b hb
  have L1 : 0 ≤ c → a ≤ b → heldI (a * c / 65536) ≤ heldI (b * c / 65536) := fun h1 h2 => heldI_mono (Int.ediv_le_ediv (by decide) (Int.mul_le_mul_of_nonneg_right h2 h1))
  have L2 : a ≤ b → heldI (a + c) ≤ heldI (b + c) := fun h1 => heldI_mono (by omega)
  have L3 : a ≤ b → rootF a ≤ rootF b := fun h1 => by
    obtain ⟨r, hr⟩ := root_ex a ha
    obtain ⟨s, hs⟩ := root_ex b hb
    rw [← hr.eq, ← hs.eq]
    exact hr.le hs h1
  generalize heldI (a * c / 65536) = x1 at *
  generalize heldI (b * c / 65536) = x2 at *
  generalize heldI (a + c) = x3 at *
  generalize heldI (b + c) = x4 at *
  generalize rootF a = x5 at *
  generalize rootF b = x6 at *
  have B0 := Below.refl w.heap.size w
  clear ha hb hc h
  by_cases h0 : c < 0
  · clear L1 L2 L3
    go_enter Tryd.func8, Tryd.ntmps8
    go_wp2_with (go_at_call 19; refine (K _ B0).mono ?_; rintro e w3 ⟨rfl, B3⟩)
    go_ret
    exact ⟨rfl, B3⟩
  by_cases h1 : b < a
  · clear L1 L2 L3
    go_enter Tryd.func8, Tryd.ntmps8
    go_wp2_with (go_at_call 19; refine (K _ B0).mono ?_; rintro e w3 ⟨rfl, B3⟩)
    go_ret
    exact ⟨rfl, B3⟩
  have g1 : (decide (c < 0)) = false := by simp; omega
  have g2 : (decide (b < a)) = false := by simp; omega
  replace L1 := L1 (by omega) (by omega)
  replace L2 := L2 (by omega)
  replace L3 := L3 (by omega)
  go_enter Tryd.func8, Tryd.ntmps8
  go_wp2_with (first
    | (go_at_call_of 13 (Value.int .i32 a); refine (M1 _).mono ?_; rintro e w1 ⟨rfl, B1⟩; replace B0 := B0.trans (B1.mono B0.size))
    | (go_at_call 13; refine (M2 _).mono ?_; rintro e w1 ⟨rfl, B1⟩; replace B0 := B0.trans (B1.mono B0.size))
    | (go_at_call_of 9 (Value.int .i32 a); refine (A1 _).mono ?_; rintro e w1 ⟨rfl, B1⟩; replace B0 := B0.trans (B1.mono B0.size))
    | (go_at_call 9; refine (A2 _).mono ?_; rintro e w1 ⟨rfl, B1⟩; replace B0 := B0.trans (B1.mono B0.size))
    | (go_at_call_of 17 (Value.int .i32 a); refine (R1 _).mono ?_; rintro e w' ⟨rfl, hw⟩; replace hw := hw.symm; subst hw)
    | (go_at_call 17; refine (R2 _).mono ?_; rintro e w' ⟨rfl, hw⟩; replace hw := hw.symm; subst hw)
    | (go_at_call 19; refine (K _ B0).mono ?_; rintro e w3 ⟨rfl, B3⟩; replace B0 := B0.trans (B3.mono B0.size)))
  go_ret
  exact ⟨rfl, B0⟩
end Go.Proofs.YtfciaohicbchgaaDoor
