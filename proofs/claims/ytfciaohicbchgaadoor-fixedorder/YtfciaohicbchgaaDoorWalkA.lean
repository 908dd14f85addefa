/-
  FixedReckons, FixedLaws, FixedHolds, walked.
-/
import Derived.Test.YtfciaohicbchgaaDoorKnown
namespace Go.Proofs.YtfciaohicbchgaaDoor
open Go.RowKit
set_option maxHeartbeats 2000000 in
theorem root_ex (a : Int) (ha : In32 a) : ∃ r, RootIs a r := by
  have key : ∀ k r, Near a r k → ∃ r, RootIs a r := by
    intro k
    induction k with
    | zero => exact fun r h => ⟨r, h.last⟩
    | succ k ih =>
      intro r h
      rcases Int.lt_or_le (sqV a) ((r + 2 ^ k) * (r + 2 ^ k)) with hx | hx
      · exact ih _ (h.stay hx)
      · exact ih _ (h.up hx)
  exact key 24 0 (Near.start ha)
set_option maxHeartbeats 2000000 in
theorem reckons_walk (a b : Int) (ha : In32 a) (hb : In32 b) (w : World) (h : Tb w) : Calls Tryd.prog 3 #[.int .i32 a, .int .i32 b] w fun e w' => e = .returned (.bool true) ∧ Below w.heap.size w w' := by
  have A := Add_any a b ha hb; have A' := RefAdd_any a b ha hb
  have S := Sub_any a b ha hb; have S' := RefSub_any a b ha hb
  have M := Mul_any a b ha hb; have M' := RefMul_any a b ha hb
  have D := Div_any a b ha hb; have D' := RefDiv_any a b ha hb
  have R := Root_any a ha; have R' := RefRoot_any a ha
  have K := fun (w1 : World) (hb : Below w.heap.size w w1) => known_any w1 (h.below hb (Nat.le_refl _))
  generalize heldI (a + b) = x1 at *
  generalize heldI (a - b) = x2 at *
  generalize heldI (a * b / 65536) = x3 at *
  generalize heldI (quoI a b) = x4 at *
  generalize rootF a = x5 at *
  clear ha hb h
  go_enter Tryd.func3, Tryd.ntmps3
  go_wp2_with (first
    | (go_at_call 9; refine (A _).mono ?_; rintro e w1 ⟨rfl, B1⟩)
    | (go_at_call 10; refine (A' _).mono ?_; rintro e w' ⟨rfl, hw⟩; replace hw := hw.symm; subst hw)
    | (go_at_call 11; refine (S _).mono ?_; rintro e w2 ⟨rfl, B2⟩; replace B1 := B1.trans (B2.mono B1.size))
    | (go_at_call 12; refine (S' _).mono ?_; rintro e w' ⟨rfl, hw⟩; replace hw := hw.symm; subst hw)
    | (go_at_call 13; refine (M _).mono ?_; rintro e w2 ⟨rfl, B2⟩; replace B1 := B1.trans (B2.mono B1.size))
    | (go_at_call 14; refine (M' _).mono ?_; rintro e w' ⟨rfl, hw⟩; replace hw := hw.symm; subst hw)
    | (go_at_call 15; refine (D _).mono ?_; rintro e w2 ⟨rfl, B2⟩; replace B1 := B1.trans (B2.mono B1.size))
    | (go_at_call 16; refine (D' _).mono ?_; rintro e w' ⟨rfl, hw⟩; replace hw := hw.symm; subst hw)
    | (go_at_call 17; refine (R _).mono ?_; rintro e w' ⟨rfl, hw⟩; replace hw := hw.symm; subst hw)
    | (go_at_call 18; refine (R' _).mono ?_; rintro e w' ⟨rfl, hw⟩; replace hw := hw.symm; subst hw)
    | (go_at_call 19; refine (K _ B1).mono ?_; rintro e w3 ⟨rfl, B3⟩; replace B1 := B1.trans (B3.mono B1.size)))
  go_ret
  exact ⟨rfl, B1⟩
set_option maxHeartbeats 2000000 in
theorem laws_walk (a b : Int) (ha : In32 a) (hb : In32 b) (w : World) (h : Tb w) : Calls Tryd.prog 6 #[.int .i32 a, .int .i32 b] w fun e w' => e = .returned (.bool true) ∧ Below w.heap.size w w' := by
  have A := Add_any a b ha hb; have A' := Add_any b a hb ha
  have M := Mul_any a b ha hb; have M' := Mul_any b a hb ha
  rw [Int.add_comm b a] at A'
  rw [Int.mul_comm b a] at M'
  have R := Root_any a ha
  have K := fun (w1 : World) (hb : Below w.heap.size w w1) => known_any w1 (h.below hb (Nat.le_refl _))
  obtain ⟨r, hr⟩ := root_ex a ha
  rw [← hr.eq] at R
  generalize heldI (a + b) = x1 at *
  generalize heldI (a * b / 65536) = x3 at *
  obtain ⟨q1, q2, q3, q4⟩ := hr
  have h1 := ha.1; have h2 := ha.2
  clear ha hb h
  by_cases h0 : a ≤ 0
  · obtain rfl : r = 0 := by
      rw [sqV, if_pos h0] at q3
      rcases Int.lt_or_le 0 r with h | h
      · have := sq_mono (x := 1) (y := r) (by decide) (by omega); omega
      · omega
    clear q1 q2 q3 q4
    go_enter Tryd.func6, Tryd.ntmps6
    go_wp2_with (first
      | (go_at_call 9; refine (A _).mono ?_; rintro e w1 ⟨rfl, B1⟩)
      | (go_at_call 9; refine (A' _).mono ?_; rintro e w2 ⟨rfl, B2⟩; replace B1 := B1.trans (B2.mono B1.size))
      | (go_at_call 13; refine (M _).mono ?_; rintro e w2 ⟨rfl, B2⟩; replace B1 := B1.trans (B2.mono B1.size))
      | (go_at_call 13; refine (M' _).mono ?_; rintro e w2 ⟨rfl, B2⟩; replace B1 := B1.trans (B2.mono B1.size))
      | (go_at_call 17; refine (R _).mono ?_; rintro e w' ⟨rfl, hw⟩; replace hw := hw.symm; subst hw)
      | (go_at_call 19; refine (K _ B1).mono ?_; rintro e w3 ⟨rfl, B3⟩; replace B1 := B1.trans (B3.mono B1.size)))
    go_ret
    exact ⟨rfl, B1⟩
  · rw [sqV, if_neg h0] at q3 q4
    have c1 : wrap64 r = r := by unfold wrap64; omega
    have c2 : wrap64 a = a := by unfold wrap64; omega
    have e3 := sq_mono (x := r) (y := 33554432) q1 (by omega)
    have e4 := sq_mono (x := 0) (y := r) (by decide) q1
    have e5 := sq_mono (x := r + 1) (y := 33554432) (by omega) (by omega)
    have e6 := sq_mono (x := 0) (y := r + 1) (by decide) (by omega)
    obtain ⟨y, hy⟩ : ∃ y, y = r * r := ⟨_, rfl⟩
    obtain ⟨z, hz⟩ : ∃ z, z = (r + 1) * (r + 1) := ⟨_, rfl⟩
    rw [← hz] at q4 e5 e6
    rw [← hy] at q3 e3 e4
    have c3 : wrap64 (r * r) = y := by rw [← hy]; unfold wrap64; omega
    have c5 : wrap64 ((r + 1) * (r + 1)) = z := by rw [← hz]; unfold wrap64; omega
    have c6 : wrap64 (a * 65536) = a * 65536 := by unfold wrap64; omega
    clear hy hz e3 e4 e5 e6
    go_enter Tryd.func6, Tryd.ntmps6
    go_wp2_with (first
      | (go_at_call 9; refine (A _).mono ?_; rintro e w1 ⟨rfl, B1⟩)
      | (go_at_call 9; refine (A' _).mono ?_; rintro e w2 ⟨rfl, B2⟩; replace B1 := B1.trans (B2.mono B1.size))
      | (go_at_call 13; refine (M _).mono ?_; rintro e w2 ⟨rfl, B2⟩; replace B1 := B1.trans (B2.mono B1.size))
      | (go_at_call 13; refine (M' _).mono ?_; rintro e w2 ⟨rfl, B2⟩; replace B1 := B1.trans (B2.mono B1.size))
      | (go_at_call 17; refine (R _).mono ?_; rintro e w' ⟨rfl, hw⟩; replace hw := hw.symm; subst hw)
      | (go_at_call 19; refine (K _ B1).mono ?_; rintro e w3 ⟨rfl, B3⟩; replace B1 := B1.trans (B3.mono B1.size)))
    go_ret
    exact ⟨rfl, B1⟩
set_option maxHeartbeats 2000000 in
theorem holds_walk (a b : Int) (ha : In32 a) (hb : In32 b) (w : World) (h : Tb w) : Calls Tryd.prog 7 #[.int .i32 a, .int .i32 b] w fun e w' => e = .returned (.bool true) ∧ Below w.heap.size w w' := by
  have A := Add_any a b ha hb
  have K := fun (w1 : World) (hb : Below w.heap.size w w1) => known_any w1 (h.below hb (Nat.le_refl _))
  have h1 := ha.1; have h2 := ha.2; have h3 := hb.1; have h4 := hb.2
  have c1 : wrap64 a = a := by unfold wrap64; omega
  have c2 : wrap64 b = b := by unfold wrap64; omega
  have c3 : wrap64 (a + b) = a + b := by unfold wrap64; omega
  have HA := hid_into ha
  have HB := hid_into hb
  clear ha hb h
  by_cases hlo : a + b < -2147483648
  · rw [show heldI (a + b) = -2147483648 by unfold heldI; rw [if_pos hlo]] at A
    go_enter Tryd.func7, Tryd.ntmps7
    go_wp2_with (first
      | (go_at_call 9; refine (A _).mono ?_; rintro e w1 ⟨rfl, B1⟩)
      | (go_at_call 19; refine (K _ B1).mono ?_; rintro e w3 ⟨rfl, B3⟩; replace B1 := B1.trans (B3.mono B1.size)))
    go_ret
    exact ⟨rfl, B1⟩
  by_cases hhi : 2147483647 < a + b
  · rw [show heldI (a + b) = 2147483647 by unfold heldI; rw [if_neg hlo, if_pos hhi]] at A
    go_enter Tryd.func7, Tryd.ntmps7
    go_wp2_with (first
      | (go_at_call 9; refine (A _).mono ?_; rintro e w1 ⟨rfl, B1⟩)
      | (go_at_call 19; refine (K _ B1).mono ?_; rintro e w3 ⟨rfl, B3⟩; replace B1 := B1.trans (B3.mono B1.size)))
    go_ret
    exact ⟨rfl, B1⟩
  rw [show heldI (a + b) = a + b by unfold heldI; rw [if_neg hlo, if_neg hhi]] at A
  have S := Sub_any (a + b) b ⟨by omega, by omega⟩ HB.out
  rw [show a + b - b = a by omega, show heldI a = a by unfold heldI; rw [if_neg (by omega), if_neg (by omega)]] at S
  go_enter Tryd.func7, Tryd.ntmps7
  go_wp2_with (first
    | (go_at_call 9; refine (A _).mono ?_; rintro e w1 ⟨rfl, B1⟩)
    | (go_at_call 11; refine (S _).mono ?_; rintro e w2 ⟨rfl, B2⟩; replace B1 := B1.trans (B2.mono B1.size))
    | (go_at_call 19; refine (K _ B1).mono ?_; rintro e w3 ⟨rfl, B3⟩; replace B1 := B1.trans (B3.mono B1.size)))
  go_ret
  exact ⟨rfl, B1⟩
end Go.Proofs.YtfciaohicbchgaaDoor
