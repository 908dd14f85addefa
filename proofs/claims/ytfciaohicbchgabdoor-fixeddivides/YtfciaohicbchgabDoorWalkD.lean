/-
  FixedDivides, walked.
-/
import Derived.Test.YtfciaohicbchgabDoorKnown
namespace Go.Proofs.YtfciaohicbchgabDoor
open Go.RowKit
theorem heldI_id {x : Int} (h : In32 x) : heldI x = x := by unfold heldI; have := h.1; have := h.2; rw [if_neg (by omega), if_neg (by omega)]
theorem heldI_mid {x : Int} (h1 : heldI x ≠ 2147483647) (h2 : heldI x ≠ -2147483648) : heldI x = x ∧ In32 x := by
  unfold heldI In32 at *
  split at h1 <;> (try split at h1) <;> simp_all <;> omega
set_option maxHeartbeats 2000000 in
theorem divides_walk (a b : Int) (ha : In32 a) (hb : In32 b) (w : World) (h : Tb w) : Calls Tryd.prog 3 #[.int .i32 a, .int .i32 b] w fun e w' => e = .returned (.bool true) ∧ Below w.heap.size w w' := by
  have K := fun (w1 : World) (hb : Below w.heap.size w w1) => known_any w1 (h.below hb (Nat.le_refl _))
  have D := Div_any a b ha hb
  have i65 : In32 65536 := ⟨by decide, by decide⟩
  have D1 := Div_any a 65536 ha i65
  have D2 := Div_any b b hb hb
  have M := Mul_any a 65536 ha i65
  have h1 := ha.1; have h2 := ha.2; have h3 := hb.1; have h4 := hb.2
  rw [show quoI a 65536 = a by unfold quoI; rw [if_neg (by decide)]; exact Int.mul_tdiv_cancel _ (by decide), heldI_id ha] at D1
  rw [Int.mul_ediv_cancel _ (by decide), heldI_id ha] at M
  clear h i65
  by_cases hz : b = 0
  · subst hz
    clear D1 D2 M
    by_cases h5 : 0 < a
    · rw [show heldI (quoI a 0) = 2147483647 by unfold quoI; rw [if_pos rfl, if_pos h5]; rfl] at D
      go_enter Tryd.func3, Tryd.ntmps3
      go_wp2_with (first
        | (go_at_call 4; refine (D _).mono ?_; rintro e w1 ⟨rfl, B1⟩)
        | (go_at_call 5; refine (K _ B1).mono ?_; rintro e w3 ⟨rfl, B3⟩; replace B1 := B1.trans (B3.mono B1.size)))
      go_ret
      exact ⟨rfl, B1⟩
    by_cases h6 : a < 0
    · rw [show heldI (quoI a 0) = -2147483648 by unfold quoI; rw [if_pos rfl, if_neg h5, if_pos h6]; rfl] at D
      go_enter Tryd.func3, Tryd.ntmps3
      go_wp2_with (first
        | (go_at_call 4; refine (D _).mono ?_; rintro e w1 ⟨rfl, B1⟩)
        | (go_at_call 5; refine (K _ B1).mono ?_; rintro e w3 ⟨rfl, B3⟩; replace B1 := B1.trans (B3.mono B1.size)))
      go_ret
      exact ⟨rfl, B1⟩
    · rw [show heldI (quoI a 0) = 0 by unfold quoI; rw [if_pos rfl, if_neg h5, if_neg h6]; rfl] at D
      go_enter Tryd.func3, Tryd.ntmps3
      go_wp2_with (first
        | (go_at_call 4; refine (D _).mono ?_; rintro e w1 ⟨rfl, B1⟩)
        | (go_at_call 5; refine (K _ B1).mono ?_; rintro e w3 ⟨rfl, B3⟩; replace B1 := B1.trans (B3.mono B1.size)))
      go_ret
      exact ⟨rfl, B1⟩
  have hz1 : (b == 0) = false := by simp [hz]
  rw [show quoI b b = 65536 by unfold quoI; rw [if_neg hz, Int.mul_comm]; exact Int.mul_tdiv_cancel _ hz, heldI_id ⟨by decide, by decide⟩] at D2
  have hQ : quoI a b = (a * 65536).tdiv b := by unfold quoI; rw [if_neg hz]
  have hmid := heldI_mid (x := quoI a b)
  generalize heldI (quoI a b) = q at *
  have c1 : wrap64 a = a := by unfold wrap64; omega
  have c2 : wrap64 b = b := by unfold wrap64; omega
  by_cases hq1 : q = 2147483647
  · subst hq1
    clear hmid hQ
    go_enter Tryd.func3, Tryd.ntmps3
    go_wp2_with (first
      | (go_at_call_of 4 (Value.int .i32 a); first | (refine (D _).mono ?_; rintro e w1 ⟨rfl, B1⟩) | (refine (D1 _).mono ?_; rintro e w2 ⟨rfl, B2⟩; replace B1 := B1.trans (B2.mono B1.size)))
      | (go_at_call 4; refine (D2 _).mono ?_; rintro e w2 ⟨rfl, B2⟩; replace B1 := B1.trans (B2.mono B1.size))
      | (go_at_call 6; refine (M _).mono ?_; rintro e w2 ⟨rfl, B2⟩; replace B1 := B1.trans (B2.mono B1.size))
      | (go_at_call 5; refine (K _ B1).mono ?_; rintro e w3 ⟨rfl, B3⟩; replace B1 := B1.trans (B3.mono B1.size)))
    go_ret
    exact ⟨rfl, B1⟩
  by_cases hq2 : q = -2147483648
  · subst hq2
    clear hmid hQ
    go_enter Tryd.func3, Tryd.ntmps3
    go_wp2_with (first
      | (go_at_call_of 4 (Value.int .i32 a); first | (refine (D _).mono ?_; rintro e w1 ⟨rfl, B1⟩) | (refine (D1 _).mono ?_; rintro e w2 ⟨rfl, B2⟩; replace B1 := B1.trans (B2.mono B1.size)))
      | (go_at_call 4; refine (D2 _).mono ?_; rintro e w2 ⟨rfl, B2⟩; replace B1 := B1.trans (B2.mono B1.size))
      | (go_at_call 6; refine (M _).mono ?_; rintro e w2 ⟨rfl, B2⟩; replace B1 := B1.trans (B2.mono B1.size))
      | (go_at_call 5; refine (K _ B1).mono ?_; rintro e w3 ⟨rfl, B3⟩; replace B1 := B1.trans (B3.mono B1.size)))
    go_ret
    exact ⟨rfl, B1⟩
  obtain ⟨e1, e2⟩ := hmid hq1 hq2
  rw [← e1] at e2 hQ
  have hr : a * 65536 - q * b = (a * 65536).tmod b := by
    have := Int.mul_tdiv_add_tmod (a * 65536) b
    rw [← hQ, Int.mul_comm] at this
    omega
  obtain ⟨p1, p2⟩ := mul_in e2 hb
  have l1 : ((a * 65536).tmod b).natAbs < b.natAbs := by rw [Int.natAbs_tmod]; exact Nat.mod_lt _ (by omega)
  have q1 : (q == 2147483647) = false := by simp [hq1]
  have q2 : (q == -2147483648) = false := by simp [hq2]
  have n1 := e2.1; have n2 := e2.2
  have c3 : wrap64 q = q := by unfold wrap64; omega
  have c4 : wrap64 (a * 65536) = a * 65536 := by unfold wrap64; omega
  rw [← hr] at l1
  obtain ⟨p, hp⟩ : ∃ p, p = q * b := ⟨_, rfl⟩
  rw [← hp] at l1 p1 p2
  have c5 : wrap64 (q * b) = p := by rw [← hp]; unfold wrap64; omega
  have c6 : wrap64 (a * 65536 - p) = a * 65536 - p := by unfold wrap64; omega
  obtain ⟨r, hr2⟩ : ∃ r, r = a * 65536 - p := ⟨_, rfl⟩
  rw [← hr2] at l1 c6
  have d1 : -2147483648 ≤ a * 65536 - p := by omega
  have d2 : a * 65536 - p ≤ 2147483648 := by omega
  subst hr2
  clear hr hp e1 e2 hQ hmid
  by_cases g1 : a * 65536 - p < 0
  · by_cases g2 : b < 0
    · have g4 : b < a * 65536 - p := by omega
      go_enter Tryd.func3, Tryd.ntmps3
      go_wp2_with (first
        | (go_at_call_of 4 (Value.int .i32 a); first | (refine (D _).mono ?_; rintro e w1 ⟨rfl, B1⟩) | (refine (D1 _).mono ?_; rintro e w2 ⟨rfl, B2⟩; replace B1 := B1.trans (B2.mono B1.size)))
        | (go_at_call 4; refine (D2 _).mono ?_; rintro e w2 ⟨rfl, B2⟩; replace B1 := B1.trans (B2.mono B1.size))
        | (go_at_call 6; refine (M _).mono ?_; rintro e w2 ⟨rfl, B2⟩; replace B1 := B1.trans (B2.mono B1.size))
        | (go_at_call 5; refine (K _ B1).mono ?_; rintro e w3 ⟨rfl, B3⟩; replace B1 := B1.trans (B3.mono B1.size)))
      go_ret
      exact ⟨rfl, B1⟩
    · have g3 : -(a * 65536 - p) < b := by omega
      have g4 : p - a * 65536 < b := by omega
      go_enter Tryd.func3, Tryd.ntmps3
      go_wp2_with (first
        | (go_at_call_of 4 (Value.int .i32 a); first | (refine (D _).mono ?_; rintro e w1 ⟨rfl, B1⟩) | (refine (D1 _).mono ?_; rintro e w2 ⟨rfl, B2⟩; replace B1 := B1.trans (B2.mono B1.size)))
        | (go_at_call 4; refine (D2 _).mono ?_; rintro e w2 ⟨rfl, B2⟩; replace B1 := B1.trans (B2.mono B1.size))
        | (go_at_call 6; refine (M _).mono ?_; rintro e w2 ⟨rfl, B2⟩; replace B1 := B1.trans (B2.mono B1.size))
        | (go_at_call 5; refine (K _ B1).mono ?_; rintro e w3 ⟨rfl, B3⟩; replace B1 := B1.trans (B3.mono B1.size)))
      go_ret
      exact ⟨rfl, B1⟩
  · by_cases g2 : b < 0
    · have g3 : a * 65536 - p < -b := by omega
      go_enter Tryd.func3, Tryd.ntmps3
      go_wp2_with (first
        | (go_at_call_of 4 (Value.int .i32 a); first | (refine (D _).mono ?_; rintro e w1 ⟨rfl, B1⟩) | (refine (D1 _).mono ?_; rintro e w2 ⟨rfl, B2⟩; replace B1 := B1.trans (B2.mono B1.size)))
        | (go_at_call 4; refine (D2 _).mono ?_; rintro e w2 ⟨rfl, B2⟩; replace B1 := B1.trans (B2.mono B1.size))
        | (go_at_call 6; refine (M _).mono ?_; rintro e w2 ⟨rfl, B2⟩; replace B1 := B1.trans (B2.mono B1.size))
        | (go_at_call 5; refine (K _ B1).mono ?_; rintro e w3 ⟨rfl, B3⟩; replace B1 := B1.trans (B3.mono B1.size)))
      go_ret
      exact ⟨rfl, B1⟩
    · have g3 : a * 65536 - p < b := by omega
      go_enter Tryd.func3, Tryd.ntmps3
      go_wp2_with (first
        | (go_at_call_of 4 (Value.int .i32 a); first | (refine (D _).mono ?_; rintro e w1 ⟨rfl, B1⟩) | (refine (D1 _).mono ?_; rintro e w2 ⟨rfl, B2⟩; replace B1 := B1.trans (B2.mono B1.size)))
        | (go_at_call 4; refine (D2 _).mono ?_; rintro e w2 ⟨rfl, B2⟩; replace B1 := B1.trans (B2.mono B1.size))
        | (go_at_call 6; refine (M _).mono ?_; rintro e w2 ⟨rfl, B2⟩; replace B1 := B1.trans (B2.mono B1.size))
        | (go_at_call 5; refine (K _ B1).mono ?_; rintro e w3 ⟨rfl, B3⟩; replace B1 := B1.trans (B3.mono B1.size)))
      go_ret
      exact ⟨rfl, B1⟩
end Go.Proofs.YtfciaohicbchgabDoor
