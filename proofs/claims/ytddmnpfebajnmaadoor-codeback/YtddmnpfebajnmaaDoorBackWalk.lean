/-
  CodeBack, walked.
-/
import Derived.Test.YtddmnpfebajnmaaDoorProgs
import Derived.Test.YtddmnpfebajnmaaDoorEnc
import Derived.Test.YtddmnpfebajnmaaDoorDec
import Derived.Test.YtddmnpfebajnmaaDoorParse
namespace Go.Proofs.YtddmnpfebajnmaaDoor
open Go.RowKit
theorem insB_byt {x : Ii} (h : In64 x.2) : Byt (insB x) := by
  intro z hz
  unfold insB at hz
  rcases List.mem_cons.1 hz with rfl | hz
  · omega
  · split at hz
    · exact numOf_byt x.2 h.1 h.2 z hz
    · cases hz
theorem encB_byt {l : List Ii} (h : Okp l) : Byt (encB l) := by
  intro z hz
  have hl := h.len
  rcases List.mem_append.1 hz with hz | hz
  · exact numOf_byt _ (by omega) (by omega) z hz
  · obtain ⟨x, hx, hz⟩ := List.mem_flatMap.1 hz
    exact insB_byt (h.in64 x hx) z hz
set_option maxRecDepth 20000 in
set_option maxHeartbeats 4000000 in
theorem back_walk (v : Value) (l : List Ii) (w : World) (h : Ls w v l) (ht : Tt w) :
    Calls Tryd.prog 6 #[v] w fun e w' => e = .returned (.bool true) ∧ Below w.heap.size w w' := by
  obtain ⟨ao, cap, rfl, hm⟩ := h.len
  have hm' : l.length ≤ 9223372036854775807 := by unfold maxLen at hm; omega
  by_cases h3 : 3000 < l.length
  · clear h hm
    go_enter Tryd.func6, Tryd.ntmps6
    go_wp2
    go_ret
    exact ⟨rfl, Below.refl _ _⟩
  have HL0 := hid_into h
  have HT0 := hid_into ht
  have C11 := fun W h' => encode_any (.slice ao l.length cap) l W h'
  have C13 := fun W h' h'' => print_any (.slice ao l.length cap) l W h' h''
  clear h hm ht
  by_cases hok : (chk l).2 = 0
  · have hO : Okp l := hok
    have hlen := hO.len
    rw [show encR l = encB l from if_pos hok, hok] at C11
    rw [show prnL l = textL l from if_pos hok, hok] at C13
    have C19 := fun s W h' => decode_any s (encB l) W h' (by have := encB_len l; omega) (encB_byt hO)
    have C22 := fun W h' => parse_any (textL l) (by have := textL_len l hO.in64; omega) W h'
    rw [decP_enc hO] at C19
    rw [parS_text hO] at C22
    simp only at C19 C22
    clear hok hO
    generalize encB l = eb at *
    generalize textL l = tx at *
    go_enter Tryd.func6, Tryd.ntmps6
    go_wp2_with (first
      | (go_at_call 11; refine (C11 _ HL0.out).mono ?_; rintro e w1 ⟨s1, rfl, h1, B1⟩; have HB1 := hid_into B1; have HS1 := hid_into h1; clear h1 B1)
      | (go_at_call 13; refine (C13 _ (HL0.out.below HB1.out) (HT0.out.tp.below HB1.out (Nat.le_refl _))).mono ?_; rintro e w2 ⟨rfl, B2⟩; have HB2 := hid_into (HB1.out.trans (B2.mono HB1.out.size)); have HS2 := hid_into (HS1.out.below B2 (Nat.le_refl _)); clear B2)
      | (go_at_call 19; refine (C19 _ _ HS2.out).mono ?_; rintro e w3 ⟨s3, rfl, h3', B3⟩; have HB3 := hid_into (HB2.out.trans (B3.mono HB2.out.size)); have HX3 := hid_into h3'; clear h3' B3)
      | (go_at_call 22; refine (C22 _ (HT0.out.below HB3.out (Nat.le_refl _))).mono ?_; rintro e w4 ⟨s4, rfl, h4, B4⟩; have HB4 := hid_into (HB3.out.trans (B4.mono HB3.out.size)); have HX4 := hid_into (HX3.out.below B4); have HY4 := hid_into h4; clear h4 B4)
      | (go_at_call 16; go_at_call_of 16 s3; refine (programs_any _ _ _ _ _ HX4.out (HL0.out.below HB4.out)).mono ?_; rintro e w5 ⟨rfl, sm5⟩; rw [eqI_true rfl]; have HB5 := hid_into (HB4.out.trans (sm5.below _)); have HY5 := hid_into (HY4.out.sm sm5); clear sm5)
      | (go_at_call 16; refine (programs_any _ _ _ _ _ HY5.out (HL0.out.below HB5.out)).mono ?_; rintro e w6 ⟨rfl, sm6⟩; rw [eqI_true rfl]; have HB6 := hid_into (HB5.out.trans (sm6.below _)); clear sm6)
      | (go_at_call 17; refine (known_any _ (HT0.out.tp.below HB6.out (Nat.le_refl _))).mono ?_; rintro e w7 ⟨rfl, B7⟩))
    go_ret
    exact ⟨rfl, HB6.out.trans (B7.mono HB6.out.size)⟩
  · generalize chk l = c at *
    generalize encR l = eb at *
    generalize prnL l = tx at *
    have hne : (c.2 != 0) = true := by simp [hok]
    go_enter Tryd.func6, Tryd.ntmps6
    go_wp2_with (first
      | (go_at_call 11; refine (C11 _ HL0.out).mono ?_; rintro e w1 ⟨s1, rfl, h1, B1⟩; have HB1 := hid_into B1; clear h1 B1)
      | (go_at_call 13; refine (C13 _ (HL0.out.below HB1.out) (HT0.out.tp.below HB1.out (Nat.le_refl _))).mono ?_; rintro e w2 ⟨rfl, B2⟩; have HB2 := hid_into (HB1.out.trans (B2.mono HB1.out.size)); clear B2)
      | (go_at_call 17; refine (known_any _ (HT0.out.tp.below HB2.out (Nat.le_refl _))).mono ?_; rintro e w7 ⟨rfl, B7⟩))
    go_ret
    exact ⟨rfl, HB2.out.trans (B7.mono HB2.out.size)⟩
end Go.Proofs.YtddmnpfebajnmaaDoor
