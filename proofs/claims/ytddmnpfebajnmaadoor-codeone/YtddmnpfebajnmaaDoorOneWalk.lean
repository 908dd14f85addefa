/-
  CodeOne, walked.
-/
import Derived.Test.YtddmnpfebajnmaaDoorProgs
import Derived.Test.YtddmnpfebajnmaaDoorEnc
import Derived.Test.YtddmnpfebajnmaaDoorLinesP
namespace Go.Proofs.YtddmnpfebajnmaaDoor
open Go.RowKit
set_option maxRecDepth 20000 in
set_option maxHeartbeats 4000000 in
theorem one_walk (va vb : Value) (la lb : List Ii) (w : World) (ha : Ls w va la) (hb : Ls w vb lb) (hla : la.length ≤ 140737488355328) (hlb : lb.length ≤ 140737488355328) (ht : Tp w) :
    Calls Tryd.prog 7 #[va, vb] w fun e w' => e = .returned (.bool true) ∧ Below w.heap.size w w' := by
  obtain ⟨ao, cap, rfl, hm⟩ := ha.len
  obtain ⟨bo, dap, rfl, hn⟩ := hb.len
  have HA0 := hid_into ha
  have HD0 := hid_into hb
  have HT0 := hid_into ht
  clear ha hb hm hn ht
  have CA := fun W h' => encode_any (.slice ao la.length cap) la W h'
  have CB := fun W h' => encode_any (.slice bo lb.length dap) lb W h'
  have PA := fun W h' h'' => print_any (.slice ao la.length cap) la W h' h''
  have PB := fun W h' h'' => print_any (.slice bo lb.length dap) lb W h' h''
  by_cases h3 : (3000 : Int) < la.length + lb.length
  · go_enter Tryd.func7, Tryd.ntmps7
    go_wp2
    go_ret
    exact ⟨rfl, Below.refl _ _⟩
  by_cases hoa : (chk la).2 = 0
  · by_cases hob : (chk lb).2 = 0
    · have hA : Okp la := hoa
      have hB : Okp lb := hob
      rw [show encR la = encB la from if_pos hoa] at CA
      rw [show encR lb = encB lb from if_pos hob] at CB
      rw [show prnL la = textL la from if_pos hoa] at PA
      rw [show prnL lb = textL lb from if_pos hob] at PB
      rw [hoa] at CA PA
      rw [hob] at CB PB
      have HE : Hid (eqB (encB la) (encB lb) = eqI la lb) := by
        show _ = _
        by_cases h : la = lb
        · rw [eqI_true h, eqB_true (by rw [h])]
        · rw [eqI_false h, eqB_false (fun e => h (encB_inj hA hB e))]
      have HF : Hid ((textL la == textL lb) = eqI la lb) := by
        show _ = _
        by_cases h : la = lb
        · rw [eqI_true h, h]; simp
        · rw [eqI_false h]
          apply beq_false_of_ne
          exact fun e => h (textL_inj hA hB e)
      have HP := fun W h1 h2 => programs_any (.slice ao la.length cap) (.slice bo lb.length dap) la lb W h1 h2
      clear hoa hob hA hB
      generalize eqI la lb = one at HP HE HF
      generalize encB la = ea at *
      generalize encB lb = eb at *
      generalize textL la = ta at *
      generalize textL lb = tb at *
      have hbeq := HF.out
      go_enter Tryd.func7, Tryd.ntmps7
      go_wp2_with (first
      | (go_at_call 11; go_at_call_of 11 (Value.slice ao la.length cap); refine (CA _ HA0.out).mono ?_; rintro e w1 ⟨s1, rfl, h1, B1⟩; have HB1 := hid_into B1; have HA1 := hid_into (HA0.out.below B1); have HD1 := hid_into (HD0.out.below B1); have HT1 := hid_into (HT0.out.below B1 (Nat.le_refl _)); have HS1 := hid_into h1; clear B1 h1)
      | (go_at_call 11; refine (CB _ HD1.out).mono ?_; rintro e w2 ⟨s2, rfl, h2, B2⟩; have HB2 := hid_into (HB1.out.trans (B2.mono HB1.out.size)); have HA2 := hid_into (HA1.out.below B2); have HD2 := hid_into (HD1.out.below B2); have HT2 := hid_into (HT1.out.below B2 (Nat.le_refl _)); have HS12 := hid_into (HS1.out.below B2 (Nat.le_refl _)); have HS2 := hid_into h2; clear B2 h2)
      | (go_at_call 13; go_at_call_of 13 (Value.slice ao la.length cap); refine (PA _ HA2.out HT2.out).mono ?_; rintro e w3 ⟨rfl, B3⟩; have HB3 := hid_into (HB2.out.trans (B3.mono HB2.out.size)); have HA3 := hid_into (HA2.out.below B3); have HD3 := hid_into (HD2.out.below B3); have HT3 := hid_into (HT2.out.below B3 (Nat.le_refl _)); have HS13 := hid_into (HS12.out.below B3 (Nat.le_refl _)); have HS23 := hid_into (HS2.out.below B3 (Nat.le_refl _)); clear B3)
      | (go_at_call 13; refine (PB _ HD3.out HT3.out).mono ?_; rintro e w4 ⟨rfl, B4⟩; have HB4 := hid_into (HB3.out.trans (B4.mono HB3.out.size)); have HA4 := hid_into (HA3.out.below B4); have HD4 := hid_into (HD3.out.below B4); have HT4 := hid_into (HT3.out.below B4 (Nat.le_refl _)); have HS14 := hid_into (HS13.out.below B4 (Nat.le_refl _)); have HS24 := hid_into (HS23.out.below B4 (Nat.le_refl _)); clear B4)
        | (go_at_call 16; refine (HP _ HA4.out HD4.out).mono ?_; rintro e w5 ⟨rfl, sm5⟩; have HB5 := hid_into (HB4.out.trans (sm5.below _)); have HT5 := hid_into (HT4.out.sm sm5); have HS15 := hid_into (sm5.bs HS14.out); have HS25 := hid_into (sm5.bs HS24.out); clear sm5)
        | (go_at_call 15; refine (same_any _ _ _ _ _ HS15.out HS25.out).mono ?_; rintro e w6 ⟨rfl, sm6⟩; rw [HE.out]; have HB6 := hid_into (HB5.out.trans (sm6.below _)); have HT6 := hid_into (HT5.out.sm sm6); clear sm6)
        | (go_at_call 17; refine (known_any _ HT6.out).mono ?_; rintro e w7 ⟨rfl, B7⟩))
      go_ret
      exact ⟨rfl, HB6.out.trans (B7.mono HB6.out.size)⟩
    · generalize chk lb = d at *
      generalize chk la = c at *
      generalize encR la = ea at *
      generalize encR lb = eb at *
      generalize prnL la = ta at *
      generalize prnL lb = tb at *
      rw [hoa] at CA PA
      have hne : (d.2 != 0) = true := by simp [hob]
      go_enter Tryd.func7, Tryd.ntmps7
      go_wp2_with (first
        | (go_at_call 11; go_at_call_of 11 (Value.slice ao la.length cap); refine (CA _ HA0.out).mono ?_; rintro e w1 ⟨s1, rfl, h1, B1⟩; have HB1 := hid_into B1; have HA1 := hid_into (HA0.out.below B1); have HD1 := hid_into (HD0.out.below B1); have HT1 := hid_into (HT0.out.below B1 (Nat.le_refl _)); have HS1 := hid_into h1; clear B1 h1)
        | (go_at_call 11; refine (CB _ HD1.out).mono ?_; rintro e w2 ⟨s2, rfl, h2, B2⟩; have HB2 := hid_into (HB1.out.trans (B2.mono HB1.out.size)); have HA2 := hid_into (HA1.out.below B2); have HD2 := hid_into (HD1.out.below B2); have HT2 := hid_into (HT1.out.below B2 (Nat.le_refl _)); have HS12 := hid_into (HS1.out.below B2 (Nat.le_refl _)); have HS2 := hid_into h2; clear B2 h2)
        | (go_at_call 13; go_at_call_of 13 (Value.slice ao la.length cap); refine (PA _ HA2.out HT2.out).mono ?_; rintro e w3 ⟨rfl, B3⟩; have HB3 := hid_into (HB2.out.trans (B3.mono HB2.out.size)); have HA3 := hid_into (HA2.out.below B3); have HD3 := hid_into (HD2.out.below B3); have HT3 := hid_into (HT2.out.below B3 (Nat.le_refl _)); have HS13 := hid_into (HS12.out.below B3 (Nat.le_refl _)); have HS23 := hid_into (HS2.out.below B3 (Nat.le_refl _)); clear B3)
        | (go_at_call 13; refine (PB _ HD3.out HT3.out).mono ?_; rintro e w4 ⟨rfl, B4⟩; have HB4 := hid_into (HB3.out.trans (B4.mono HB3.out.size)); have HA4 := hid_into (HA3.out.below B4); have HD4 := hid_into (HD3.out.below B4); have HT4 := hid_into (HT3.out.below B4 (Nat.le_refl _)); have HS14 := hid_into (HS13.out.below B4 (Nat.le_refl _)); have HS24 := hid_into (HS23.out.below B4 (Nat.le_refl _)); clear B4)
        | (go_at_call 17; refine (known_any _ HT4.out).mono ?_; rintro e w5 ⟨rfl, B5⟩))
      go_ret
      exact ⟨rfl, HB4.out.trans (B5.mono HB4.out.size)⟩
  · generalize chk lb = d at *
    generalize chk la = c at *
    generalize encR la = ea at *
    generalize encR lb = eb at *
    generalize prnL la = ta at *
    generalize prnL lb = tb at *
    have hne : (c.2 != 0) = true := by simp [hoa]
    go_enter Tryd.func7, Tryd.ntmps7
    go_wp2_with (first
      | (go_at_call 11; go_at_call_of 11 (Value.slice ao la.length cap); refine (CA _ HA0.out).mono ?_; rintro e w1 ⟨s1, rfl, h1, B1⟩; have HB1 := hid_into B1; have HA1 := hid_into (HA0.out.below B1); have HD1 := hid_into (HD0.out.below B1); have HT1 := hid_into (HT0.out.below B1 (Nat.le_refl _)); have HS1 := hid_into h1; clear B1 h1)
      | (go_at_call 11; refine (CB _ HD1.out).mono ?_; rintro e w2 ⟨s2, rfl, h2, B2⟩; have HB2 := hid_into (HB1.out.trans (B2.mono HB1.out.size)); have HA2 := hid_into (HA1.out.below B2); have HD2 := hid_into (HD1.out.below B2); have HT2 := hid_into (HT1.out.below B2 (Nat.le_refl _)); have HS12 := hid_into (HS1.out.below B2 (Nat.le_refl _)); have HS2 := hid_into h2; clear B2 h2)
      | (go_at_call 13; go_at_call_of 13 (Value.slice ao la.length cap); refine (PA _ HA2.out HT2.out).mono ?_; rintro e w3 ⟨rfl, B3⟩; have HB3 := hid_into (HB2.out.trans (B3.mono HB2.out.size)); have HA3 := hid_into (HA2.out.below B3); have HD3 := hid_into (HD2.out.below B3); have HT3 := hid_into (HT2.out.below B3 (Nat.le_refl _)); have HS13 := hid_into (HS12.out.below B3 (Nat.le_refl _)); have HS23 := hid_into (HS2.out.below B3 (Nat.le_refl _)); clear B3)
      | (go_at_call 13; refine (PB _ HD3.out HT3.out).mono ?_; rintro e w4 ⟨rfl, B4⟩; have HB4 := hid_into (HB3.out.trans (B4.mono HB3.out.size)); have HA4 := hid_into (HA3.out.below B4); have HD4 := hid_into (HD3.out.below B4); have HT4 := hid_into (HT3.out.below B4 (Nat.le_refl _)); have HS14 := hid_into (HS13.out.below B4 (Nat.le_refl _)); have HS24 := hid_into (HS23.out.below B4 (Nat.le_refl _)); clear B4)
      | (go_at_call 17; refine (known_any _ HT4.out).mono ?_; rintro e w5 ⟨rfl, B5⟩))
    go_ret
    exact ⟨rfl, HB4.out.trans (B5.mono HB4.out.size)⟩
end Go.Proofs.YtddmnpfebajnmaaDoor
