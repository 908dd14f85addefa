/-
  CodeChecks, walked.
-/
import Derived.Test.YtddmnpfebajnmaaDoorProgs
import Derived.Test.YtddmnpfebajnmaaDoorREnc
namespace Go.Proofs.YtddmnpfebajnmaaDoor
open Go.RowKit
set_option maxRecDepth 20000 in
set_option maxHeartbeats 4000000 in
theorem checks_walk (v : Value) (l : List Ii) (w : World) (h : Ls w v l) (ht : Tp w) :
    Calls Tryd.prog 3 #[v] w fun e w' => e = .returned (.bool true) ∧ Below w.heap.size w w' := by
  obtain ⟨ao, cap, rfl, hm⟩ := h.len
  have hm' : l.length ≤ 9223372036854775807 := by unfold maxLen at hm; omega
  have HL := hid_into h
  have HTp := hid_into ht
  clear h hm ht
  by_cases h3 : 3000 < l.length
  · go_enter Tryd.func3, Tryd.ntmps3
    go_wp2
    go_ret
    exact ⟨rfl, Below.refl _ _⟩
  have hA : Below w.heap.size w (w.alloc (.cells #[] 60)) := (Below.refl _ _).alloc (Nat.le_refl _) _
  have HA := hid_into hA
  have hLa := HL.out.below hA
  have hOa : Lo (w.alloc (.cells #[] 60)) w.heap.size (.slice (some ⟨w.heap.size, 0, none⟩) 0 0) [] := ⟨rfl, Or.inr ⟨w.heap.size, 0, #[], rfl, Nat.le_refl _, heap_alloc_new w _, Nat.le_refl _, by unfold maxLen; omega, rfl, rfl⟩⟩
  clear hA
  go_enter Tryd.func3, Tryd.ntmps3
  go_wp2_with (at_builtin; refine wpList_append_ls _ rfl (.tmp 19) (.tmp 20) rfl w.heap.size _ [] rfl hOa _ l rfl hLa (by simp; omega) (by simp) ?_)
  intro ao2 cap2 w2 hown2 hgrow2 hat2
  try simp only [List.length_nil, Nat.zero_add, List.nil_append] at hown2
  have B2 : Below w.heap.size w w2 := HA.out.grown hgrow2 (by simp) (fun k hk => (World.ownsRow.lt hOa k hk).1)
  have HB2 := hid_into B2
  have HX := hid_into hown2.ls
  have HL2 := hid_into (HL.out.below B2)
  have HT2 := hid_into (HTp.out.below B2 (Nat.le_refl _))
  clear hown2 hgrow2 hat2 hOa hLa B2 HA HL HTp
  try simp only [List.length_nil, Nat.zero_add]
  obtain ⟨c0, hc0⟩ : ∃ c, c = (chk l).1 := ⟨_, rfl⟩
  obtain ⟨c1, hc1⟩ : ∃ c, c = (chk l).2 := ⟨_, rfl⟩
  have C9 := fun W h' => check_any (.slice ao2 l.length cap2) l W h'
  have C10 := fun W h' => rcheck_any (.slice ao l.length cap) l W h'
  have C11 := fun W h' => encode_any (.slice ao2 l.length cap2) l W h'
  have C12 := fun W h' => rencode_any (.slice ao l.length cap) l W h'
  have C13 := fun W h' h'' => print_any (.slice ao2 l.length cap2) l W h' h''
  have C14 := fun W h' => rprint_any (.slice ao l.length cap) l W h'
  rw [← hc0, ← hc1] at C9 C10
  rw [← hc1] at C11 C12 C13 C14
  clear hc0 hc1
  generalize encR l = eb at C11 C12
  generalize prnL l = tx at C13 C14
  go_wp2_with (first
    | (go_at_call 9; refine (C9 _ HX.out).mono ?_; rintro e w3 ⟨rfl, B3⟩; have HB3 := hid_into (HB2.out.trans (B3.mono HB2.out.size)); have HX3 := hid_into (HX.out.below B3); have HL3 := hid_into (HL2.out.below B3); have HT3 := hid_into (HT2.out.below B3 (Nat.le_refl _)); clear B3)
    | (go_at_call 10; refine (C10 _ HL3.out).mono ?_; rintro e w4 ⟨rfl, B4⟩; have HB4 := hid_into (HB3.out.trans (B4.mono HB3.out.size)); have HX4 := hid_into (HX3.out.below B4); have HL4 := hid_into (HL3.out.below B4); have HT4 := hid_into (HT3.out.below B4 (Nat.le_refl _)); clear B4)
    | (go_at_call 11; refine (C11 _ HX4.out).mono ?_; rintro e w5 ⟨s5, rfl, h5, B5⟩; have HB5 := hid_into (HB4.out.trans (B5.mono HB4.out.size)); have HX5 := hid_into (HX4.out.below B5); have HL5 := hid_into (HL4.out.below B5); have HT5 := hid_into (HT4.out.below B5 (Nat.le_refl _)); have HS5 := hid_into h5; clear B5 h5)
    | (go_at_call 12; refine (C12 _ HL5.out).mono ?_; rintro e w6 ⟨s6, rfl, h6, B6⟩; have HB6 := hid_into (HB5.out.trans (B6.mono HB5.out.size)); have HX6 := hid_into (HX5.out.below B6); have HL6 := hid_into (HL5.out.below B6); have HT6 := hid_into (HT5.out.below B6 (Nat.le_refl _)); have HS56 := hid_into (HS5.out.below B6 (Nat.le_refl _)); have HS6 := hid_into h6; clear B6 h6)
    | (go_at_call 13; refine (C13 _ HX6.out HT6.out).mono ?_; rintro e w7 ⟨rfl, B7⟩; have HB7 := hid_into (HB6.out.trans (B7.mono HB6.out.size)); have HX7 := hid_into (HX6.out.below B7); have HL7 := hid_into (HL6.out.below B7); have HT7 := hid_into (HT6.out.below B7 (Nat.le_refl _)); have HS57 := hid_into (HS56.out.below B7 (Nat.le_refl _)); have HS67 := hid_into (HS6.out.below B7 (Nat.le_refl _)); clear B7)
    | (go_at_call 14; refine (C14 _ HL7.out).mono ?_; rintro e w8 ⟨rfl, B8⟩; have HB8 := hid_into (HB7.out.trans (B8.mono HB7.out.size)); have HX8 := hid_into (HX7.out.below B8); have HL8 := hid_into (HL7.out.below B8); have HT8 := hid_into (HT7.out.below B8 (Nat.le_refl _)); have HS58 := hid_into (HS57.out.below B8 (Nat.le_refl _)); have HS68 := hid_into (HS67.out.below B8 (Nat.le_refl _)); clear B8)
    | (go_at_call 15; refine (same_any _ _ _ _ _ HS58.out HS68.out).mono ?_; rintro e w9 ⟨rfl, sm9⟩; rw [eqB_true rfl]; have HB9 := hid_into (HB8.out.trans (sm9.below _)); have HX9 := hid_into (HX8.out.sm sm9); have HL9 := hid_into (HL8.out.sm sm9); have HT9 := hid_into (HT8.out.sm sm9); clear sm9)
    | (go_at_call 16; refine (programs_any _ _ _ _ _ HX9.out HL9.out).mono ?_; rintro e w10 ⟨rfl, sm10⟩; rw [eqI_true rfl]; have HB10 := hid_into (HB9.out.trans (sm10.below _)); have HT10 := hid_into (HT9.out.sm sm10); clear sm10)
    | (go_at_call 17; refine (known_any _ HT10.out).mono ?_; rintro e w11 ⟨rfl, B11⟩))
  go_ret
  exact ⟨rfl, HB10.out.trans (B11.mono HB10.out.size)⟩
end Go.Proofs.YtddmnpfebajnmaaDoor
