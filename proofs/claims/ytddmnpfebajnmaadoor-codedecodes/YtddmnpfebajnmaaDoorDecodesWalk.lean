/-
  CodeDecodes, walked.
-/
import Derived.Test.YtddmnpfebajnmaaDoorProgs
import Derived.Test.YtddmnpfebajnmaaDoorEnc
import Derived.Test.YtddmnpfebajnmaaDoorRDec
import Derived.Test.YtddmnpfebajnmaaDoorHelp
namespace Go.Proofs.YtddmnpfebajnmaaDoor
open Go.RowKit
theorem decP_err (zs : List Int) : (decP zs).2 ≠ 0 → (decP zs).1 = [] := by
  unfold decP
  split
  · intro _; rfl
  · split
    · intro _; rfl
    · split
      · intro _; rfl
      · split
        · intro h; exact absurd rfl h
        · intro _; rfl
set_option maxRecDepth 20000 in
set_option maxHeartbeats 4000000 in
theorem decodes_walk (v : Value) (zs : List Int) (w : World) (hb : Bs w v zs) (hy : Byt zs) (hv : ∀ k, v.ownBlock = some k → k < w.heap.size) (ht : Tp w) :
    Calls Tryd.prog 4 #[v] w fun e w' => e = .returned (.bool true) ∧ Below w.heap.size w w' := by
  obtain ⟨ao, cap, rfl, hm⟩ := hb.len
  have hm' : zs.length ≤ 9223372036854775807 := by unfold maxLen at hm; omega
  by_cases h3 : 3000 < zs.length
  · clear hb hv
    go_enter Tryd.func4, Tryd.ntmps4
    go_wp2
    go_ret
    exact ⟨rfl, Below.refl _ _⟩
  have HB0 := hid_into hb
  have HV := hid_into hv
  have HT0 := hid_into ht
  have C18 := roomy_any _ zs w hb (by omega)
  have C19 := fun s W h' => decode_any s zs W h' (by omega) hy
  have C20 := fun W h' h'' => rdecode_any (.slice ao zs.length cap) zs W h' h'' hy
  have HBK := hid_into (fun l => decP_back (l := l) hy)
  have HDE := hid_into (decP_err zs)
  clear hb hy hm hv ht
  generalize decP zs = D at *
  obtain ⟨dl, de⟩ := D
  simp only at C19 C20 HDE
  have AR : ∀ {P : Prop}, P → P := fun h => h
  by_cases hde : de = 0
  · subst hde
    obtain ⟨hO, hE⟩ := HBK.out dl rfl
    have CE := fun s W h' => encode_any s dl W h'
    rw [hO.chk, show encR dl = zs from (if_pos hO).trans hE] at CE
    clear HBK HDE hO hE
    go_enter Tryd.func4, Tryd.ntmps4
    go_wp2_with (first
      | (go_at_call 18; refine C18.mono ?_; rintro e w1 ⟨g, cap1, rfl, h1, B1, hg, hcap⟩; have hbx : Bs w1 (.slice (some ⟨g, 0, none⟩) zs.length cap1) zs := (by have := (h1.take zs.length (by simp)).bs; simpa using this); have HO1 := hid_into h1; have HB1 := hid_into B1; have HX1 := hid_into hbx; have hc1 : cap1 ≤ 9223372036854775807 := (by have := h1.bounds; unfold maxLen at this; omega); have hzc : zs.length ≤ cap1 := (by omega); clear h1 B1 hbx)
      | (go_at_call 19; refine (C19 _ _ HX1.out).mono ?_; rintro e w2 ⟨s2, rfl, h2, B2⟩; have HB2 := hid_into (HB1.out.trans (B2.mono HB1.out.size)); have HO2 := hid_into (HO1.out.keep (w' := w2) fun k _ hk => B2.block k hk); have HS2 := hid_into h2; clear h2 B2)
      | (go_at_call 20; refine (C20 _ (HB0.out.below HB2.out (Nat.le_refl _)) (fun k hk => Nat.lt_of_lt_of_le (HV.out k hk) HB2.out.size)).mono ?_; rintro e w3 ⟨s3, rfl, h3', B3⟩; have HB3 := hid_into (HB2.out.trans (B3.mono HB2.out.size)); have HO3 := hid_into (HO2.out.keep (w' := w3) fun k _ hk => B3.block k hk); have HS23 := hid_into (HS2.out.below B3); have HS3 := hid_into h3'; clear h3' B3)
      | (go_at_call 16; refine (programs_any _ _ _ _ _ HS23.out HS3.out).mono ?_; rintro e w4 ⟨rfl, sm4⟩; rw [eqI_true rfl]; have HB4 := hid_into (HB3.out.trans (sm4.below _)); have HO4 := hid_into (sm4.ow HO3.out); have HS24 := hid_into (HS23.out.sm sm4); clear sm4)
      | (go_at_call 21; refine (stands_any _ _ _ _ _ _ HO4.out (HB0.out.below HB4.out (Nat.le_refl _)) (by omega)).mono ?_; rintro e w5 ⟨rfl, sm5⟩; have HB5 := hid_into (HB4.out.trans (sm5.below _)); have HS25 := hid_into (HS24.out.sm sm5); clear sm5)
      | (go_at_call 11; refine (CE _ _ HS25.out).mono ?_; rintro e w6 ⟨s6, rfl, h6, B6⟩; have HB6 := hid_into (HB5.out.trans (B6.mono HB5.out.size)); have HS6 := hid_into h6; clear h6 B6)
      | (go_at_call 15; refine (same_any _ _ _ _ _ HS6.out (HB0.out.below HB6.out (Nat.le_refl _))).mono ?_; rintro e w7 ⟨rfl, sm7⟩; rw [eqB_true rfl]; have HB7 := hid_into (HB6.out.trans (sm7.below _)); clear sm7)
      | (go_at_call 17; refine (known_any _ (HT0.out.below HB7.out (Nat.le_refl _))).mono ?_; rintro e w8 ⟨rfl, B8⟩))
    go_ret
    exact ⟨rfl, HB7.out.trans (B8.mono HB7.out.size)⟩
  · have hdb : (de != 0) = true := by simp [hde]
    have hdq : (de != de) = false := by simp
    clear HBK HDE hde
    go_enter Tryd.func4, Tryd.ntmps4
    go_wp2_with (first
      | (go_at_call 18; refine C18.mono ?_; rintro e w1 ⟨g, cap1, rfl, h1, B1, hg, hcap⟩; have hbx : Bs w1 (.slice (some ⟨g, 0, none⟩) zs.length cap1) zs := (by have := (h1.take zs.length (by simp)).bs; simpa using this); have HO1 := hid_into h1; have HB1 := hid_into B1; have HX1 := hid_into hbx; have hc1 : cap1 ≤ 9223372036854775807 := (by have := h1.bounds; unfold maxLen at this; omega); have hzc : zs.length ≤ cap1 := (by omega); clear h1 B1 hbx)
      | (go_at_call 19; refine (C19 _ _ HX1.out).mono ?_; rintro e w2 ⟨s2, rfl, h2, B2⟩; have HB2 := hid_into (HB1.out.trans (B2.mono HB1.out.size)); have HO2 := hid_into (HO1.out.keep (w' := w2) fun k _ hk => B2.block k hk); have HS2 := hid_into h2; clear h2 B2)
      | (go_at_call 20; refine (C20 _ (HB0.out.below HB2.out (Nat.le_refl _)) (fun k hk => Nat.lt_of_lt_of_le (HV.out k hk) HB2.out.size)).mono ?_; rintro e w3 ⟨s3, rfl, h3', B3⟩; have HB3 := hid_into (HB2.out.trans (B3.mono HB2.out.size)); have HO3 := hid_into (HO2.out.keep (w' := w3) fun k _ hk => B3.block k hk); have HS23 := hid_into (HS2.out.below B3); have HS3 := hid_into h3'; clear h3' B3)
      | (go_at_call 16; refine (programs_any _ _ _ _ _ HS23.out HS3.out).mono ?_; rintro e w4 ⟨rfl, sm4⟩; rw [eqI_true rfl]; have HB4 := hid_into (HB3.out.trans (sm4.below _)); have HO4 := hid_into (sm4.ow HO3.out); clear sm4)
      | (go_at_call 21; refine (stands_any _ _ _ _ _ _ HO4.out (HB0.out.below HB4.out (Nat.le_refl _)) (by omega)).mono ?_; rintro e w5 ⟨rfl, sm5⟩; have HB5 := hid_into (HB4.out.trans (sm5.below _)); clear sm5)
      | (go_at_call 17; refine (known_any _ (HT0.out.below HB5.out (Nat.le_refl _))).mono ?_; rintro e w8 ⟨rfl, B8⟩))
    go_ret
    exact ⟨rfl, HB5.out.trans (B8.mono HB5.out.size)⟩
end Go.Proofs.YtddmnpfebajnmaaDoor
