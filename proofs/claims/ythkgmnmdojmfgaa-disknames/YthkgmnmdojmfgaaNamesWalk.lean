/-
  The law DiskNames, walked: true for all rows of bytes, synced or not.
-/
import Derived.Test.YthkgmnmdojmfgaaTexts
import Derived.Test.YthkgmnmdojmfgaaFusesWalk
namespace Go.Proofs.Ythkgmnmdojmfgaa
open Go.RowKit Go.Maps
variable {w w' w0 : World} {fs : Fls}
theorem none_x : noneB [120] = false := by decide
theorem none_y : noneB [121] = false := by decide
theorem none_xy : (noneB [120] || noneB [121]) = false := by decide
theorem none_xz : (noneB [120] || noneB [122]) = false := by decide
theorem crN_none (zs : List Int) (l : Nat) : crN zs l 0 = l := by simp [crN]
theorem crB_none (zs : List Int) (l : Nat) (t : Int) : crB zs l 0 t = zs.take l := by
  rw [crB, crN_none]
  apply List.ext_getElem (by simp [xq])
  intro j h1 h2
  simp only [xq, List.getElem_mapIdx]
  have : l ≤ crM zs l 0 := by unfold crM; omega
  rw [if_neg (by omega)]
set_option maxRecDepth 20000 in
set_option maxHeartbeats 6400000 in
theorem names_walk (va vb vc : Value) (a b c : List Int) (sync : Bool) (w : World) (ha : Bs w va a) (hb : Bs w vb b) (hc : Bs w vc c) (hba : Byt a) (hbb : Byt b) (hbc : Byt c) (la : a.length ≤ 140737488355328) (lb : b.length ≤ 140737488355328) (lc : c.length ≤ 140737488355328) :
    Calls Try.prog 8 #[va, vb, vc, .bool sync] w fun e w' => e = .returned (.bool true) ∧ Below w.heap.size w w' := by
  obtain ⟨aa, ca, e1, _⟩ := ha.len
  obtain ⟨ab, cb, e2, _⟩ := hb.len
  obtain ⟨ac, cc, e3, _⟩ := hc.len
  subst e1; subst e2; subst e3
  by_cases h8 : 8000 < (a.length : Int) + (b.length : Int) + (c.length : Int)
  · go_enter Try.func8, Try.ntmps8
    go_wp2_with fail
    go_ret
    exact ⟨rfl, Below.refl _ _⟩
  · go_enter Try.func8, Try.ntmps8
    go_wp2_with fail
    refine (Ss.new w 1048576 (by decide)).mono ?_
    rintro e W1 ⟨rfl, h1⟩
    go_wp2_with fail
    refine (h1.write [120] (by decide) aa ca a (ha.below h1.bel (Nat.le_refl _)) hba).mono ?_
    rintro e W2 ⟨ev, fs2, hP, rfl, h2⟩
    obtain ⟨rfl, v2, hf⟩ := write_ok (by simp) (by simp [tot]; omega) (fiveP_go hP rfl none_x)
    have hf0 : fs2 = [([120], ⟨v2, a, 0⟩)] := by rw [hf]; rfl
    subst hf0
    replace h2 : Ss w W2 w.heap.size 1048576 [([120], ⟨v2, a, 0⟩)] false 0 := h2
    clear hP hf h1
    go_wp2_with fail
    refine (h2.sync [120] (by decide)).mono ?_
    rintro e W3 ⟨ev, fs3, hP, rfl, h3⟩
    obtain ⟨he, hf⟩ := fiveP_go hP rfl none_x
    have he0 : ev = 0 := by rw [he]; rfl
    have hf0 : fs3 = [([120], ⟨v2, a, a.length⟩)] := by rw [hf]; rfl
    subst he0; subst hf0
    replace h3 : Ss w W3 w.heap.size 1048576 [([120], ⟨v2, a, a.length⟩)] false 0 := h3
    clear hP he hf h2
    go_wp2_with fail
    refine (h3.write [120] (by decide) ab cb b (hb.below h3.bel (Nat.le_refl _)) hbb).mono ?_
    rintro e W4 ⟨ev, fs4, hP, rfl, h4⟩
    obtain ⟨rfl, v4, hf⟩ := write_ok (by simp) (by simp [tot]; omega) (fiveP_go hP rfl none_x)
    have hf0 : fs4 = [([120], ⟨v4, a ++ b, a.length⟩)] := by rw [hf, one_at, one_put]
    subst hf0
    replace h4 : Ss w W4 w.heap.size 1048576 [([120], ⟨v4, a ++ b, a.length⟩)] false 0 := h4
    clear hP hf h3
    go_wp2_with fail
    refine (h4.write [121] (by decide) ac cc c (hc.below h4.bel (Nat.le_refl _)) hbc).mono ?_
    rintro e W5 ⟨ev, fs5, hP, rfl, h5⟩
    obtain ⟨rfl, v5, hf⟩ := write_ok (by simp) (by simp [tot]; omega) (fiveP_go hP rfl none_y)
    have hf0 : fs5 = [([120], ⟨v4, a ++ b, a.length⟩), ([121], ⟨v5, c, 0⟩)] := by rw [hf]; rfl
    subst hf0
    replace h5 : Ss w W5 w.heap.size 1048576 [([120], ⟨v4, a ++ b, a.length⟩), ([121], ⟨v5, c, 0⟩)] false 0 := h5
    clear hP hf h4
    cases sync with
    | true =>
      go_wp2_with fail
      refine (h5.sync [120] (by decide)).mono ?_
      rintro e W6 ⟨ev, fs6, hP, rfl, h6⟩
      obtain ⟨he, hf⟩ := fiveP_go hP rfl none_x
      have he0 : ev = 0 := by rw [he]; rfl
      have hf0 : fs6 = [([120], ⟨v4, a ++ b, (a ++ b).length⟩), ([121], ⟨v5, c, 0⟩)] := by rw [hf]; rfl
      subst he0; subst hf0
      replace h6 : Ss w W6 w.heap.size 1048576 [([120], ⟨v4, a ++ b, (a ++ b).length⟩), ([121], ⟨v5, c, 0⟩)] false 0 := h6
      clear hP he hf h5
      go_wp2_with fail
      refine (h6.rename [120] [121] (by decide) (by decide)).mono ?_
      rintro e W7 ⟨ev, fs7, hP, rfl, h7⟩
      obtain ⟨he, hf⟩ := fiveP_go hP rfl none_xy
      have he0 : ev = 0 := by rw [he]; rfl
      have hf0 : fs7 = [([121], ⟨v4, a ++ b, (a ++ b).length⟩)] := by rw [hf]; rfl
      subst he0; subst hf0
      replace h7 : Ss w W7 w.heap.size 1048576 [([121], ⟨v4, a ++ b, (a ++ b).length⟩)] false 0 := h7
      clear hP he hf h6
      go_wp2_with fail
      refine h7.names.mono ?_
      rintro e W8 ⟨nv, rfl, hrow, B8⟩
      have hst : St W8 nv [[121]] := St_row hrow
      have h8 := h7.below B8
      clear hrow B8 h7
      have B9 : Below W8.heap.size W8 (W8.alloc (.cells #[encStr [121]] 9)) := (Below.refl _ _).alloc (Nat.le_refl _) _
      have htx := texts_same nv (.slice (some ⟨W8.heap.size, 0, none⟩) 1 1) [[121]] (W8.alloc (.cells #[encStr [121]] 9)) (hst.below B9) (St_one [121] W8) (by decide)
      replace h8 := h8.below B9
      obtain ⟨na, nc, rfl, _⟩ := hst
      clear B9
      go_wp2_with fail
      refine htx.mono ?_
      rintro e W9 ⟨rfl, hsm⟩
      have h9 := h8.below (hsm.below _)
      clear hsm h8 htx
      go_wp2_with fail
      refine (h9.rename [120] [122] (by decide) (by decide)).mono ?_
      rintro e W10 ⟨ev, fs10, hP, rfl, h10⟩
      obtain ⟨he, hf⟩ := fiveP_go hP rfl none_xz
      have he0 : ev = 7 := by rw [he]; rfl
      have hf0 : fs10 = [([121], ⟨v4, a ++ b, (a ++ b).length⟩)] := by rw [hf]; rfl
      subst he0; subst hf0
      replace h10 : Ss w W10 w.heap.size 1048576 [([121], ⟨v4, a ++ b, (a ++ b).length⟩)] false 0 := h10
      clear hP he hf h9
      go_wp2_with fail
      refine (h10.crash 0 0 (by decide) (by decide)).mono ?_
      rintro e W11 ⟨rfl, fs11, hab, h11⟩
      have hab' : abs fs11 = [([121], a ++ b, (a ++ b).length)] := by
        refine hab.trans ?_
        simp only [abs, List.map_cons, List.map_nil, crA]
        have e0 : (0 : Int).toNat = 0 := rfl
        rw [e0, crB_none, crN_none, List.take_length]
      obtain ⟨v11, rfl⟩ := one_abs hab'
      clear hab hab' h10
      go_wp2_with fail
      refine (h11.read [121] (by decide)).mono ?_
      rw [one_at]
      rintro e W12 ⟨ao12, cap12, rfl, ho12, B12⟩
      have en : none7 [([121], (⟨v11, a ++ b, (a ++ b).length⟩ : Fl))] [121] = 0 := rfl
      rw [en]
      have B012 : Below w.heap.size w W12 := h11.bel.trans (B12.mono h11.bel.size)
      have hb12 := ho12.bs
      have ha12 := (ha.below B012 (Nat.le_refl _)).below ((Below.refl _ W12).alloc (Nat.le_refl _) (.cells #[] 5)) (Nat.le_refl _)
      have ho0 : Ow (W12.alloc (.cells #[] 5)) W12.heap.size (.slice (some ⟨W12.heap.size, 0, none⟩) 0 0) [] := Ow_of_block (zs := []) (heap_alloc_new W12 _) (by simp) (Nat.le_refl _)
      clear ho12 B12 h11 en
      go_wp2_with (first
        | (at_builtin; refine wpList_append_bs _ rfl (.tmp 84) (.tmp 85) rfl W12.heap.size _ [] rfl ho0 _ a rfl ha12 (by simp; omega) (by simp) ?_; intro ao13 cap13 W13 ho13 hg13 hat13; simp only [List.length_nil, Nat.zero_add, List.nil_append] at ho13 ⊢; have B13 : Below W12.heap.size W12 W13 := ((Below.refl _ W12).alloc (Nat.le_refl _) _).trans (grown_below hg13 ho0 (by simp)); have hb13 := (hb.below B012 (Nat.le_refl _)).below B13 (Nat.le_refl _); clear hg13 hat13)
        | (at_builtin; refine wpList_append_bs _ rfl (.tmp 88) (.tmp 89) rfl W12.heap.size _ a rfl ho13 _ b rfl hb13 (by omega) B13.size ?_; intro ao14 cap14 W14 ho14 hg14 hat14; have B14 : Below W12.heap.size W12 W14 := B13.trans (grown_below hg14 ho13 B13.size); clear hg14 hat14))
      have hbp := hb12.below B14 (Nat.le_refl _)
      have hbq := ho14.bs
      have B014 := B012.trans (B14.mono B012.size)
      have hsame := same_any _ _ _ _ W14 hbp hbq
      rw [eqB_true rfl] at hsame
      simp only [List.length_append] at hsame
      refine hsame.mono ?_
      rintro e W15 ⟨rfl, hsm⟩
      have B15 := B014.trans (hsm.below _)
      clear hsame hbp hbq hsm B014
      go_wp2_with fail
      refine (known_any _).mono ?_
      rintro e W16 ⟨rfl, B16⟩
      replace B16 := B15.trans (B16.mono B15.size)
      go_wp2_with fail
      go_ret
      exact ⟨rfl, B16⟩
    | false =>
      have h6 : Ss w W5 w.heap.size 1048576 [([120], ⟨v4, a ++ b, a.length⟩), ([121], ⟨v5, c, 0⟩)] false 0 := h5
      clear h5
      go_wp2_with fail
      refine (h6.rename [120] [121] (by decide) (by decide)).mono ?_
      rintro e W7 ⟨ev, fs7, hP, rfl, h7⟩
      obtain ⟨he, hf⟩ := fiveP_go hP rfl none_xy
      have he0 : ev = 0 := by rw [he]; rfl
      have hf0 : fs7 = [([121], ⟨v4, a ++ b, a.length⟩)] := by rw [hf]; rfl
      subst he0; subst hf0
      replace h7 : Ss w W7 w.heap.size 1048576 [([121], ⟨v4, a ++ b, a.length⟩)] false 0 := h7
      clear hP he hf h6
      go_wp2_with fail
      refine h7.names.mono ?_
      rintro e W8 ⟨nv, rfl, hrow, B8⟩
      have hst : St W8 nv [[121]] := St_row hrow
      have h8 := h7.below B8
      clear hrow B8 h7
      have B9 : Below W8.heap.size W8 (W8.alloc (.cells #[encStr [121]] 9)) := (Below.refl _ _).alloc (Nat.le_refl _) _
      have htx := texts_same nv (.slice (some ⟨W8.heap.size, 0, none⟩) 1 1) [[121]] (W8.alloc (.cells #[encStr [121]] 9)) (hst.below B9) (St_one [121] W8) (by decide)
      replace h8 := h8.below B9
      obtain ⟨na, nc, rfl, _⟩ := hst
      clear B9
      go_wp2_with fail
      refine htx.mono ?_
      rintro e W9 ⟨rfl, hsm⟩
      have h9 := h8.below (hsm.below _)
      clear hsm h8 htx
      go_wp2_with fail
      refine (h9.rename [120] [122] (by decide) (by decide)).mono ?_
      rintro e W10 ⟨ev, fs10, hP, rfl, h10⟩
      obtain ⟨he, hf⟩ := fiveP_go hP rfl none_xz
      have he0 : ev = 7 := by rw [he]; rfl
      have hf0 : fs10 = [([121], ⟨v4, a ++ b, a.length⟩)] := by rw [hf]; rfl
      subst he0; subst hf0
      replace h10 : Ss w W10 w.heap.size 1048576 [([121], ⟨v4, a ++ b, a.length⟩)] false 0 := h10
      clear hP he hf h9
      go_wp2_with fail
      refine (h10.crash 0 0 (by decide) (by decide)).mono ?_
      rintro e W11 ⟨rfl, fs11, hab, h11⟩
      have hab' : abs fs11 = [([121], a, a.length)] := by
        refine hab.trans ?_
        simp only [abs, List.map_cons, List.map_nil, crA]
        have e0 : (0 : Int).toNat = 0 := rfl
        rw [e0, crB_none, crN_none, List.take_left]
      obtain ⟨v11, rfl⟩ := one_abs hab'
      clear hab hab' h10
      go_wp2_with fail
      refine (h11.read [121] (by decide)).mono ?_
      rw [one_at]
      rintro e W12 ⟨ao12, cap12, rfl, ho12, B12⟩
      have en : none7 [([121], (⟨v11, a, a.length⟩ : Fl))] [121] = 0 := rfl
      rw [en]
      have B012 : Below w.heap.size w W12 := h11.bel.trans (B12.mono h11.bel.size)
      have hb12 := ho12.bs
      have ha12 := (ha.below B012 (Nat.le_refl _)).below ((Below.refl _ W12).alloc (Nat.le_refl _) (.cells #[] 5)) (Nat.le_refl _)
      have ho0 : Ow (W12.alloc (.cells #[] 5)) W12.heap.size (.slice (some ⟨W12.heap.size, 0, none⟩) 0 0) [] := Ow_of_block (zs := []) (heap_alloc_new W12 _) (by simp) (Nat.le_refl _)
      clear ho12 B12 h11 en
      go_wp2_with (at_builtin; refine wpList_append_bs _ rfl (.tmp 84) (.tmp 85) rfl W12.heap.size _ [] rfl ho0 _ a rfl ha12 (by simp; omega) (by simp) ?_; intro ao14 cap14 W14 ho14 hg14 hat14; simp only [List.length_nil, Nat.zero_add, List.nil_append] at ho14 ⊢; have B14 : Below W12.heap.size W12 W14 := ((Below.refl _ W12).alloc (Nat.le_refl _) _).trans (grown_below hg14 ho0 (by simp)); clear hg14 hat14)
      have hbp := hb12.below B14 (Nat.le_refl _)
      have hbq := ho14.bs
      have B014 := B012.trans (B14.mono B012.size)
      have hsame := same_any _ _ _ _ W14 hbp hbq
      rw [eqB_true rfl] at hsame
      refine hsame.mono ?_
      rintro e W15 ⟨rfl, hsm⟩
      have B15 := B014.trans (hsm.below _)
      clear hsame hbp hbq hsm B014
      go_wp2_with fail
      refine (known_any _).mono ?_
      rintro e W16 ⟨rfl, B16⟩
      replace B16 := B15.trans (B16.mono B15.size)
      go_wp2_with fail
      go_ret
      exact ⟨rfl, B16⟩
end Go.Proofs.Ythkgmnmdojmfgaa
