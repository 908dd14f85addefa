/-
  RollbackOfNothing's own walk.
-/
import Derived.Test.YtbfldcieibdapaaGreatM21
import Derived.Test.YtbfldcieibdapaaGreatM09
namespace Go.Proofs.YtbfldcieibdapaaGreat
open Go.RowKit
/-- What New answers here, whatever the seat. -/
def nwV (me : Int) (p : Option Addr) : Value := .tuple #[.pointer p, .int .i64 (if me = 0 ∨ me = 1 then 0 else 1)]
theorem new_all (w : World) (g : Nat) (me : Int) (hl : Ls w (.slice (some ⟨g, 0, none⟩) 8 8) acode) : Calls Tryz.prog 10 #[.agg #[.slice (some ⟨g, 0, none⟩) 8 8, .int .i64 5, .int .i64 20], .int .u32 1, .int .i64 me] w fun e w' => ∃ p, (p = none ↔ ¬ (me = 0 ∨ me = 1)) ∧ e = .returned (nwV me p) ∧ Below w.heap.size w w' := by
  by_cases hm : me = 0 ∨ me = 1
  · refine (ad_new w w (Below.refl _ _) g 5 me (by decide) (by decide) hl hm).mono ?_
    rintro e w' ⟨X, hi, rfl, _, hb⟩
    exact ⟨some ⟨X.sb, 0, none⟩, ⟨fun h => (by cases h), fun h => absurd hm h⟩, by unfold nwV; rw [if_pos hm], hb⟩
  · refine (New_me w _ acode 5 20 1 me hl (adG_ok (limit := 5) (by decide) (by decide)).c (fun h => hm (Or.inl h)) (fun h => hm (Or.inr h))).mono ?_
    rintro e w' ⟨rfl, hb⟩
    exact ⟨none, ⟨fun _ => hm, fun _ => rfl⟩, by unfold nwV; rw [if_neg hm], hb⟩
set_option maxRecDepth 20000 in
set_option maxHeartbeats 4000000 in
theorem nothing_walk (f x me : Int) (w : World) : Calls Tryz.prog 8 #[.int .i64 f, .int .u16 x, .int .i64 me] w fun e w' => e = .returned (.bool true) ∧ Below w.heap.size w w' := by
  have CL := hid_into (fun W => Local_nil W x)
  have CW := hid_into work_nil
  have CA : Hid (∀ W, Calls Tryz.prog 26 #[.int .i64 5] W fun e w' => ∃ g, e = .returned (.agg #[.slice (some ⟨g, 0, none⟩) 8 8, .int .i64 5, .int .i64 20]) ∧ Ls w' (.slice (some ⟨g, 0, none⟩) 8 8) acode ∧ Below W.heap.size W w') := fun W => adder_any 5 W
  have CN := hid_into (fun W g hl => new_all W g me hl)
  have CR := hid_into (fun W => Remote_nil W f x)
  have C18 := hid_into Now_nil
  have C20 := hid_into Sure_nil
  have C22 := hid_into needs_nil
  have CK := hid_into known_any
  have HBz : Hid (Tryz.prog.built 48 [] = some zeroS.toArray) := built28z
  have HEz : Hid (∀ W : World, (Op.equalIn 10000 48 (.agg zeroS.toArray) (.agg zeroS.toArray)).run Tryz.prog W = .ok true W) := fun W => by have := run_eqS noS noS noS_wf noS_wf W; rw [eqS_same] at this; exact this
  generalize zeroS = zz at *
  by_cases hm : me = 0
  · subst hm
    have CN' : Hid (∀ W g, Ls W (.slice (some ⟨g, 0, none⟩) 8 8) acode → Calls Tryz.prog 10 #[.agg #[.slice (some ⟨g, 0, none⟩) 8 8, .int .i64 5, .int .i64 20], .int .u32 1, .int .i64 0] W fun e w' => ∃ a, e = .returned (.tuple #[.pointer (some a), .int .i64 0]) ∧ Below W.heap.size W w') := fun W g hl => (CN.out W g hl).mono (by
      rintro e w' ⟨p, h1, rfl, h2⟩
      cases p with
      | none => exact absurd (Or.inl rfl) (h1.1 rfl)
      | some a => exact ⟨a, rfl, h2⟩)
    clear CN
    go_enter Tryz.func8, Tryz.ntmps8
    go_wp2_with (go_big_may; first
      | (go_at_call 13; refine (CL.out _).mono ?_; rintro e w1 ⟨rfl, h1⟩; replace h1 := h1.symm; subst h1)
      | (go_at_call 17; refine (CW.out _).mono ?_; rintro e w2 ⟨rfl, h2⟩; replace h2 := h2.symm; subst h2)
      | (go_at_call 26; refine (CA.out _).mono ?_; rintro e w3 ⟨g3, rfl, hl3, h3⟩; have HL3 := hid_into hl3; have HB3 := hid_into h3; clear hl3 h3)
      | (go_at_call 10; refine (CN'.out _ _ HL3.out).mono ?_; rintro e w4 ⟨a4, rfl, h4⟩; have HB4 := hid_into (HB3.out.trans (h4.mono HB3.out.size)); clear h4)
      | (go_at_call 15; refine (CR.out _).mono ?_; rintro e w5 ⟨rfl, h5⟩; replace h5 := h5.symm; subst h5)
      | (go_at_call 18; refine (C18.out _).mono ?_; rintro e w6 ⟨rfl, h6⟩; have HB6 := hid_into (HB4.out.trans (h6.mono HB4.out.size)); clear h6)
      | (go_at_call 20; refine (C20.out _).mono ?_; rintro e w7 ⟨rfl, h7⟩; have HB7 := hid_into (HB6.out.trans (h7.mono HB6.out.size)); clear h7)
      | (go_at_call 22; refine (C22.out _).mono ?_; rintro e w8 ⟨rfl, h8⟩; replace h8 := h8.symm; subst h8)
      | (refine wpList_build_rowG (by kernel_rfl) 48 #[] rfl zz [] rfl HBz.out ?_)
      | (refine wpList_eql28 (by kernel_rfl) (.tmp 46) (.tmp 47) rfl zz zz true HEz rfl rfl ?_)
      | (refine wpList_eql28 (by kernel_rfl) (.tmp 52) (.tmp 53) rfl zz zz true HEz rfl rfl ?_)
      | (go_at_call 12; refine (CK.out _).mono ?_; rintro e wb ⟨rfl, hb⟩))
    go_ret
    exact ⟨rfl, HB7.out.trans (hb.mono HB7.out.size)⟩
  · by_cases hm1 : me = 1
    · subst hm1
      have CN' : Hid (∀ W g, Ls W (.slice (some ⟨g, 0, none⟩) 8 8) acode → Calls Tryz.prog 10 #[.agg #[.slice (some ⟨g, 0, none⟩) 8 8, .int .i64 5, .int .i64 20], .int .u32 1, .int .i64 1] W fun e w' => ∃ a, e = .returned (.tuple #[.pointer (some a), .int .i64 0]) ∧ Below W.heap.size W w') := fun W g hl => (CN.out W g hl).mono (by
        rintro e w' ⟨p, h1, rfl, h2⟩
        cases p with
        | none => exact absurd (Or.inr rfl) (h1.1 rfl)
        | some a => exact ⟨a, rfl, h2⟩)
      clear CN
      go_enter Tryz.func8, Tryz.ntmps8
      go_wp2_with (go_big_may; first
        | (go_at_call 13; refine (CL.out _).mono ?_; rintro e w1 ⟨rfl, h1⟩; replace h1 := h1.symm; subst h1)
        | (go_at_call 17; refine (CW.out _).mono ?_; rintro e w2 ⟨rfl, h2⟩; replace h2 := h2.symm; subst h2)
        | (go_at_call 26; refine (CA.out _).mono ?_; rintro e w3 ⟨g3, rfl, hl3, h3⟩; have HL3 := hid_into hl3; have HB3 := hid_into h3; clear hl3 h3)
        | (go_at_call 10; refine (CN'.out _ _ HL3.out).mono ?_; rintro e w4 ⟨a4, rfl, h4⟩; have HB4 := hid_into (HB3.out.trans (h4.mono HB3.out.size)); clear h4)
        | (go_at_call 15; refine (CR.out _).mono ?_; rintro e w5 ⟨rfl, h5⟩; replace h5 := h5.symm; subst h5)
        | (go_at_call 18; refine (C18.out _).mono ?_; rintro e w6 ⟨rfl, h6⟩; have HB6 := hid_into (HB4.out.trans (h6.mono HB4.out.size)); clear h6)
        | (go_at_call 20; refine (C20.out _).mono ?_; rintro e w7 ⟨rfl, h7⟩; have HB7 := hid_into (HB6.out.trans (h7.mono HB6.out.size)); clear h7)
        | (go_at_call 22; refine (C22.out _).mono ?_; rintro e w8 ⟨rfl, h8⟩; replace h8 := h8.symm; subst h8)
        | (refine wpList_build_rowG (by kernel_rfl) 48 #[] rfl zz [] rfl HBz.out ?_)
        | (refine wpList_eql28 (by kernel_rfl) (.tmp 46) (.tmp 47) rfl zz zz true HEz rfl rfl ?_)
        | (refine wpList_eql28 (by kernel_rfl) (.tmp 52) (.tmp 53) rfl zz zz true HEz rfl rfl ?_)
        | (go_at_call 12; refine (CK.out _).mono ?_; rintro e wb ⟨rfl, hb⟩))
      go_ret
      exact ⟨rfl, HB7.out.trans (hb.mono HB7.out.size)⟩
    · have CN' : Hid (∀ W g, Ls W (.slice (some ⟨g, 0, none⟩) 8 8) acode → Calls Tryz.prog 10 #[.agg #[.slice (some ⟨g, 0, none⟩) 8 8, .int .i64 5, .int .i64 20], .int .u32 1, .int .i64 me] W fun e w' => ∃ a : Nat, e = .returned (.tuple #[.pointer none, .int .i64 1]) ∧ Below W.heap.size W w') := fun W g hl => (CN.out W g hl).mono (by
        rintro e w' ⟨p, h1, rfl, h2⟩
        have hn : ¬ (me = 0 ∨ me = 1) := fun c => by rcases c with c | c; exact hm c; exact hm1 c
        rw [h1.2 hn]
        exact ⟨0, by unfold nwV; rw [if_neg hn], h2⟩)
      have n0 : (me != 0) = true := by simp [hm]
      have n1 : (me != 1) = true := by simp [hm1]
      have n2 : (me == 0) = false := by simp [hm]
      have n3 : (me == 1) = false := by simp [hm1]
      clear CN
      go_enter Tryz.func8, Tryz.ntmps8
      go_wp2_with (go_big_may; first
        | (go_at_call 13; refine (CL.out _).mono ?_; rintro e w1 ⟨rfl, h1⟩; replace h1 := h1.symm; subst h1)
        | (go_at_call 17; refine (CW.out _).mono ?_; rintro e w2 ⟨rfl, h2⟩; replace h2 := h2.symm; subst h2)
        | (go_at_call 26; refine (CA.out _).mono ?_; rintro e w3 ⟨g3, rfl, hl3, h3⟩; have HL3 := hid_into hl3; have HB3 := hid_into h3; clear hl3 h3)
        | (go_at_call 10; refine (CN'.out _ _ HL3.out).mono ?_; rintro e w4 ⟨a4, rfl, h4⟩; have HB4 := hid_into (HB3.out.trans (h4.mono HB3.out.size)); clear h4)
        | (go_at_call 15; refine (CR.out _).mono ?_; rintro e w5 ⟨rfl, h5⟩; replace h5 := h5.symm; subst h5)
        | (go_at_call 18; refine (C18.out _).mono ?_; rintro e w6 ⟨rfl, h6⟩; have HB6 := hid_into (HB4.out.trans (h6.mono HB4.out.size)); clear h6)
        | (go_at_call 20; refine (C20.out _).mono ?_; rintro e w7 ⟨rfl, h7⟩; have HB7 := hid_into (HB6.out.trans (h7.mono HB6.out.size)); clear h7)
        | (go_at_call 22; refine (C22.out _).mono ?_; rintro e w8 ⟨rfl, h8⟩; replace h8 := h8.symm; subst h8)
        | (refine wpList_build_rowG (by kernel_rfl) 48 #[] rfl zz [] rfl HBz.out ?_)
        | (refine wpList_eql28 (by kernel_rfl) (.tmp 46) (.tmp 47) rfl zz zz true HEz rfl rfl ?_)
        | (refine wpList_eql28 (by kernel_rfl) (.tmp 52) (.tmp 53) rfl zz zz true HEz rfl rfl ?_)
        | (go_at_call 12; refine (CK.out _).mono ?_; rintro e wb ⟨rfl, hb⟩))
      go_ret
      exact ⟨rfl, HB7.out.trans (hb.mono HB7.out.size)⟩
end Go.Proofs.YtbfldcieibdapaaGreat
