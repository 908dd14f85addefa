/-
  LinkIds' walk.
-/
import Derived.Test.YtahodgmdikaedabDoorM12
namespace Go.Proofs.YtahodgmdikaedabDoor
open Go.RowKit
theorem one_out (zs : List Int) : (newL.put zs).outs 16 = [⟨1, 0, zs⟩] := rfl
theorem one_good (zs : List Int) (hy : Byt zs) (hl : zs.length ≤ 4096) : Pk.Good ⟨1, 0, zs⟩ := ⟨by show (1 : Nat) ≤ _; decide, by show (0 : Nat) ≤ _; decide, hy, hl, fun h => by cases h⟩
set_option maxHeartbeats 6400000 in
set_option maxRecDepth 20000 in
theorem ids_walk (n0 n1 : Int) (h0 : -9223372036854775808 ≤ n0 ∧ n0 ≤ 9223372036854775807) (h1 : -9223372036854775808 ≤ n1 ∧ n1 ≤ 9223372036854775807) (sv : Value) (zs : List Int) (w : World) (hb : Bs w sv zs) (hy : Byt zs) (ht : Tab w) :
    Calls Tryd.prog 4 #[.int .i64 n0, .int .i64 n1, sv] w fun e w' => e = .returned (.bool true) ∧ Below w.heap.size w w' := by
  obtain ⟨ao, cap, rfl, hm⟩ := hb.len
  have K : Hid (∀ W, Below w.heap.size w W → Calls Tryd.prog 6 #[] W fun e w' => e = .returned (.bool true) ∧ Below w.heap.size w w') := fun W h => (lknown_any W (ht.below h ht.lt)).mono fun e w' ⟨he, hB⟩ => ⟨he, h.trans (hB.mono h.size)⟩
  by_cases c1 : n0 = n1
  · subst c1
    clear hb hy ht h0 h1 hm
    go_enter Tryd.func4, Tryd.ntmps4
    go_wp2_with (go_at_call 6; refine (K.out _ (Below.refl _ _)).mono ?_; rintro e w1 ⟨rfl, hB⟩)
    go_ret
    exact ⟨rfl, hB⟩
  by_cases c2 : 1000 < zs.length
  · have c2' : (1000 : Int) < (zs.length : Int) := by omega
    clear hb hy ht h0 h1 hm c2
    go_enter Tryd.func4, Tryd.ntmps4
    go_wp2_with (go_at_call 6; refine (K.out _ (Below.refl _ _)).mono ?_; rintro e w1 ⟨rfl, hB⟩)
    go_ret
    exact ⟨rfl, hB⟩
  have c2' : ¬ (1000 : Int) < (zs.length : Int) := by omega
  have hl : Hid (zs.length ≤ 1000) := by show _ ≤ _; omega
  have hz := hid_into ht.lt
  have hT := hid_into ht
  have hb := hid_into hb
  have hy := hid_into hy
  have h0 := hid_into h0
  have h1 := hid_into h1
  have hg := hid_into (one_good zs hy.out (by have := hl.out; omega))
  clear ht hm c2
  go_enter Tryd.func4, Tryd.ntmps4
  go_wp2_with fail
  refine (Ld.new w w.heap.size (Nat.le_refl _) n0 h0.out).mono ?_
  rintro e w1 ⟨rfl, A1, B1, s1⟩
  replace s1 := hid_into s1
  have hle1 := hid_into B1.size
  replace B1 := hid_into B1
  replace A1 := hid_into A1
  generalize hla : w.heap.size = la at *
  replace hla := hid_into hla
  go_wp2_with fail
  refine (Ld.new w1 la hle1.out n1 h1.out).mono ?_
  rintro e w2 ⟨rfl, C2, B2, s2⟩
  have A2 := hid_into (A1.out.below B2)
  have B12 : Hid (Below la w w2) := B1.out.trans (B2.mono hle1.out)
  replace s2 := hid_into s2
  replace C2 := hid_into C2
  clear B2
  generalize w1.heap.size = lb at *
  have hb2 : Hid (Bs w2 (.slice ao zs.length cap) zs) := by
    have := B12.out
    rw [← hla.out] at this
    exact hb.out.below this (Nat.le_refl _)
  clear A1 B1 hb
  go_wp2_with fail
  refine (Ld.send A2.out (by have := s2.out; have := s1.out; omega) (hT.out.below B12.out hz.out) hz.out hb2.out hy.out (by have := hl.out; omega) (by decide) (by decide)).mono ?_
  rintro e w4 ⟨ao4, cap4, n4, rfl, hn4, P4, A4, G4⟩
  rw [one_out] at P4 ⊢
  obtain ⟨g4, ap4, cp4, rfl, q4, hb4, hcl4, hcm4, hg4, hr4⟩ := P4.at (j := 0) (p := ⟨1, 0, zs⟩) rfl
  have hsz2 : Hid (w2.heap.size = la + 2) := by show _ = _; have := s2.out; have := s1.out; omega
  have B4 : Hid (Below la w w4) := B12.out.trans (G4.below (by have := hsz2.out; omega) fun k hk => by omega)
  have C4 : Hid (Ld w4 la (fun k => k = lb) lb n1 newL) := C2.out.gr G4 fun k hk e => by have := s1.out; omega
  replace A4 := hid_into A4
  replace hb4 := hid_into hb4
  have R1 := rd_enc n0 n1 h0.out ⟨1, 0, zs⟩ hg.out
  rw [if_neg c1] at R1
  have L1 := encP_len n0 ⟨1, 0, zs⟩ hg.out
  have Y1 := encP_byt n0 h0.out ⟨1, 0, zs⟩ hg.out
  replace R1 := hid_into R1
  replace L1 := hid_into L1
  replace Y1 := hid_into Y1
  have hsz4 : Hid (la ≤ w4.heap.size) := by show _ ≤ _; have := G4.size; have := hsz2.out; omega
  clear A2 B12 C2 hb2 P4 G4 hr4
  generalize encP n0 ⟨1, 0, zs⟩ = e1 at *
  go_wp2_with fail
  refine (Ld.deaf C4.out (hT.out.below B4.out hz.out) hb4.out Y1.out (by have := L1.out; omega) R1.out (by decide)).mono ?_
  rintro e w5 ⟨rfl, C5, G5⟩
  have B5 : Hid (Below la w w5) := B4.out.trans (G5.below hsz4.out fun k hk => by have := s1.out; omega)
  have A5 : Hid (Ld w5 la (Fw (fun k => k = la) w2.heap.size n4) la n0 ((newL.put zs).goes 16)) := A4.out.gr G5 fun k hk e => by
    have := s1.out
    have := hsz2.out
    rcases hk with hk | hk <;> omega
  have C6 : Hid (Calls Tryd.prog 11 #[.pointer (some ⟨lb, 0, none⟩)] w5 fun e w' => e = .returned (.tuple #[.int .i64 0, .int .i64 1]) ∧ Sm w5 w') := C5.stats
  have C7 : Hid (∀ W, Sm w5 W → Calls Tryd.prog 9 #[.pointer (some ⟨la, 0, none⟩)] W fun e w' => e = .returned (.int .i64 1) ∧ w' = W) := fun W h => (A5.out.below (h.below _)).left
  have K6 : Hid (∀ W, Sm w5 W → Calls Tryd.prog 6 #[] W fun e w' => e = .returned (.bool true) ∧ Below la w w') := fun W h => K.out W (B5.out.trans (h.below _))
  clear A4 B4 C4 C5 G5 hb4 q4 R1 L1 Y1 A5 B5
  go_wp2_with (first
    | (go_at_call 11; refine C6.out.mono ?_; rintro e w6 ⟨rfl, h6⟩)
    | (go_at_call 9; refine (C7.out _ h6).mono ?_; rintro e w7 ⟨rfl, h7⟩; subst h7)
    | (go_at_call 6; refine (K6.out _ h6).mono ?_; rintro e w8 ⟨rfl, h8⟩))
  go_ret
  exact ⟨rfl, by rw [hla.out]; exact h8⟩
end Go.Proofs.YtahodgmdikaedabDoor
