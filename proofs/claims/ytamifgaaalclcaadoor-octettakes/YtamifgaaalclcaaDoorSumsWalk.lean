/-
  OctetSums, walked: for every row of bytes, place and byte it answers true, and writes nothing that was there.
-/
import Derived.Test.YtamifgaaalclcaaDoorHelp
namespace Go.Proofs.YtamifgaaalclcaaDoor
open Go.RowKit

theorem Ow.set {w : World} {base g m cap : Nat} {ys : List Int} (h : Ow w base (.slice (some ⟨g, 0, none⟩) m cap) ys) (i : Nat) (x : Int) :
    Ow (w.setCell ⟨g, i, none⟩ (.int .u8 x)) base (.slice (some ⟨g, 0, none⟩) m cap) (ys.set i x) := by
  obtain ⟨ao, c, he, ⟨rfl, _⟩ | ⟨g', cur, rfl, hb, hl, hg, hn, hc, hs, ht⟩⟩ := h.form
  · simp at he
  · simp only [Value.slice.injEq, Option.some.injEq, Addr.mk.injEq, and_true] at he
    obtain ⟨rfl, rfl, rfl⟩ := he
    refine ⟨by simp [cellsOf], Or.inr ⟨g, cap, cur.setIfInBounds i (.int .u8 x), by simp, hb, ?_, by simpa using hn, hc, by simpa using hs, ?_⟩⟩
    · simp only [World.setCell, Array.getElem?_modify, hg]
      simp
    · simp only [List.length_set, Nat.mul_one, Array.toList_setIfInBounds]
      rw [List.take_set, ht]
      simp [cellsOf, List.map_set]

theorem and30 (a : Int) : ∃ A : Nat, bits .and .i64 a 1073741823 = (A : Int) ∧ A < 1073741824 := by
  have e : bits .and .i64 a 1073741823 = IntKind.i64.wrap (((BitVec.ofInt 64 a &&& BitVec.ofInt 64 1073741823).toNat : Nat) : Int) := rfl
  have hb : (BitVec.ofInt 64 a &&& BitVec.ofInt 64 1073741823).toNat < 1073741824 := by
    rw [BitVec.toNat_and]
    have : (BitVec.ofInt 64 1073741823).toNat = 1073741823 := by decide
    rw [this]
    exact Nat.lt_of_le_of_lt Nat.and_le_right (by decide)
  refine ⟨_, ?_, hb⟩
  rw [e]
  generalize (BitVec.ofInt 64 a &&& BitVec.ofInt 64 1073741823).toNat = n at *
  simp [IntKind.wrap, IntKind.bits, IntKind.signed]
  omega

theorem Ow.frozen {w : World} {base g m cap : Nat} {ys : List Int} (h : Ow w base (.slice (some ⟨g, 0, none⟩) m cap) ys) (i : Nat) : w.frozen? ⟨g, i, none⟩ = false := by
  obtain ⟨ao, c, he, ⟨rfl, _⟩ | ⟨g', cur, rfl, hb, hl, hg, hn, hc, hs, ht⟩⟩ := h.form
  · simp at he
  · simp only [Value.slice.injEq, Option.some.injEq, Addr.mk.injEq, and_true] at he
    obtain ⟨rfl, rfl, rfl⟩ := he
    simp [World.frozen?, hg]

theorem sumOf_set (zs : List Int) (i : Nat) (x : Int) (hz : ∀ z ∈ zs, 0 ≤ z ∧ z < 256) (hx : 0 ≤ x ∧ x < 256) (hi : i < zs.length) (hne : x ≠ zs.getD i 0) : sumOf (zs.set i x) ≠ sumOf zs := by
  have e1 : zs.set i x = zs.take i ++ x :: zs.drop (i + 1) := by rw [List.set_eq_take_append_cons_drop]; simp [hi]
  have e2 : zs = zs.take i ++ zs.getD i 0 :: zs.drop (i + 1) := by
    have : zs.getD i 0 = zs[i] := by simp [List.getD, hi]
    rw [this]; simp
  have h1 := sumOf_other (zs.take i) (zs.drop (i + 1)) x (zs.getD i 0) (fun z hz' => hz z (List.mem_of_mem_take hz')) (fun z hz' => hz z (List.mem_of_mem_drop hz')) hx (hz _ (getD_mem zs i hi)) hne
  rw [e1]
  rw [← e2] at h1
  exact h1

set_option maxHeartbeats 1600000 in
theorem sums_walk (sv : Value) (zs : List Int) (at_ x : Int) (w : World) (hb : Bs w sv zs) (hz : Byt zs) (ht : Tab w) (hx0 : 0 ≤ x) (hx1 : x < 256) :
    Calls Tryd.prog 6 #[sv, .int .i64 at_, .int .u8 x] w fun e w' => e = .returned (.bool true) ∧ Below w.heap.size w w' := by
  obtain ⟨ao, cap, hsv, hm⟩ := hb.len
  subst hsv
  unfold maxLen at hm
  by_cases hn : 3000 < zs.length
  · go_enter Tryd.func6, Tryd.ntmps6
    go_wp2
    go_ret
    exact ⟨rfl, Below.refl _ _⟩
  have htl := ht.lt
  go_enter Tryd.func6, Tryd.ntmps6
  go_wp2_with fail
  refine (roomy_any _ zs _ hb (by omega)).mono ?_
  rintro e w1 ⟨g, cap1, rfl, ho1, B1, hg1, hcap1⟩
  have ht1 := ht.below B1 htl
  have hb1 := hb.below B1 (Nat.le_refl _)
  have hp1 := ho1.take zs.length (by simp)
  rw [show (zs ++ [(171 : Int)]).take zs.length = zs by simp] at hp1
  obtain ⟨-, -, hcm⟩ := hp1.bounds
  unfold maxLen at hcm
  go_wp2_with fail
  refine (sum_any _ zs _ hp1.bs hz ht1).mono ?_
  rintro e w2 ⟨rfl, rfl⟩
  go_wp2_with fail
  refine (refSum_any _ zs _ hb1 hz).mono ?_
  rintro e w2 ⟨rfl, rfl⟩
  go_wp2_with fail
  refine (stands_any _ g cap1 _ zs _ ho1 hb1 (by omega)).mono ?_
  rintro e w2 ⟨rfl, hsm2⟩
  have ht2 := ht1.sm hsm2
  have B2 : Below w.heap.size w w2 := B1.trans (hsm2.below _)
  have ho2 := hsm2.ow ho1
  by_cases hq : zs.length = 0 ∨ x = 0
  · by_cases hn0 : zs.length = 0
    · have hp : ¬ (0 : Int) < zs.length := by omega
      clear hq
      go_wp2_with fail
      refine (known_any _ ht2).mono ?_
      rintro e w3 ⟨rfl, B3⟩
      go_wp2
      go_ret
      exact ⟨rfl, B2.trans (B3.mono B2.size)⟩
    · have hp : (0 : Int) < zs.length := by omega
      have hxx : x = 0 := by omega
      subst hxx
      clear hq
      go_wp2_with fail
      refine (known_any _ ht2).mono ?_
      rintro e w3 ⟨rfl, B3⟩
      go_wp2
      go_ret
      exact ⟨rfl, B2.trans (B3.mono B2.size)⟩
  · have hp : (0 : Int) < zs.length := by omega
    have hxn : (x != 0) = true := by simp; omega
    have hxp : 0 < x := by omega
    obtain ⟨A, eA, hA⟩ := and30 at_
    obtain ⟨I, hI⟩ : ∃ I, I = A % zs.length := ⟨_, rfl⟩
    have hI1 : I < zs.length := hI ▸ Nat.mod_lt _ (by omega)
    have eI : ((A : Int) % (zs.length : Int)) = (I : Int) := by rw [hI]; simp
    clear hI hq
    have hcI := ho2.cell I (by simp; omega)
    rw [show (zs ++ [(171 : Int)]).getD I 0 = zs.getD I 0 by simp [List.getD, List.getElem?_append, hI1]] at hcI
    have hfI := ho2.frozen I
    have hzI := hz _ (getD_mem zs I hI1)
    obtain ⟨z2, hz2⟩ : ∃ z2, z2 = bits .xor .u8 (zs.getD I 0) x := ⟨_, rfl⟩
    have hz2n : z2 = ((((zs.getD I 0).toNat ^^^ x.toNat : Nat)) : Int) := by rw [hz2, u8_xor _ _ hzI.1 hzI.2 hx0 hx1]
    have hz2b : 0 ≤ z2 ∧ z2 < 256 := by
      have := Nat.xor_lt_two_pow (n := 8) (show (zs.getD I 0).toNat < 2 ^ 8 by omega) (show x.toNat < 2 ^ 8 by omega)
      omega
    have hne : z2 ≠ zs.getD I 0 := by
      intro e
      have : (zs.getD I 0).toNat ^^^ x.toNat = (zs.getD I 0).toNat ^^^ 0 := by rw [Nat.xor_zero]; omega
      have := xor_cancel_left this
      omega
    have HS : Hid (sumOf (zs.set I z2) ≠ sumOf zs) := sumOf_set zs I z2 hz hz2b hI1 hne
    have hbz : Byt (zs.set I z2) := fun z hz' => by
      rcases List.mem_or_eq_of_mem_set hz' with h | h
      · exact hz z h
      · subst h; exact hz2b
    have ho3 := ho2.set I z2
    have B3 : Below w.heap.size w (w2.setCell ⟨g, I, none⟩ (.int .u8 z2)) := B2.setCell (by simpa using hg1) _
    have ht3 := ht.below B3 htl
    have hp3 := (ho3.take zs.length (by simp)).bs
    rw [show ((zs ++ [(171 : Int)]).set I z2).take zs.length = zs.set I z2 by rw [List.set_append]; simp [hI1]] at hp3
    have ez2 := hz2.symm
    generalize zs.getD I 0 = z at *
    have HB3 : Hid (Below w.heap.size w (w2.setCell ⟨g, I, none⟩ (.int .u8 z2))) := B3
    clear hz2 hz2n hne B3 hp1 ho1 ho2 ho3 hb1 hb ht1 ht2
    go_wp2_with fail
    refine (sum_any _ _ _ hp3 hbz ht3).mono ?_
    rintro e w3 ⟨rfl, rfl⟩
    have hneq : ((((sumOf (zs.set I z2) : Nat) : Int)) == ((sumOf zs : Nat) : Int)) = false := by
      have := HS.out
      simp; omega
    generalize sumOf (zs.set I z2) = s2 at *
    generalize sumOf zs = s1 at *
    go_wp2_with fail
    refine (known_any _ ht3).mono ?_
    rintro e w3 ⟨rfl, B4⟩
    go_wp2
    go_ret
    exact ⟨rfl, HB3.out.trans (B4.mono HB3.out.size)⟩
end Go.Proofs.YtamifgaaalclcaaDoor
