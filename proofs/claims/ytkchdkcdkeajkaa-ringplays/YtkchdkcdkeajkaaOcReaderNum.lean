/-
  The Reader's Num, by contract: whatever bytes are left.
-/
import Derived.Test.YtkchdkcdkeajkaaOcReader
import Derived.Test.YtkchdkcdkeajkaaOcNumR
namespace Go.Proofs.Ytkchdkcdkeajkaa.Oc
open Go.RowKit

theorem unfold_any (u : Nat) (w : World) (h1 : u < 18446744073709551616) :
    Calls Try.prog 39 #[.int .u64 (u : Nat)] w fun r w' => r = .returned (.int .i64 (unfoldI u)) ∧ w = w' := by
  have ea := u64_and_nat u 1 h1 (by decide)
  rw [nat_mask1] at ea
  by_cases ho : u % 2 = 1
  · have ea1 : bits .and .u64 (u : Int) 1 = 1 := by rw [ho] at ea; exact ea
    have HE : Hid (bits .xor .i64 (-1) ((u : Int) / 2) = unfoldI u) := by
      show _ = _
      rw [unfoldI_odd ho, not64 _ (by omega) (by omega)]
      omega
    clear ea ho
    go_enter Try.func39, Try.ntmps39
    go_wp2
    go_ret
    exact ⟨ret_int HE.out, rfl⟩
  · have ea1 : bits .and .u64 (u : Int) 1 = 0 := by rw [show u % 2 = 0 by omega] at ea; exact ea
    have HE : Hid ((u : Int) / 2 = unfoldI u) := by
      show _ = _
      rw [unfoldI_even ho]
      omega
    clear ea ho
    go_enter Try.func39, Try.ntmps39
    go_wp2
    go_ret
    exact ⟨ret_int HE.out, rfl⟩
theorem mayEnd_bad (k : Nat) (z : Int) (w : World) (h : badB k z = true) :
    Calls Try.prog 37 #[.int .i64 k, .int .u8 z] w fun r w' => r = .returned (.bool false) ∧ w = w' := by
  by_cases h1 : k = 9 ∧ 1 < z
  · obtain ⟨rfl, h2⟩ := h1
    clear h
    go_enter Try.func37, Try.ntmps37
    go_wp2
    go_ret
    exact ⟨rfl, rfl⟩
  · have h2 : k ≠ 0 ∧ z = 0 := by
      simp [badB] at h
      omega
    obtain ⟨hk, rfl⟩ := h2
    have hk0 : ((k : Int) == 0) = false := by simp; omega
    clear h h1
    by_cases h9 : k = 9
    · subst h9
      go_enter Try.func37, Try.ntmps37
      go_wp2
      go_ret
      exact ⟨rfl, rfl⟩
    · have h9' : ((k : Int) == 9) = false := by simp; omega
      go_enter Try.func37, Try.ntmps37
      go_wp2
      go_ret
      exact ⟨rfl, rfl⟩
theorem mayEnd_good (k : Nat) (z : Int) (w : World) (h : badB k z = false) :
    Calls Try.prog 37 #[.int .i64 k, .int .u8 z] w fun r w' => r = .returned (.bool true) ∧ w = w' := by
  simp [badB] at h
  obtain ⟨h1, h2⟩ := h
  by_cases h9 : k = 9
  · subst h9
    have hz1 : z ≤ 1 := h1 rfl
    have hz : (z != 0) = true := by simp; exact h2 (by decide)
    clear h1 h2
    go_enter Try.func37, Try.ntmps37
    go_wp2
    go_ret
    exact ⟨rfl, rfl⟩
  · have h9' : ((k : Int) == 9) = false := by simp; omega
    by_cases h0 : k = 0
    · subst h0
      clear h1 h2
      go_enter Try.func37, Try.ntmps37
      go_wp2
      go_ret
      exact ⟨rfl, rfl⟩
    · have h0' : ((k : Int) == 0) = false := by simp; omega
      have hz : (z != 0) = true := by simp; exact h2 h0
      clear h1 h2
      go_enter Try.func37, Try.ntmps37
      go_wp2
      go_ret
      exact ⟨rfl, rfl⟩

/-- What a taking leaves. -/
def Rleft (w : World) (b : Nat) (v : Value) (w' : World) (zs : List Int) (e : Int) : Prop := ∃ v', Rd w' b v' zs e ∧ Rstep b w w' ∧ (v'.ownBlock = v.ownBlock ∨ v'.ownBlock = none)

set_option maxHeartbeats 1600000 in
theorem rnum_any (b : Nat) (v : Value) (zs : List Int) (w : World) (hr : Rd w b v zs 0) (hz : Byt zs) :
    Calls Try.prog 25 #[.pointer (some ⟨b, 0, none⟩)] w fun r w' => r = .returned (.int .i64 (numR 10 0 0 zs).1) ∧ Rleft w b v w' (numR 10 0 0 zs).2.1 (numR 10 0 0 zs).2.2 := by
  generalize hres : numR 10 0 0 zs = res
  have HR : Hid (numR 10 0 0 zs = res) := hres
  clear hres
  go_enter Try.func25, Try.ntmps25
  go_wp2
  go_loopw [3, 6] (fun u i wr => ∃ (k : Nat) (U : Int) (v1 : Value) (zs1 : List Int), k ≤ 10 ∧ i = .int .i64 k ∧ u = .int .u64 U ∧ Rd wr b v1 zs1 0 ∧ Byt zs1 ∧ Rstep b w wr ∧ v1.ownBlock = v.ownBlock ∧ (∃ U' : Nat, (k ≤ 9 → U = U' ∧ U' < 128 ^ k) ∧ Hid (numR (10 - k) k U' zs1 = res))) (fun _ i _ => 10 - (intOf i).toNat)
  case atStart => exact ⟨0, 0, v, zs, by decide, rfl, rfl, hr, hz, Rstep.refl _ _, rfl, 0, fun _ => ⟨rfl, by decide⟩, HR⟩
  case round =>
    obtain ⟨k, U, v1, zs1, hk, rfl, rfl, hr1, hz1, hs1, ho1, U', hU, HR1⟩ := hrel
    by_cases hk10 : k = 10
    · subst hk10
      have HF : Hid (res = (0, [], 3)) := by show _ = _; rw [← HR1.out]; rfl
      clear HR HR1 hU
      go_wp2_with (go_at_call 38; refine (fail_any b _ _ _ 3 _ hr1).mono ?_; rintro e w' ⟨rfl, hr2, hs2⟩)
      go_ret
      rw [HF.out]
      exact ⟨rfl, _, hr2, hs1.trans hs2, Or.inr rfl⟩
    obtain ⟨rfl, hU1⟩ := hU (by omega)
    obtain ⟨f, hf⟩ : ∃ f, 10 - k = f + 1 := ⟨9 - k, by omega⟩
    rw [hf] at HR1
    have hf2 : f = 10 - (k + 1) := by omega
    have hklt : k < 10 := by omega
    clear hU hf
    cases zs1 with
    | nil =>
      have HF : Hid (res = (0, [], 2)) := by show _ = _; rw [← HR1.out]; rfl
      clear HR HR1
      go_wp2_with (go_at_call 36; refine (has_no b _ [] _ _ hr1 (by simp)).mono ?_; rintro e w' ⟨rfl, hr2, hs2⟩)
      go_ret
      rw [HF.out]
      exact ⟨rfl, _, hr2, hs1.trans hs2, Or.inr rfl⟩
    | cons z r =>
      obtain ⟨hz0, hz256⟩ := hz1 z (by simp)
      have hzr : Byt r := fun y hy => hz1 y (by simp [hy])
      by_cases hz128 : 128 ≤ z
      · have HR2 : Hid (numR f (k + 1) (U' + (z.toNat % 128) * 128 ^ k) r = res) := by
          show _ = _
          rw [← HR1.out, numR_more hz128]
        have HO : Hid (k + 1 ≤ 9 → bits .or .u64 (U' : Int) (IntKind.u64.wrap (IntKind.u64.wrap (bits .andNot .u8 z 128) * 2 ^ (7 * k))) = ((U' + (z.toNat % 128) * 128 ^ k : Nat) : Int) ∧ U' + (z.toNat % 128) * 128 ^ k < 128 ^ (k + 1)) := by
          intro hk9
          refine ⟨orStep U' k z hz0 hz256 (by omega) hU1 (by omega), ?_⟩
          have : (z.toNat % 128) * 128 ^ k ≤ 127 * 128 ^ k := Nat.mul_le_mul_right _ (by omega)
          rw [Nat.pow_succ]
          omega
        clear HR HR1
        go_wp2_with fail
        refine (has_yes b _ _ _ _ hr1 (by simp; omega)).mono ?_
        rintro e w' ⟨rfl, rfl⟩
        go_wp2_with fail
        refine (rbyte_yes b _ _ _ _ hr1).mono ?_
        rintro e w2 ⟨rfl, v2, hv2, hr2, hs2⟩
        go_wp2_with fail
        go_roundw
        case rel => exact ⟨k + 1, _, v2, r, by omega, by go_num, rfl, hr2, hzr, hs1.trans hs2, hv2.trans ho1, _, HO.out, by rw [← hf2]; exact HR2⟩
        case measure => simp [intOf]; omega
      · have hz128' : z < 128 := by omega
        cases hbad : badB k z with
        | true =>
          have HF : Hid (res = (0, [], 3)) := by show _ = _; rw [← HR1.out, numR_bad hz128 hbad]
          clear HR HR1
          go_wp2_with fail
          refine (has_yes b _ _ _ _ hr1 (by simp; omega)).mono ?_
          rintro e w' ⟨rfl, rfl⟩
          go_wp2_with fail
          refine (rbyte_yes b _ _ _ _ hr1).mono ?_
          rintro e w2 ⟨rfl, v2, hv2, hr2, hs2⟩
          go_wp2_with fail
          refine (mayEnd_bad k z _ hbad).mono ?_
          rintro e w' ⟨rfl, rfl⟩
          go_wp2_with fail
          refine (fail_any b _ _ _ 3 _ hr2).mono ?_
          rintro e w3 ⟨rfl, hr3, hs3⟩
          go_wp2_with fail
          go_ret
          rw [HF.out]
          exact ⟨rfl, _, hr3, (hs1.trans hs2).trans hs3, Or.inr rfl⟩
        | false =>
          have HF : Hid (res = (unfoldI (U' + z.toNat * 128 ^ k), r, 0)) := by show _ = _; rw [← HR1.out, numR_good hz128 hbad]
          have hm : z.toNat % 128 = z.toNat := by omega
          have h9 : k = 9 → z.toNat % 128 ≤ 1 := by
            intro e
            simp [badB] at hbad
            have := hbad.1 e
            omega
          have ho := orStep U' k z hz0 hz256 (by omega) hU1 h9
          have hfs := fits_step k (z.toNat % 128) (by omega) (by omega) h9
          have hp9 := pow_le9 k (by omega)
          rw [hm] at ho hfs
          have hN : U' + z.toNat * 128 ^ k < 18446744073709551616 := by omega
          generalize U' + z.toNat * 128 ^ k = N at *
          have HO : Hid (bits .or .u64 (U' : Int) (IntKind.u64.wrap (IntKind.u64.wrap (bits .andNot .u8 z 128) * 2 ^ (7 * k))) = (N : Int)) := ho
          clear HR HR1 ho hfs hp9 hm
          go_wp2_with fail
          refine (has_yes b _ _ _ _ hr1 (by simp; omega)).mono ?_
          rintro e w' ⟨rfl, rfl⟩
          go_wp2_with fail
          refine (rbyte_yes b _ _ _ _ hr1).mono ?_
          rintro e w2 ⟨rfl, v2, hv2, hr2, hs2⟩
          go_wp2_with fail
          refine (mayEnd_good k z _ hbad).mono ?_
          rintro e w' ⟨rfl, rfl⟩
          go_wp2_with fail
          rw [HO.out]
          refine (unfold_any N _ hN).mono ?_
          rintro e w3 ⟨rfl, rfl⟩
          go_wp2_with fail
          go_ret
          rw [HF.out]
          exact ⟨rfl, _, hr2, hs1.trans hs2, Or.inl (hv2.trans ho1)⟩

theorem rnum_err (b : Nat) (v : Value) (zs : List Int) (e : Int) (w : World) (hr : Rd w b v zs e) (he : e ≠ 0) :
    Calls Try.prog 25 #[.pointer (some ⟨b, 0, none⟩)] w fun r w' => r = .returned (.int .i64 0) ∧ w = w' := by
  go_enter Try.func25, Try.ntmps25
  go_wp2
  refine wp_loop_rounds 1 ?_
  rw [rounds_succ]
  go_wp2_with (go_at_call 36; refine (has_err b v zs e _ _ hr he).mono ?_; rintro e w' ⟨rfl, rfl⟩)
  go_ret
  exact ⟨rfl, rfl⟩
theorem rnum_nil (w : World) :
    Calls Try.prog 25 #[.pointer none] w fun r w' => r = .returned (.int .i64 0) ∧ w = w' := by
  go_enter Try.func25, Try.ntmps25
  go_wp2
  refine wp_loop_rounds 1 ?_
  rw [rounds_succ]
  go_wp2_with (go_at_call 36; refine (has_nil _ _).mono ?_; rintro e w' ⟨rfl, rfl⟩)
  go_ret
  exact ⟨rfl, rfl⟩
end Go.Proofs.Ytkchdkcdkeajkaa.Oc
