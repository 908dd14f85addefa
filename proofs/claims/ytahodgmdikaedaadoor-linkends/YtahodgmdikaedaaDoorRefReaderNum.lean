/-
  The document's own Reader's Num, by contract.
-/
import Derived.Test.YtahodgmdikaedaaDoorM07
namespace Go.Proofs.YtahodgmdikaedaaDoor
open Go.RowKit

theorem and127b (z : Int) (h0 : 0 ≤ z) (h1 : z < 256) : bits .and .u8 z 127 = ((z.toNat % 128 : Nat) : Int) := by
  obtain ⟨a, rfl⟩ := Int.eq_ofNat_of_zero_le h0
  have : ∀ a : Fin 256, bits .and .u8 (a.val : Int) 127 = ((a.val % 128 : Nat) : Int) := by decide +kernel
  exact this ⟨a, by omega⟩
theorem orStepF (U k : Nat) (z : Int) (h0 : 0 ≤ z) (h1 : z < 256) (hk : k ≤ 9) (hU : U < 128 ^ k) (h9 : k = 9 → z.toNat % 128 ≤ 1) :
    bits .or .u64 (U : Int) (IntKind.u64.wrap (IntKind.u64.wrap (bits .and .u8 z 127) * 2 ^ (7 * k))) = ((U + (z.toNat % 128) * 128 ^ k : Nat) : Int) := by
  rw [and127b z h0 h1, ← andNot128 z h0 h1]
  exact orStep U k z h0 h1 hk hU h9

set_option maxHeartbeats 1600000 in
theorem fnum_any (b : Nat) (v : Value) (zs : List Int) (w : World) (hr : Rf w b v zs 0) (hz : Byt zs) :
    Calls Tryd.prog 43 #[.pointer (some ⟨b, 0, none⟩)] w fun r w' => r = .returned (.int .i64 (numR 10 0 0 zs).1) ∧ Fleft w b v w' (numR 10 0 0 zs).2.1 (numR 10 0 0 zs).2.2 := by
  generalize hres : numR 10 0 0 zs = res
  have HR : Hid (numR 10 0 0 zs = res) := hres
  clear hres
  go_enter Tryd.func43, Tryd.ntmps43
  go_wp2
  go_loopw [3, 4] (fun u i wr => ∃ (k : Nat) (U : Int) (v1 : Value) (zs1 : List Int), k ≤ 10 ∧ i = .int .i64 k ∧ u = .int .u64 U ∧ Rf wr b v1 zs1 0 ∧ Byt zs1 ∧ Rstep b w wr ∧ (v1.ownBlock = v.ownBlock ∨ v1.ownBlock = none) ∧ (∃ U' : Nat, (k ≤ 9 → U = U' ∧ U' < 128 ^ k) ∧ Hid (numR (10 - k) k U' zs1 = res))) (fun _ i _ => 10 - (intOf i).toNat)
  case atStart => exact ⟨0, 0, v, zs, by decide, rfl, rfl, hr, hz, Rstep.refl _ _, Or.inl rfl, 0, fun _ => ⟨rfl, by decide⟩, HR⟩
  case round =>
    obtain ⟨k, U, v1, zs1, hk, rfl, rfl, hr1, hz1, hs1, ho1, U', hU, HR1⟩ := hrel
    by_cases hk10 : k = 10
    · subst hk10
      have HF : Hid (res = (0, [], 3)) := by show _ = _; rw [← HR1.out]; rfl
      have hc0 := hr1.cell0
      have hc1 := hr1.cell1
      have hf0 := hr1.frozen 0
      have hf1 := hr1.frozen 1
      have R1 := hr1.set1 (e' := 3)
      have R2 := R1.1.set0 (Bs_nil _) (by simp [Value.ownBlock])
      clear HR HR1 hU
      go_wp2
      go_ret
      rw [HF.out]
      exact ⟨rfl, _, R2.1, (hs1.trans R1.2).trans R2.2, Or.inr rfl⟩
    obtain ⟨rfl, hU1⟩ := hU (by omega)
    obtain ⟨f, hf⟩ : ∃ f, 10 - k = f + 1 := ⟨9 - k, by omega⟩
    rw [hf] at HR1
    have hf2 : f = 10 - (k + 1) := by omega
    have hklt : k < 10 := by omega
    clear hU hf
    cases zs1 with
    | nil =>
      have HF : Hid (res = (0, [], 2)) := by show _ = _; rw [← HR1.out]; rfl
      have HB : Hid (Calls Tryd.prog 55 #[.pointer (some ⟨b, 0, none⟩)] wr fun r w' => r = .returned (.int .u8 0) ∧ Fleft wr b v1 w' [] 2) := fbyte_u b v1 [] 0 _ hr1 (Or.inl rfl)
      clear HR HR1
      go_wp2_with fail
      refine HB.out.mono ?_
      rintro e w1 ⟨rfl, v2, hr2, hs2, hv2⟩
      have hc1 := hr2.cell1
      go_wp2
      go_ret
      rw [HF.out]
      exact ⟨rfl, v2, hr2, hs1.trans hs2, by rcases hv2 with h | h; rw [h]; exact ho1; exact Or.inr h⟩
    | cons z r =>
      obtain ⟨hz0, hz256⟩ := hz1 z (by simp)
      have hzr : Byt r := fun y hy => hz1 y (by simp [hy])
      have HB : Hid (Calls Tryd.prog 55 #[.pointer (some ⟨b, 0, none⟩)] wr fun rr w' => rr = .returned (.int .u8 z) ∧ Fleft wr b v1 w' r 0) := by
        have := fbyte_u b v1 (z :: r) 0 _ hr1 (Or.inl rfl)
        rw [rowR_yes (by simp)] at this
        exact this
      by_cases hz128 : 128 ≤ z
      · have HR2 : Hid (numR f (k + 1) (U' + (z.toNat % 128) * 128 ^ k) r = res) := by
          show _ = _
          rw [← HR1.out, numR_more hz128]
        have HO : Hid (k + 1 ≤ 9 → bits .or .u64 (U' : Int) (IntKind.u64.wrap (IntKind.u64.wrap (bits .and .u8 z 127) * 2 ^ (7 * k))) = ((U' + (z.toNat % 128) * 128 ^ k : Nat) : Int) ∧ U' + (z.toNat % 128) * 128 ^ k < 128 ^ (k + 1)) := by
          intro hk9
          refine ⟨orStepF U' k z hz0 hz256 (by omega) hU1 (by omega), ?_⟩
          have : (z.toNat % 128) * 128 ^ k ≤ 127 * 128 ^ k := Nat.mul_le_mul_right _ (by omega)
          rw [Nat.pow_succ]
          omega
        clear HR HR1
        go_wp2_with fail
        refine HB.out.mono ?_
        rintro e w1 ⟨rfl, v2, hr2, hs2, hv2⟩
        have hc1 := hr2.cell1
        go_wp2_with fail
        go_roundw
        case rel => exact ⟨k + 1, _, v2, r, by omega, by go_num, rfl, hr2, hzr, hs1.trans hs2, by rcases hv2 with h | h; rw [h]; exact ho1; exact Or.inr h, _, HO.out, by rw [← hf2]; exact HR2⟩
        case measure => simp [intOf]; omega
      · have hz128' : z < 128 := by omega
        cases hbad : badB k z with
        | true =>
          have HF : Hid (res = (0, [], 3)) := by show _ = _; rw [← HR1.out, numR_bad hz128 hbad]
          clear HR HR1
          by_cases h1 : k = 9 ∧ 1 < z
          · obtain ⟨rfl, h2⟩ := h1
            clear hbad
            go_wp2_with fail
            refine HB.out.mono ?_
            rintro e w1 ⟨rfl, v2, hr2, hs2, hv2⟩
            have hc0 := hr2.cell0
            have hc1 := hr2.cell1
            have hf0 := hr2.frozen 0
            have hf1 := hr2.frozen 1
            have R1 := hr2.set1 (e' := 3)
            have R2 := R1.1.set0 (Bs_nil _) (by simp [Value.ownBlock])
            go_wp2
            go_ret
            rw [HF.out]
            exact ⟨rfl, _, R2.1, ((hs1.trans hs2).trans R1.2).trans R2.2, Or.inr rfl⟩
          · have h2 : k ≠ 0 ∧ z = 0 := by
              simp [badB] at hbad
              omega
            obtain ⟨hk0, rfl⟩ := h2
            have hk0' : 0 < k := by omega
            clear hbad h1
            by_cases h9 : k = 9
            · subst h9
              go_wp2_with fail
              refine HB.out.mono ?_
              rintro e w1 ⟨rfl, v2, hr2, hs2, hv2⟩
              have hc0 := hr2.cell0
              have hc1 := hr2.cell1
              have hf0 := hr2.frozen 0
              have hf1 := hr2.frozen 1
              have R1 := hr2.set1 (e' := 3)
              have R2 := R1.1.set0 (Bs_nil _) (by simp [Value.ownBlock])
              go_wp2
              go_ret
              rw [HF.out]
              exact ⟨rfl, _, R2.1, ((hs1.trans hs2).trans R1.2).trans R2.2, Or.inr rfl⟩
            · have h9' : ((k : Int) == 9) = false := by simp; omega
              go_wp2_with fail
              refine HB.out.mono ?_
              rintro e w1 ⟨rfl, v2, hr2, hs2, hv2⟩
              have hc0 := hr2.cell0
              have hc1 := hr2.cell1
              have hf0 := hr2.frozen 0
              have hf1 := hr2.frozen 1
              have R1 := hr2.set1 (e' := 3)
              have R2 := R1.1.set0 (Bs_nil _) (by simp [Value.ownBlock])
              go_wp2
              go_ret
              rw [HF.out]
              exact ⟨rfl, _, R2.1, ((hs1.trans hs2).trans R1.2).trans R2.2, Or.inr rfl⟩
        | false =>
          have HF : Hid (res = (unfoldI (U' + z.toNat * 128 ^ k), r, 0)) := by show _ = _; rw [← HR1.out, numR_good hz128 hbad]
          have hm : z.toNat % 128 = z.toNat := by omega
          have h9 : k = 9 → z.toNat % 128 ≤ 1 := by
            intro e
            simp [badB] at hbad
            have := hbad.1 e
            omega
          have ho := orStepF U' k z hz0 hz256 (by omega) hU1 h9
          have hfs := fits_step k (z.toNat % 128) (by omega) (by omega) h9
          have hp9 := pow_le9 k (by omega)
          rw [hm] at ho hfs
          have hN : U' + z.toNat * 128 ^ k < 18446744073709551616 := by omega
          generalize U' + z.toNat * 128 ^ k = N at *
          have HO : Hid (bits .or .u64 (U' : Int) (IntKind.u64.wrap (IntKind.u64.wrap (bits .and .u8 z 127) * 2 ^ (7 * k))) = (N : Int)) := ho
          have HD : Hid ((N % 2 = 1 → -((N : Int) / 2) - 1 = unfoldI N) ∧ (¬ N % 2 = 1 → (N : Int) / 2 = unfoldI N)) := by
            refine ⟨fun h => ?_, fun h => ?_⟩
            · rw [unfoldI_odd h]; omega
            · rw [unfoldI_even h]; omega
          have hbd : (k = 9 → z ≤ 1) ∧ (k = 0 ∨ z ≠ 0) := by
            simp [badB] at hbad
            exact ⟨hbad.1, by by_cases h : k = 0; exact Or.inl h; exact Or.inr (hbad.2 h)⟩
          clear HR HR1 ho hfs hp9 hm hbad h9
          have hpar : (N % 2 = 1 ∧ ((N : Int) % 2 == 0) = false) ∨ (¬ N % 2 = 1 ∧ ((N : Int) % 2 == 0) = true) := by
            by_cases h : N % 2 = 1
            · exact Or.inl ⟨h, by simp; omega⟩
            · exact Or.inr ⟨h, by simp; omega⟩
          by_cases h9 : k = 9
          · subst h9
            have hz1' := hbd.1 rfl
            rw [show (2 : Int) ^ (7 * 9) = 9223372036854775808 from by decide] at HO
            have hz2 : (z == 0) = false := by simp; rcases hbd.2 with h | h; cases h; exact h
            clear hbd
            rcases hpar with ⟨hp, hq⟩ | ⟨hp, hq⟩
            · have HE : Hid (-((N : Int) / 2) - 1 = unfoldI N) := HD.out.1 hp
              clear hp HD
              go_wp2_with fail
              refine HB.out.mono ?_
              rintro e w1 ⟨rfl, v2, hr2, hs2, hv2⟩
              have hc1 := hr2.cell1
              have hO := HO.out
              go_wp2
              go_ret
              rw [HF.out]
              exact ⟨ret_int HE.out, v2, hr2, hs1.trans hs2, by rcases hv2 with h | h; rw [h]; exact ho1; exact Or.inr h⟩
            · have HE : Hid ((N : Int) / 2 = unfoldI N) := HD.out.2 hp
              clear hp HD
              go_wp2_with fail
              refine HB.out.mono ?_
              rintro e w1 ⟨rfl, v2, hr2, hs2, hv2⟩
              have hc1 := hr2.cell1
              have hO := HO.out
              go_wp2
              go_ret
              rw [HF.out]
              exact ⟨ret_int HE.out, v2, hr2, hs1.trans hs2, by rcases hv2 with h | h; rw [h]; exact ho1; exact Or.inr h⟩
          · have h9' : ((k : Int) == 9) = false := by simp; omega
            by_cases h0 : k = 0
            · subst h0
              rw [show (2 : Int) ^ (7 * 0) = 1 from by decide, Int.mul_one] at HO
              clear hbd
              rcases hpar with ⟨hp, hq⟩ | ⟨hp, hq⟩
              · have HE : Hid (-((N : Int) / 2) - 1 = unfoldI N) := HD.out.1 hp
                clear hp HD
                go_wp2_with fail
                refine HB.out.mono ?_
                rintro e w1 ⟨rfl, v2, hr2, hs2, hv2⟩
                have hc1 := hr2.cell1
                have hO := HO.out
                go_wp2
                go_ret
                rw [HF.out]
                exact ⟨ret_int HE.out, v2, hr2, hs1.trans hs2, by rcases hv2 with h | h; rw [h]; exact ho1; exact Or.inr h⟩
              · have HE : Hid ((N : Int) / 2 = unfoldI N) := HD.out.2 hp
                clear hp HD
                go_wp2_with fail
                refine HB.out.mono ?_
                rintro e w1 ⟨rfl, v2, hr2, hs2, hv2⟩
                have hc1 := hr2.cell1
                have hO := HO.out
                go_wp2
                go_ret
                rw [HF.out]
                exact ⟨ret_int HE.out, v2, hr2, hs1.trans hs2, by rcases hv2 with h | h; rw [h]; exact ho1; exact Or.inr h⟩
            · have hk0 : 0 < k := by omega
              have hz2 : (z == 0) = false := by simp; rcases hbd.2 with h | h; exact absurd h h0; exact h
              clear hbd
              rcases hpar with ⟨hp, hq⟩ | ⟨hp, hq⟩
              · have HE : Hid (-((N : Int) / 2) - 1 = unfoldI N) := HD.out.1 hp
                clear hp HD
                go_wp2_with fail
                refine HB.out.mono ?_
                rintro e w1 ⟨rfl, v2, hr2, hs2, hv2⟩
                have hc1 := hr2.cell1
                have hO := HO.out
                go_wp2
                go_ret
                rw [HF.out]
                exact ⟨ret_int HE.out, v2, hr2, hs1.trans hs2, by rcases hv2 with h | h; rw [h]; exact ho1; exact Or.inr h⟩
              · have HE : Hid ((N : Int) / 2 = unfoldI N) := HD.out.2 hp
                clear hp HD
                go_wp2_with fail
                refine HB.out.mono ?_
                rintro e w1 ⟨rfl, v2, hr2, hs2, hv2⟩
                have hc1 := hr2.cell1
                have hO := HO.out
                go_wp2
                go_ret
                rw [HF.out]
                exact ⟨ret_int HE.out, v2, hr2, hs1.trans hs2, by rcases hv2 with h | h; rw [h]; exact ho1; exact Or.inr h⟩

theorem fnum_err (b : Nat) (v : Value) (e : Int) (w : World) (hr : Rf w b v [] e) (he : e ≠ 0) :
    Calls Tryd.prog 43 #[.pointer (some ⟨b, 0, none⟩)] w fun r w' => r = .returned (.int .i64 0) ∧ Fleft w b v w' [] e := by
  have HB : Hid (Calls Tryd.prog 55 #[.pointer (some ⟨b, 0, none⟩)] w fun r w' => r = .returned (.int .u8 0) ∧ Fleft w b v w' [] e) := by
    have := fbyte_u b v [] e _ hr (Or.inr rfl)
    rw [rowR_err he] at this
    exact this
  have hne2 : (e != 0) = true := by simp [he]
  go_enter Tryd.func43, Tryd.ntmps43
  go_wp2
  refine wp_loop_rounds 1 ?_
  rw [rounds_succ]
  go_wp2_with fail
  refine HB.out.mono ?_
  rintro r w1 ⟨rfl, v2, hr2, hs2, hv2⟩
  have hc1 := hr2.cell1
  go_wp2
  go_ret
  exact ⟨rfl, v2, hr2, hs2, hv2⟩
end Go.Proofs.YtahodgmdikaedaaDoor
