/-
  Joined from: RefReaderNum, RefReaderBytes, EnPlain, OrPlain, RowsK.
-/
import Derived.Test.YtahodgmdikaedaaDoorM07
import Derived.Test.YtahodgmdikaedaaDoorM09
import Derived.Test.YtahodgmdikaedaaDoorM06
import Derived.Lib.SlBytesConst
section
/-
  The document's own Reader's Num, by contract.
-/
namespace Go.Proofs.YtahodgmdikaedaaDoor
open Go.RowKit

theorem and127b (z : Int) (h0 : 0 ≤ z) (h1 : z < 256) : bits .and .u8 z 127 = ((z.toNat % 128 : Nat) : Int) := by
  obtain ⟨a, rfl⟩ := Int.eq_ofNat_of_zero_le h0
  have : ∀ a : Fin 256, bits .and .u8 (a.val : Int) 127 = ((a.val % 128 : Nat) : Int) := by decide +kernel
  exact this ⟨a, by omega⟩
theorem orStepF (U k : Nat) (z : Int) (h0 : 0 ≤ z) (h1 : z < 256) (hk : k ≤ 9) (hU : U < 128 ^ k) (h9 : k = 9 → z.toNat % 128 ≤ 1) :
    bits .or .u64 (U : Int) (IntKind.u64.wrap (IntKind.u64.wrap (bits .and .u8 z 127) * 2 ^ (7 * k))) = ((U + (z.toNat % 128) * 128 ^ k : Nat) : Int) := by
  rw [and127b z h0 h1, ← andNot128 z h0 h1]
  exact orStep U k z h0 h1 hk hU h9

set_option maxHeartbeats 1600000 in
theorem fnum_any (b : Nat) (v : Value) (zs : List Int) (w : World) (hr : Rf w b v zs 0) (hz : Byt zs) :
    Calls Tryd.prog 43 #[.pointer (some ⟨b, 0, none⟩)] w fun r w' => r = .returned (.int .i64 (numR 10 0 0 zs).1) ∧ Fleft w b v w' (numR 10 0 0 zs).2.1 (numR 10 0 0 zs).2.2 := by
  generalize hres : numR 10 0 0 zs = res
  have HR : Hid (numR 10 0 0 zs = res) := hres
  clear hres
  go_enter Tryd.func43, Tryd.ntmps43
  go_wp2
  go_loopw [3, 4] (fun u i wr => ∃ (k : Nat) (U : Int) (v1 : Value) (zs1 : List Int), k ≤ 10 ∧ i = .int .i64 k ∧ u = .int .u64 U ∧ Rf wr b v1 zs1 0 ∧ Byt zs1 ∧ Rstep b w wr ∧ (v1.ownBlock = v.ownBlock ∨ v1.ownBlock = none) ∧ (∃ U' : Nat, (k ≤ 9 → U = U' ∧ U' < 128 ^ k) ∧ Hid (numR (10 - k) k U' zs1 = res))) (fun _ i _ => 10 - (intOf i).toNat)
  case atStart => exact ⟨0, 0, v, zs, by decide, rfl, rfl, hr, hz, Rstep.refl _ _, Or.inl rfl, 0, fun _ => ⟨rfl, by decide⟩, HR⟩
  case round =>
    obtain ⟨k, U, v1, zs1, hk, rfl, rfl, hr1, hz1, hs1, ho1, U', hU, HR1⟩ := hrel
    by_cases hk10 : k = 10
    · subst hk10
      have HF : Hid (res = (0, [], 3)) := by show _ = _; rw [← HR1.out]; rfl
      have hc0 := hr1.cell0
      have hc1 := hr1.cell1
      have hf0 := hr1.frozen 0
      have hf1 := hr1.frozen 1
      have R1 := hr1.set1 (e' := 3)
      have R2 := R1.1.set0 (Bs_nil _) (by simp [Value.ownBlock])
      clear HR HR1 hU
      go_wp2
      go_ret
      rw [HF.out]
      exact ⟨rfl, _, R2.1, (hs1.trans R1.2).trans R2.2, Or.inr rfl⟩
    obtain ⟨rfl, hU1⟩ := hU (by omega)
    obtain ⟨f, hf⟩ : ∃ f, 10 - k = f + 1 := ⟨9 - k, by omega⟩
    rw [hf] at HR1
    have hf2 : f = 10 - (k + 1) := by omega
    have hklt : k < 10 := by omega
    clear hU hf
    cases zs1 with
    | nil =>
      have HF : Hid (res = (0, [], 2)) := by show _ = _; rw [← HR1.out]; rfl
      have HB : Hid (Calls Tryd.prog 55 #[.pointer (some ⟨b, 0, none⟩)] wr fun r w' => r = .returned (.int .u8 0) ∧ Fleft wr b v1 w' [] 2) := fbyte_u b v1 [] 0 _ hr1 (Or.inl rfl)
      clear HR HR1
      go_wp2_with fail
      refine HB.out.mono ?_
      rintro e w1 ⟨rfl, v2, hr2, hs2, hv2⟩
      have hc1 := hr2.cell1
      go_wp2
      go_ret
      rw [HF.out]
      exact ⟨rfl, v2, hr2, hs1.trans hs2, by rcases hv2 with h | h; rw [h]; exact ho1; exact Or.inr h⟩
    | cons z r =>
      obtain ⟨hz0, hz256⟩ := hz1 z (by simp)
      have hzr : Byt r := fun y hy => hz1 y (by simp [hy])
      have HB : Hid (Calls Tryd.prog 55 #[.pointer (some ⟨b, 0, none⟩)] wr fun rr w' => rr = .returned (.int .u8 z) ∧ Fleft wr b v1 w' r 0) := by
        have := fbyte_u b v1 (z :: r) 0 _ hr1 (Or.inl rfl)
        rw [rowR_yes (by simp)] at this
        exact this
      by_cases hz128 : 128 ≤ z
      · have HR2 : Hid (numR f (k + 1) (U' + (z.toNat % 128) * 128 ^ k) r = res) := by
          show _ = _
          rw [← HR1.out, numR_more hz128]
        have HO : Hid (k + 1 ≤ 9 → bits .or .u64 (U' : Int) (IntKind.u64.wrap (IntKind.u64.wrap (bits .and .u8 z 127) * 2 ^ (7 * k))) = ((U' + (z.toNat % 128) * 128 ^ k : Nat) : Int) ∧ U' + (z.toNat % 128) * 128 ^ k < 128 ^ (k + 1)) := by
          intro hk9
          refine ⟨orStepF U' k z hz0 hz256 (by omega) hU1 (by omega), ?_⟩
          have : (z.toNat % 128) * 128 ^ k ≤ 127 * 128 ^ k := Nat.mul_le_mul_right _ (by omega)
          rw [Nat.pow_succ]
          omega
        clear HR HR1
        go_wp2_with fail
        refine HB.out.mono ?_
        rintro e w1 ⟨rfl, v2, hr2, hs2, hv2⟩
        have hc1 := hr2.cell1
        go_wp2_with fail
        go_roundw
        case rel => exact ⟨k + 1, _, v2, r, by omega, by go_num, rfl, hr2, hzr, hs1.trans hs2, by rcases hv2 with h | h; rw [h]; exact ho1; exact Or.inr h, _, HO.out, by rw [← hf2]; exact HR2⟩
        case measure => simp [intOf]; omega
      · have hz128' : z < 128 := by omega
        cases hbad : badB k z with
        | true =>
          have HF : Hid (res = (0, [], 3)) := by show _ = _; rw [← HR1.out, numR_bad hz128 hbad]
          clear HR HR1
          by_cases h1 : k = 9 ∧ 1 < z
          · obtain ⟨rfl, h2⟩ := h1
            clear hbad
            go_wp2_with fail
            refine HB.out.mono ?_
            rintro e w1 ⟨rfl, v2, hr2, hs2, hv2⟩
            have hc0 := hr2.cell0
            have hc1 := hr2.cell1
            have hf0 := hr2.frozen 0
            have hf1 := hr2.frozen 1
            have R1 := hr2.set1 (e' := 3)
            have R2 := R1.1.set0 (Bs_nil _) (by simp [Value.ownBlock])
            go_wp2
            go_ret
            rw [HF.out]
            exact ⟨rfl, _, R2.1, ((hs1.trans hs2).trans R1.2).trans R2.2, Or.inr rfl⟩
          · have h2 : k ≠ 0 ∧ z = 0 := by
              simp [badB] at hbad
              omega
            obtain ⟨hk0, rfl⟩ := h2
            have hk0' : 0 < k := by omega
            clear hbad h1
            by_cases h9 : k = 9
            · subst h9
              go_wp2_with fail
              refine HB.out.mono ?_
              rintro e w1 ⟨rfl, v2, hr2, hs2, hv2⟩
              have hc0 := hr2.cell0
              have hc1 := hr2.cell1
              have hf0 := hr2.frozen 0
              have hf1 := hr2.frozen 1
              have R1 := hr2.set1 (e' := 3)
              have R2 := R1.1.set0 (Bs_nil _) (by simp [Value.ownBlock])
              go_wp2
              go_ret
              rw [HF.out]
              exact ⟨rfl, _, R2.1, ((hs1.trans hs2).trans R1.2).trans R2.2, Or.inr rfl⟩
            · have h9' : ((k : Int) == 9) = false := by simp; omega
              go_wp2_with fail
              refine HB.out.mono ?_
              rintro e w1 ⟨rfl, v2, hr2, hs2, hv2⟩
              have hc0 := hr2.cell0
              have hc1 := hr2.cell1
              have hf0 := hr2.frozen 0
              have hf1 := hr2.frozen 1
              have R1 := hr2.set1 (e' := 3)
              have R2 := R1.1.set0 (Bs_nil _) (by simp [Value.ownBlock])
              go_wp2
              go_ret
              rw [HF.out]
              exact ⟨rfl, _, R2.1, ((hs1.trans hs2).trans R1.2).trans R2.2, Or.inr rfl⟩
        | false =>
          have HF : Hid (res = (unfoldI (U' + z.toNat * 128 ^ k), r, 0)) := by show _ = _; rw [← HR1.out, numR_good hz128 hbad]
          have hm : z.toNat % 128 = z.toNat := by omega
          have h9 : k = 9 → z.toNat % 128 ≤ 1 := by
            intro e
            simp [badB] at hbad
            have := hbad.1 e
            omega
          have ho := orStepF U' k z hz0 hz256 (by omega) hU1 h9
          have hfs := fits_step k (z.toNat % 128) (by omega) (by omega) h9
          have hp9 := pow_le9 k (by omega)
          rw [hm] at ho hfs
          have hN : U' + z.toNat * 128 ^ k < 18446744073709551616 := by omega
          generalize U' + z.toNat * 128 ^ k = N at *
          have HO : Hid (bits .or .u64 (U' : Int) (IntKind.u64.wrap (IntKind.u64.wrap (bits .and .u8 z 127) * 2 ^ (7 * k))) = (N : Int)) := ho
          have HD : Hid ((N % 2 = 1 → -((N : Int) / 2) - 1 = unfoldI N) ∧ (¬ N % 2 = 1 → (N : Int) / 2 = unfoldI N)) := by
            refine ⟨fun h => ?_, fun h => ?_⟩
            · rw [unfoldI_odd h]; omega
            · rw [unfoldI_even h]; omega
          have hbd : (k = 9 → z ≤ 1) ∧ (k = 0 ∨ z ≠ 0) := by
            simp [badB] at hbad
            exact ⟨hbad.1, by by_cases h : k = 0; exact Or.inl h; exact Or.inr (hbad.2 h)⟩
          clear HR HR1 ho hfs hp9 hm hbad h9
          have hpar : (N % 2 = 1 ∧ ((N : Int) % 2 == 0) = false) ∨ (¬ N % 2 = 1 ∧ ((N : Int) % 2 == 0) = true) := by
            by_cases h : N % 2 = 1
            · exact Or.inl ⟨h, by simp; omega⟩
            · exact Or.inr ⟨h, by simp; omega⟩
          by_cases h9 : k = 9
          · subst h9
            have hz1' := hbd.1 rfl
            rw [show (2 : Int) ^ (7 * 9) = 9223372036854775808 from by decide] at HO
            have hz2 : (z == 0) = false := by simp; rcases hbd.2 with h | h; cases h; exact h
            clear hbd
            rcases hpar with ⟨hp, hq⟩ | ⟨hp, hq⟩
            · have HE : Hid (-((N : Int) / 2) - 1 = unfoldI N) := HD.out.1 hp
              clear hp HD
              go_wp2_with fail
              refine HB.out.mono ?_
              rintro e w1 ⟨rfl, v2, hr2, hs2, hv2⟩
              have hc1 := hr2.cell1
              have hO := HO.out
              go_wp2
              go_ret
              rw [HF.out]
              exact ⟨ret_int HE.out, v2, hr2, hs1.trans hs2, by rcases hv2 with h | h; rw [h]; exact ho1; exact Or.inr h⟩
            · have HE : Hid ((N : Int) / 2 = unfoldI N) := HD.out.2 hp
              clear hp HD
              go_wp2_with fail
              refine HB.out.mono ?_
              rintro e w1 ⟨rfl, v2, hr2, hs2, hv2⟩
              have hc1 := hr2.cell1
              have hO := HO.out
              go_wp2
              go_ret
              rw [HF.out]
              exact ⟨ret_int HE.out, v2, hr2, hs1.trans hs2, by rcases hv2 with h | h; rw [h]; exact ho1; exact Or.inr h⟩
          · have h9' : ((k : Int) == 9) = false := by simp; omega
            by_cases h0 : k = 0
            · subst h0
              rw [show (2 : Int) ^ (7 * 0) = 1 from by decide, Int.mul_one] at HO
              clear hbd
              rcases hpar with ⟨hp, hq⟩ | ⟨hp, hq⟩
              · have HE : Hid (-((N : Int) / 2) - 1 = unfoldI N) := HD.out.1 hp
                clear hp HD
                go_wp2_with fail
                refine HB.out.mono ?_
                rintro e w1 ⟨rfl, v2, hr2, hs2, hv2⟩
                have hc1 := hr2.cell1
                have hO := HO.out
                go_wp2
                go_ret
                rw [HF.out]
                exact ⟨ret_int HE.out, v2, hr2, hs1.trans hs2, by rcases hv2 with h | h; rw [h]; exact ho1; exact Or.inr h⟩
              · have HE : Hid ((N : Int) / 2 = unfoldI N) := HD.out.2 hp
                clear hp HD
                go_wp2_with fail
                refine HB.out.mono ?_
                rintro e w1 ⟨rfl, v2, hr2, hs2, hv2⟩
                have hc1 := hr2.cell1
                have hO := HO.out
                go_wp2
                go_ret
                rw [HF.out]
                exact ⟨ret_int HE.out, v2, hr2, hs1.trans hs2, by rcases hv2 with h | h; rw [h]; exact ho1; exact Or.inr h⟩
            · have hk0 : 0 < k := by omega
              have hz2 : (z == 0) = false := by simp; rcases hbd.2 with h | h; exact absurd h h0; exact h
              clear hbd
              rcases hpar with ⟨hp, hq⟩ | ⟨hp, hq⟩
              · have HE : Hid (-((N : Int) / 2) - 1 = unfoldI N) := HD.out.1 hp
                clear hp HD
                go_wp2_with fail
                refine HB.out.mono ?_
                rintro e w1 ⟨rfl, v2, hr2, hs2, hv2⟩
                have hc1 := hr2.cell1
                have hO := HO.out
                go_wp2
                go_ret
                rw [HF.out]
                exact ⟨ret_int HE.out, v2, hr2, hs1.trans hs2, by rcases hv2 with h | h; rw [h]; exact ho1; exact Or.inr h⟩
              · have HE : Hid ((N : Int) / 2 = unfoldI N) := HD.out.2 hp
                clear hp HD
                go_wp2_with fail
                refine HB.out.mono ?_
                rintro e w1 ⟨rfl, v2, hr2, hs2, hv2⟩
                have hc1 := hr2.cell1
                have hO := HO.out
                go_wp2
                go_ret
                rw [HF.out]
                exact ⟨ret_int HE.out, v2, hr2, hs1.trans hs2, by rcases hv2 with h | h; rw [h]; exact ho1; exact Or.inr h⟩

theorem fnum_err (b : Nat) (v : Value) (e : Int) (w : World) (hr : Rf w b v [] e) (he : e ≠ 0) :
    Calls Tryd.prog 43 #[.pointer (some ⟨b, 0, none⟩)] w fun r w' => r = .returned (.int .i64 0) ∧ Fleft w b v w' [] e := by
  have HB : Hid (Calls Tryd.prog 55 #[.pointer (some ⟨b, 0, none⟩)] w fun r w' => r = .returned (.int .u8 0) ∧ Fleft w b v w' [] e) := by
    have := fbyte_u b v [] e _ hr (Or.inr rfl)
    rw [rowR_err he] at this
    exact this
  have hne2 : (e != 0) = true := by simp [he]
  go_enter Tryd.func43, Tryd.ntmps43
  go_wp2
  refine wp_loop_rounds 1 ?_
  rw [rounds_succ]
  go_wp2_with fail
  refine HB.out.mono ?_
  rintro r w1 ⟨rfl, v2, hr2, hs2, hv2⟩
  have hc1 := hr2.cell1
  go_wp2
  go_ret
  exact ⟨rfl, v2, hr2, hs2, hv2⟩
end Go.Proofs.YtahodgmdikaedaaDoor
end

section
/-
  The document's own Reader's Bytes, by contract.
-/
namespace Go.Proofs.YtahodgmdikaedaaDoor
open Go.RowKit

theorem Rstep.low {b : Nat} {w w' : World} (h : Rstep b w w') (o : Obj) (w0 : World) (hw : w = w0.alloc o) : Rstep b w0 w' := by
  subst hw
  exact (Rstep.of_below ((Below.refl _ _).alloc (Nat.le_refl _) _) (Nat.le_refl _)).trans h
theorem Fleft.trans {w w1 w2 : World} {b : Nat} {v v1 : Value} {zs : List Int} {e : Int} (hs : Rstep b w w1) (hv : v1.ownBlock = v.ownBlock ∨ v1.ownBlock = none) (h : Fleft w1 b v1 w2 zs e) : Fleft w b v w2 zs e := by
  obtain ⟨v2, h1, h2, h3⟩ := h
  exact ⟨v2, h1, hs.trans h2, by rcases h3 with h | h; rw [h]; exact hv; exact Or.inr h⟩

set_option maxHeartbeats 1600000 in
theorem raw_zero (b : Nat) (v : Value) (zs : List Int) (w : World) (hr : Rf w b v zs 0) :
    Calls Tryd.prog 56 #[.pointer (some ⟨b, 0, none⟩), .int .i64 0] w fun r w' => ∃ x, r = .returned x ∧ Bs w' x [] ∧ Fleft w b v w' zs 0 := by
  have hc0 := hr.cell0
  have hc1 := hr.cell1
  have hf0 := hr.frozen 0
  rcases hr.2.1 with ⟨h0, ao, cap, hv, hcm, hcn⟩ | ⟨hz, b2, off, cap, hv, hca, hcb, hcell⟩
  · subst h0
    subst hv
    unfold maxLen at hcm
    cases ao with
    | none =>
      obtain rfl := hcn rfl
      have R := hr.set0 (Bs_nil _) (by simp [Value.ownBlock])
      clear hcn
      go_enter Tryd.func56, Tryd.ntmps56
      go_wp2
      go_ret
      exact ⟨_, rfl, Bs_nil _, _, R.1, R.2, Or.inl rfl⟩
    | some a =>
      have R := hr.set0 (zs' := []) hr.2.1 hr.2.2
      have hbn : ∀ W : World, Bs W (.slice (some a) 0 cap) [] := fun W => Or.inl ⟨rfl, _, cap, rfl, by unfold maxLen; exact hcm, fun e => by cases e⟩
      clear hcn
      go_enter Tryd.func56, Tryd.ntmps56
      go_wp2
      go_ret
      exact ⟨_, rfl, hbn _, _, R.1, R.2, Or.inl rfl⟩
  · subst hv
    have hnb : b2 ≠ b := fun e => hr.2.2 (by simp [Value.ownBlock, e])
    have R := hr.set0 hr.2.1 hr.2.2
    have hbn : ∀ W : World, Bs W (.slice (some ⟨b2, off, none⟩) 0 cap) [] := fun W => Or.inl ⟨rfl, _, cap, rfl, hcb, fun e => by cases e⟩
    unfold maxLen at hcb
    clear hcell
    go_enter Tryd.func56, Tryd.ntmps56
    go_wp2
    go_ret
    exact ⟨_, rfl, hbn _, _, R.1, R.2, Or.inl rfl⟩

theorem raw_any (b : Nat) (v : Value) (zs : List Int) (n : Nat) (w : World) (hr : Rf w b v zs 0) (hn : n ≤ zs.length) :
    Calls Tryd.prog 56 #[.pointer (some ⟨b, 0, none⟩), .int .i64 n] w fun r w' => ∃ x, r = .returned x ∧ Bs w' x (zs.take n) ∧ Fleft w b v w' (zs.drop n) 0 := by
  by_cases h0 : n = 0
  · subst h0
    simpa using raw_zero b v zs w hr
  · exact raw_yes b v zs n w hr hn (by omega)

/-- A row that was grown is another one than the Reader's. -/
theorem Fleft.grown {w w1 w2 : World} {b base : Nat} {v u : Value} {zs : List Int} {e : Int} (h : Fleft w b v w1 zs e) (hg : w1.grownBy w2 u.ownBlock) (hb : b < base) (hw : w.heap.size ≤ base) (hv : ∀ k, v.ownBlock = some k → k < w.heap.size) (hu : ∀ k, u.ownBlock = some k → base ≤ k) : Fleft w b v w2 zs e := by
  obtain ⟨v1, h1, h2, h3⟩ := h
  have hne : ∀ k, k < base → u.ownBlock ≠ some k := fun k hk e => by have := hu k e; omega
  refine ⟨v1, h1.keep (hg.block b h1.lt (fun e => hne b hb e.symm)) (fun k hk hlt => hg.block k hlt (fun e => ?_)), ⟨hg.os.trans h2.os, hg.tape.trans h2.tape, hg.output.trans h2.output, Nat.le_trans h2.size hg.size, fun k hk hkb => (hg.block k (Nat.lt_of_lt_of_le hk h2.size) (fun e => hne k (by omega) e.symm)).trans (h2.block k hk hkb)⟩, h3⟩
  rcases h3 with h | h
  · exact hne k (Nat.lt_of_lt_of_le (hv k (by rw [← h]; exact hk)) hw) e.symm
  · rw [h] at hk; cases hk
theorem Ow.rstep {w w' : World} {b base : Nat} {u : Value} {xs : List Int} (h : Ow w base u xs) (hs : Rstep b w w') (hb : b < base) : Ow w' base u xs :=
  h.keep fun k hk hl => hs.block k hl (by have := (World.ownsRow.lt h k hk).1; omega)

set_option maxHeartbeats 3200000 in
theorem fbytes_any (b : Nat) (v : Value) (zs : List Int) (e : Int) (w : World) (hr : Rf w b v zs e) (hi : Inv zs e) (hz : Byt zs) (hv : ∀ k, v.ownBlock = some k → k < w.heap.size) :
    Calls Tryd.prog 44 #[.pointer (some ⟨b, 0, none⟩)] w fun r w' => ∃ ao cap, r = .returned (.slice ao (bytesR zs e).1.length cap) ∧ Ow w' w.heap.size (.slice ao (bytesR zs e).1.length cap) (bytesR zs e).1 ∧ Fleft w b v w' (bytesR zs e).2.1 (bytesR zs e).2.2 := by
  generalize hres : bytesR zs e = R
  have HR : Hid (bytesR zs e = R) := hres
  clear hres
  by_cases he : e = 0
  · subst he
    have herr := numR_err 10 0 0 zs
    have HB0 := fnum_any b v zs w hr hz
    generalize hN : numR 10 0 0 zs = N at *
    obtain ⟨n, zr, e1⟩ := N
    have HB : Hid (Calls Tryd.prog 43 #[.pointer (some ⟨b, 0, none⟩)] w fun r w' => r = .returned (.int .i64 n) ∧ Fleft w b v w' zr e1) := HB0
    have HR2 : Hid (R = if e1 ≠ 0 then ([], zr, e1) else if n < 0 ∨ 16777216 < n then ([], [], 3) else if (zr.length : Int) < n then ([], [], 2) else (zr.take n.toNat, zr.drop n.toNat, 0)) := by
      show _ = _
      rw [← HR.out]; unfold bytesR; rw [hN]; simp
    clear hN HR HB0
    by_cases he1 : e1 = 0
    · subst he1
      by_cases hn1 : n < 0 ∨ 16777216 < n
      · have HF : Hid (R = ([], [], 3)) := by show _ = _; rw [HR2.out]; simp [hn1]
        clear HR2 herr
        by_cases hn2 : n < 0
        · clear hn1
          go_enter Tryd.func44, Tryd.ntmps44
          go_wp2_with fail
          refine HB.out.mono ?_
          rintro r w1 ⟨rfl, v1, hr1, hs1, hv1⟩
          have hc0 := hr1.cell0
          have hc1 := hr1.cell1
          have hf0 := hr1.frozen 0
          have hf1 := hr1.frozen 1
          have R1 := hr1.set1 (e' := 3)
          have R2 := R1.1.set0 (Bs_nil _) (by simp [Value.ownBlock])
          have hcE := R2.1.cell1
          go_wp2
          go_ret
          rw [HF.out]
          exact ⟨none, 0, rfl, World.ownsRow_nil _ _ _ _, _, R2.1, (hs1.trans R1.2).trans R2.2, Or.inr rfl⟩
        · have hn3 : 16777216 < n := by omega
          clear hn1
          go_enter Tryd.func44, Tryd.ntmps44
          go_wp2_with fail
          refine HB.out.mono ?_
          rintro r w1 ⟨rfl, v1, hr1, hs1, hv1⟩
          have hc0 := hr1.cell0
          have hc1 := hr1.cell1
          have hf0 := hr1.frozen 0
          have hf1 := hr1.frozen 1
          have R1 := hr1.set1 (e' := 3)
          have R2 := R1.1.set0 (Bs_nil _) (by simp [Value.ownBlock])
          have hcE := R2.1.cell1
          go_wp2
          go_ret
          rw [HF.out]
          exact ⟨none, 0, rfl, World.ownsRow_nil _ _ _ _, _, R2.1, (hs1.trans R1.2).trans R2.2, Or.inr rfl⟩
      · by_cases hn3 : (zr.length : Int) < n
        · have HF : Hid (R = ([], [], 2)) := by show _ = _; rw [HR2.out]; simp [hn1, hn3]
          have hn4 : 0 ≤ n ∧ n ≤ 16777216 := by omega
          obtain ⟨hn5, hn6⟩ := hn4
          clear HR2 herr hn1
          go_enter Tryd.func44, Tryd.ntmps44
          go_wp2_with fail
          refine HB.out.mono ?_
          rintro r w1 ⟨rfl, v1, hr1, hs1, hv1⟩
          have hc0 := hr1.cell0
          have hc1 := hr1.cell1
          have hf0 := hr1.frozen 0
          have hf1 := hr1.frozen 1
          have R1 := hr1.set1 (e' := 2)
          have R2 := R1.1.set0 (Bs_nil _) (by simp [Value.ownBlock])
          obtain ⟨ao, cap, hvv, hm⟩ := hr1.2.1.len
          subst hvv
          go_wp2
          go_ret
          rw [HF.out]
          exact ⟨none, 0, rfl, World.ownsRow_nil _ _ _ _, _, R2.1, (hs1.trans R1.2).trans R2.2, Or.inr rfl⟩
        · have HF : Hid (R = (zr.take n.toNat, zr.drop n.toNat, 0)) := by show _ = _; rw [HR2.out]; simp [hn1, hn3]
          obtain ⟨m, rfl⟩ := Int.eq_ofNat_of_zero_le (show 0 ≤ n by omega)
          rw [Int.toNat_natCast] at HF
          have hml : m ≤ zr.length := by omega
          have hm2 : m ≤ 16777216 := by omega
          clear hn3 hn1 HR2 herr
          have htk : Hid ((zr.take m).length = m) := by show _ = _; simp; omega
          go_enter Tryd.func44, Tryd.ntmps44
          go_wp2_with fail
          refine HB.out.mono ?_
          rintro r w1 ⟨rfl, v1, hr1, hs1, hv1⟩
          have hc0 := hr1.cell0
          have hc1 := hr1.cell1
          obtain ⟨ao, cap, hvv, hm⟩ := hr1.2.1.len
          subst hvv
          have hr1a := hr1.alloc (.cells #[] 5)
          have ho0 : Ow (w1.alloc (.cells #[] 5)) w1.heap.size (.slice (some ⟨w1.heap.size, 0, none⟩) 0 0) [] := Ow_of_block (heap_alloc_new w1 _) (by simp) (Nat.le_refl _)
          have hlt := hr1.lt
          have hv1k : ∀ k, (Value.slice ao zr.length cap).ownBlock = some k → k < w1.heap.size := fun k hk => by
            rcases hv1 with h | h
            · exact Nat.lt_of_lt_of_le (hv k (by rw [← h]; exact hk)) hs1.size
            · rw [h] at hk; cases hk
          go_wp2_with fail
          refine (raw_any b _ zr m _ hr1a hml).mono ?_
          rintro r w2 ⟨x, rfl, hbx, hl2⟩
          have ho2 : Ow w2 w1.heap.size (.slice (some ⟨w1.heap.size, 0, none⟩) 0 0) [] := by
            obtain ⟨_, _, hs, _⟩ := hl2
            exact ho0.rstep hs hlt
          have hw2 : w1.heap.size ≤ w2.heap.size := by
            obtain ⟨_, _, hs, _⟩ := hl2
            have := hs.size
            simp at this
            omega
          have hl2' : Fleft w1 b (.slice ao zr.length cap) w2 (zr.drop m) 0 := by
            obtain ⟨v2, h1, h2, h3⟩ := hl2
            exact ⟨v2, h1, h2.low _ _ rfl, h3⟩
          clear hl2 ho0
          go_wp2_with (at_builtin; refine wpList_append_bs _ rfl (.tmp 43) (.tmp 46) rfl w1.heap.size _ [] rfl ho2 _ (zr.take m) rfl hbx (by rw [htk.out]; simp; omega) hw2 ?_)
          intro ao3 cap3 w3 ho3 hg3 hat3
          have hl3 := hl2'.grown hg3 hlt (Nat.le_refl _) hv1k (fun k hk => by simp [Value.ownBlock] at hk; omega)
          have ho3' : Ow w3 w.heap.size (.slice ao3 m cap3) (zr.take m) := by
            have := ho3.mono hs1.size
            simpa [htk.out] using this
          have HO : Hid (Ow w3 w.heap.size (.slice ao3 m cap3) (zr.take m)) := ho3'
          have HE : Hid (([] : List Int).length + (zr.take m).length = m) := by show _ = _; rw [htk.out]; simp
          clear ho3 ho3' hg3 hat3 hbx ho2 hl2'
          go_wp2
          go_ret
          rw [HF.out]
          refine ⟨ao3, cap3, ?_, ?_, hl3.trans hs1 hv1⟩
          · simp [htk.out]
          · show Ow _ _ (.slice ao3 (zr.take m).length cap3) (zr.take m)
            rw [htk.out]; exact HO.out
    · have HF : Hid (R = ([], zr, e1)) := by show _ = _; rw [HR2.out]; simp [he1]
      obtain ⟨rfl, rfl⟩ := herr he1
      have hne : (e1 == 0) = false := by simp [he1]
      have hne2 : (e1 != 0) = true := by simp [he1]
      clear HR2 herr
      go_enter Tryd.func44, Tryd.ntmps44
      go_wp2_with fail
      refine HB.out.mono ?_
      rintro r w1 ⟨rfl, v1, hr1, hs1, hv1⟩
      have hc1 := hr1.cell1
      go_wp2
      go_ret
      rw [HF.out]
      exact ⟨none, 0, rfl, World.ownsRow_nil _ _ _ _, v1, hr1, hs1, hv1⟩
  · have HF : Hid (R = ([], zs, e)) := by show _ = _; rw [← HR.out]; simp [bytesR, he]
    have hz0 : zs = [] := by rcases hi with h | h; exact absurd h he; exact h
    subst hz0
    clear HR
    have hne : (e == 0) = false := by simp [he]
    have hne2 : (e != 0) = true := by simp [he]
    go_enter Tryd.func44, Tryd.ntmps44
    go_wp2_with fail
    refine (fnum_err b v e _ hr he).mono ?_
    rintro r w1 ⟨rfl, v1, hr1, hs1, hv1⟩
    have hc1 := hr1.cell1
    go_wp2
    go_ret
    rw [HF.out]
    exact ⟨none, 0, rfl, World.ownsRow_nil _ _ _ _, v1, hr1, hs1, hv1⟩
end Go.Proofs.YtahodgmdikaedaaDoor
end

section
/-
  LinkEnds in plain words: how far the rounds behind the last loss are; bounds. No walk.
-/
namespace Go.Proofs.YtahodgmdikaedaaDoor
/-- All came, all is owned to. -/
def Dn (A : List (List Int)) (x y : Lk) : Prop := x.L = [] ∧ y.came = A.length
section
variable {A : List (List Int)} {x y : Lk} {Q : Qe}
theorem Dn.way (h : Dn A x y) (e : En A 16 x y Q) : x.way = 0 := by
  have := e.fw
  rw [h.1] at this
  simpa using this
/-- Where nothing is under way, all came. -/
theorem En.rest (e : En A 16 x y []) (h : x.way = 0) : Dn A x y := by
  have h1 := e.fw
  have h2 := e.lo
  have h3 := e.hi
  have h4 := e.lx.len
  have h5 : x.L.length = 0 := by omega
  exact ⟨List.eq_nil_of_length_eq_zero h5, by omega⟩
/-- j rounds behind the last loss, at a round's top. -/
def Ph (A : List (List Int)) (j : Nat) (x y : Lk) (Q : Qe) : Prop := (Dn A x y ∧ Q = []) ∨ (Pg x y Q ∧ j ≤ 5) ∨ (Q = [] ∧ j ≤ x.since ∧ x.since ≤ 4)
theorem Ph.done {j : Nat} (h : Ph A j x y Q) (hj : 6 ≤ j) : Dn A x y ∧ Q = [] := by
  rcases h with h | h | h
  · exact h
  · omega
  · omega
/-- What an inner loop without a loss leaves of it. -/
def Pm (A : List (List Int)) (j : Nat) (x y : Lk) : Prop := Dn A x y ∨ (j ≤ x.since ∧ x.since ≤ 4)
theorem Pm.tick {j : Nat} (e : En A 16 x y []) (h : Pm A j x y) : Ph A (j + 1) x.tickS y.tickS (outX x.tickO) := by
  obtain ⟨a1, a2, a3, a4⟩ := tick_same x
  obtain ⟨b1, b2, b3, b4⟩ := tick_same y
  by_cases c : x.way = 0
  · have hd := En.rest e c
    have eo : x.tickO = [] := by unfold Lk.tickO; rw [if_pos (Or.inl c)]
    rw [eo]
    exact Or.inl ⟨⟨by rw [a1]; exact hd.1, by rw [b4]; exact hd.2⟩, rfl⟩
  · rcases h with h | ⟨h1, h2⟩
    · exact absurd (h.way e) c
    · by_cases c2 : x.since + 1 < 5
      · have eo : x.tickO = [] := by unfold Lk.tickO; rw [if_pos (Or.inr c2)]
        have es : x.tickS.since = x.since + 1 := by unfold Lk.tickS; rw [if_neg c, if_pos c2]
        rw [eo]
        exact Or.inr (Or.inr ⟨rfl, by omega, by omega⟩)
      · exact Or.inr (Or.inl ⟨Pg.tick e (by omega), by omega⟩)
/-- Bounds of an end's counts. -/
structure Bd (c : Nat) (s : Lk) : Prop where
  g : s.sent ≤ c
  v : s.vain ≤ c
theorem Bd.mono {c d : Nat} {s : Lk} (h : Bd c s) (hd : c ≤ d) : Bd d s := ⟨Nat.le_trans h.g hd, Nat.le_trans h.v hd⟩
theorem Bd.tick {c : Nat} {s : Lk} (h : Bd c s) (hw : s.way ≤ 16) : Bd (c + 16) s.tickS := by
  have h1 := h.g
  have h2 := h.v
  unfold Lk.tickS
  split
  · exact ⟨Nat.le_trans h1 (by omega), Nat.le_trans h2 (by omega)⟩
  · split
    · exact ⟨Nat.le_trans h1 (by omega), Nat.le_trans h2 (by omega)⟩
    · exact ⟨by show s.sent + s.way ≤ _; omega, Nat.le_trans h2 (by omega)⟩
theorem Bd.goes {c : Nat} {s : Lk} (h : Bd c s) : Bd (c + 16) (s.goes 16) := by
  have h1 := h.g
  have h2 := h.v
  refine ⟨?_, Nat.le_trans h2 (by omega)⟩
  show s.sent + (s.full 16 - s.way) ≤ _
  unfold Lk.full
  omega
theorem Bd.hear {c : Nat} {s : Lk} (h : Bd c s) (p : Pk) : Bd (c + 17) (s.hearS 16 p) := by
  have h1 := h.g
  have h2 := h.v
  have hb : Bd (c + 1) (s.hear1 p) := by
    unfold Lk.hear1 Lk.come
    split
    · exact ⟨Nat.le_trans h1 (by omega), Nat.le_trans h2 (by omega)⟩
    · split
      · exact ⟨Nat.le_trans h1 (by omega), by show s.vain + 1 ≤ _; omega⟩
      · exact ⟨Nat.le_trans h1 (by omega), Nat.le_trans h2 (by omega)⟩
  have hs0 : (s.hear1 p).sent = s.sent := by unfold Lk.hear1 Lk.come; split; rfl; split <;> rfl
  unfold Lk.hearS
  split
  · next hc =>
    have h0 : (s.hear1 p).full 16 - (s.hear1 p).way = 0 := by
      have := hc.2
      unfold Lk.outs at this
      have := congrArg List.length this
      simpa using this
    exact ⟨by show (s.hear1 p).sent + ((s.hear1 p).full 16 - (s.hear1 p).way) + 1 ≤ _; omega, Nat.le_trans hb.v (by omega)⟩
  · have := hb.goes
    exact ⟨Nat.le_trans this.g (by omega), Nat.le_trans this.v (by omega)⟩
theorem since_hear {s : Lk} (h : s.since ≤ 4) (p : Pk) : (s.hearS 16 p).since ≤ 4 := by
  have h1 : (s.hear1 p).since ≤ 4 := by
    unfold Lk.hear1 Lk.come
    split
    · exact h
    · split <;> exact h
  have h2 : ((s.hear1 p).goes 16).since ≤ 4 := by
    show (if _ then 0 else _) ≤ 4
    split
    · omega
    · exact h1
  unfold Lk.hearS
  split
  · exact h2
  · exact h2
theorem since_tick {s : Lk} (h : s.since ≤ 4) : s.tickS.since ≤ 4 := by
  unfold Lk.tickS
  split
  · show 0 ≤ 4; omega
  · split
    · show s.since + 1 ≤ 4; omega
    · show 0 ≤ 4; omega
end
/-- A queue of packets, as bytes. -/
def qB (Q : Qe) : List (Int × List Int) := Q.map fun q => (if q.1 = true then 1 else 0, encP 3 q.2)
theorem qB_app (P Q : Qe) : qB (P ++ Q) = qB P ++ qB Q := by simp [qB]
theorem qB_outX (l : List Pk) : qB (outX l) = (l.map (encP 3)).map fun z => (1 - (0 : Int), z) := by
  simp [qB, outX]
theorem qB_outY (l : List Pk) : qB (outY l) = (l.map (encP 3)).map fun z => (1 - (1 : Int), z) := by
  simp [qB, outY]
end Go.Proofs.YtahodgmdikaedaaDoor
end

section
/-
  LinkOrder in plain words: two ends that both send, packets under way that are lost, doubled, late. No walk.
-/
namespace Go.Proofs.YtahodgmdikaedaaDoor
/-- Packets to the first end, to the second one. -/
def toXs (Q : Qe) : List Pk := (Q.filter fun q => !q.1).map fun q => q.2
def toYs (Q : Qe) : List Pk := (Q.filter fun q => q.1).map fun q => q.2
/-- Packets seen from the other side. -/
def fl (Q : Qe) : Qe := Q.map fun q => (!q.1, q.2)
theorem toXs_app (P Q : Qe) : toXs (P ++ Q) = toXs P ++ toXs Q := by simp [toXs]
theorem toYs_app (P Q : Qe) : toYs (P ++ Q) = toYs P ++ toYs Q := by simp [toYs]
theorem toXs_outX (l : List Pk) : toXs (outX l) = [] := by
  induction l with
  | nil => rfl
  | cons p l ih => exact ih
theorem toYs_outX (l : List Pk) : toYs (outX l) = l := by
  induction l with
  | nil => rfl
  | cons p l ih =>
    show p :: toYs (outX l) = _
    rw [ih]
theorem toXs_mem {Q : Qe} {p : Pk} : p ∈ toXs Q ↔ (false, p) ∈ Q := by
  unfold toXs
  rw [List.mem_map]
  constructor
  · rintro ⟨⟨b, q⟩, h, rfl⟩
    rw [List.mem_filter] at h
    cases b
    · exact h.1
    · simp at h
  · intro h
    exact ⟨(false, p), List.mem_filter.2 ⟨h, rfl⟩, rfl⟩
theorem toYs_mem {Q : Qe} {p : Pk} : p ∈ toYs Q ↔ (true, p) ∈ Q := by
  unfold toYs
  rw [List.mem_map]
  constructor
  · rintro ⟨⟨b, q⟩, h, rfl⟩
    rw [List.mem_filter] at h
    cases b
    · simp at h
    · exact h.1
  · intro h
    exact ⟨(true, p), List.mem_filter.2 ⟨h, rfl⟩, rfl⟩
theorem toXs_fl (Q : Qe) : toXs (fl Q) = toYs Q := by
  induction Q with
  | nil => rfl
  | cons q Q ih =>
    obtain ⟨b, p⟩ := q
    cases b
    · exact ih
    · show p :: toXs (fl Q) = p :: toYs Q
      rw [ih]
theorem toYs_fl (Q : Qe) : toYs (fl Q) = toXs Q := by
  induction Q with
  | nil => rfl
  | cons q Q ih =>
    obtain ⟨b, p⟩ := q
    cases b
    · show p :: toYs (fl Q) = p :: toXs Q
      rw [ih]
    · exact ih
theorem fl_fl (Q : Qe) : fl (fl Q) = Q := by
  induction Q with
  | nil => rfl
  | cons q Q ih =>
    obtain ⟨b, p⟩ := q
    show (!!b, p) :: fl (fl Q) = _
    rw [ih, Bool.not_not]
theorem fl_app (P Q : Qe) : fl (P ++ Q) = fl P ++ fl Q := by simp [fl]
theorem fl_outX (l : List Pk) : fl (outX l) = outY l := by simp [fl, outX, outY]
theorem fl_len (Q : Qe) : (fl Q).length = Q.length := by simp [fl]
theorem fl_mem {Q : Qe} {b : Bool} {p : Pk} (h : (b, p) ∈ Q) : (!b, p) ∈ fl Q := List.mem_map.2 ⟨(b, p), h, rfl⟩
theorem fl_sub {P Q : Qe} (h : ∀ q ∈ P, q ∈ Q) : ∀ q ∈ fl P, q ∈ fl Q := fun q hq => by
  obtain ⟨r, hr, rfl⟩ := List.mem_map.1 hq
  exact List.mem_map.2 ⟨r, h r hr, rfl⟩
theorem Two.sub {A B : List (List Int)} {x y : Lk} {tX tY tX' tY' : List Pk} {cx cy : List (List Int)} (h : Two A B x y tX tY cx cy) (h1 : ∀ p ∈ tX', p ∈ tX) (h2 : ∀ p ∈ tY', p ∈ tY) : Two A B x y tX' tY' cx cy :=
  ⟨h.lx, h.ly, fun p hp => h.px p (h1 p hp), fun p hp => h.py p (h2 p hp), h.kx, h.ky⟩
theorem way_hear {s : Lk} (h : s.way ≤ 16) (p : Pk) : (s.hearS 16 p).way ≤ 16 := by
  have h0 : (s.own p.ack).way ≤ 16 := by show s.way - _ ≤ 16; omega
  have h1 : (s.hear1 p).way ≤ 16 := by
    unfold Lk.hear1 Lk.come
    split
    · exact h0
    · split <;> exact h0
  have h2 : ((s.hear1 p).goes 16).way ≤ 16 := by
    show max _ _ ≤ 16
    omega
  unfold Lk.hearS
  split <;> exact h2
theorem outs_len {s : Lk} : (s.outs 16).length ≤ 16 := by
  unfold Lk.outs Lk.full
  rw [List.length_map, List.length_range']
  omega
theorem hearO_len {s : Lk} (p : Pk) : (s.hearO 16 p).length ≤ 16 := by
  unfold Lk.hearO
  split
  · simp
  · exact outs_len
theorem tickO_len16 {s : Lk} (h : s.way ≤ 16) : s.tickO.length ≤ 16 := by
  unfold Lk.tickO
  split
  · simp
  · rw [List.length_map, List.length_range']; exact h
/-- What holds of both ends, of the packets under way, of what was sent and what came. -/
structure Og (A B : List (List Int)) (s0 s1 : Nat) (x y : Lk) (Q : Qe) (c0 c1 : List (List Int)) (c : Nat) : Prop where
  two : Two (A.take s0) (B.take s1) x y (toXs Q) (toYs Q) c0 c1
  l0 : s0 ≤ A.length
  l1 : s1 ≤ B.length
  gd : ∀ q ∈ Q, q.2.Good
  wx : x.way ≤ 16
  wy : y.way ≤ 16
  bx : Bd c x
  bY : Bd c y
  sx : x.since ≤ 4
  sy : y.since ≤ 4
  ql : Q.length ≤ c
section
variable {A B : List (List Int)} {s0 s1 : Nat} {x y : Lk} {Q Q' : Qe} {c0 c1 : List (List Int)} {c : Nat} {p : Pk}
theorem Og.flip (h : Og A B s0 s1 x y Q c0 c1 c) : Og B A s1 s0 y x (fl Q) c1 c0 c :=
  ⟨by rw [toXs_fl, toYs_fl]; exact h.two.flip, h.l1, h.l0, fun q hq => by
    obtain ⟨r, hr, rfl⟩ := List.mem_map.1 hq
    exact h.gd r hr, h.wy, h.wx, h.bY, h.bx, h.sy, h.sx, by rw [fl_len]; exact h.ql⟩
theorem Og.mono {d : Nat} (h : Og A B s0 s1 x y Q c0 c1 c) (hd : c ≤ d) : Og A B s0 s1 x y Q c0 c1 d :=
  ⟨h.two, h.l0, h.l1, h.gd, h.wx, h.wy, h.bx.mono hd, h.bY.mono hd, h.sx, h.sy, Nat.le_trans h.ql hd⟩
/-- Packets are lost. -/
theorem Og.lost (h : Og A B s0 s1 x y Q c0 c1 c) (hs : ∀ q ∈ Q', q ∈ Q) (hl : Q'.length ≤ Q.length) : Og A B s0 s1 x y Q' c0 c1 c :=
  ⟨h.two.sub (fun _ hp => toXs_mem.2 (hs _ (toXs_mem.1 hp))) (fun _ hp => toYs_mem.2 (hs _ (toYs_mem.1 hp))), h.l0, h.l1, fun q hq => h.gd q (hs q hq), h.wx, h.wy, h.bx, h.bY, h.sx, h.sy, Nat.le_trans hl h.ql⟩
theorem good_app {l : List Pk} (h : ∀ q ∈ Q, q.2.Good) (hl : ∀ q ∈ l, q.Good) : ∀ q ∈ Q ++ outX l, q.2.Good := fun q hq => by
  rcases List.mem_append.1 hq with hq | hq
  · exact h q hq
  · obtain ⟨r, hr, rfl⟩ := List.mem_map.1 hq
    exact hl r hr
theorem take_next {z : List Int} (h : A[s0]? = some z) : A.take (s0 + 1) = A.take s0 ++ [z] := by rw [List.take_add_one, h]; rfl
theorem Og.send (h : Og A B s0 s1 x y Q c0 c1 c) {z : List Int} (hz : A[s0]? = some z) (hg : ∀ q ∈ (x.put z).outs 16, q.Good) : Og A B (s0 + 1) s1 ((x.put z).goes 16) y (Q ++ outX ((x.put z).outs 16)) c0 c1 (c + 17) := by
  have ht := h.two.send 16 z
  rw [← take_next hz] at ht
  have hb : Bd c (x.put z) := ⟨h.bx.g, h.bx.v⟩
  refine ⟨by rw [toXs_app, toYs_app, toXs_outX, toYs_outX, List.append_nil]; exact ht, (List.getElem?_eq_some_iff.1 hz).1, h.l1, good_app h.gd hg, ?_, h.wy, hb.goes.mono (by omega), h.bY.mono (by omega), ?_, h.sy, ?_⟩
  · show max x.way _ ≤ 16
    have := h.wx
    omega
  · show (if _ then 0 else _) ≤ 4
    split
    · omega
    · exact h.sx
  · rw [List.length_append]
    have := outs_len (s := x.put z)
    have := h.ql
    simp only [outX, List.length_map]
    omega
theorem Og.tick (h : Og A B s0 s1 x y Q c0 c1 c) (hg : ∀ q ∈ x.tickO, q.Good) : Og A B s0 s1 x.tickS y (Q ++ outX x.tickO) c0 c1 (c + 17) := by
  obtain ⟨_, e2, _, _⟩ := tick_same x
  refine ⟨by rw [toXs_app, toYs_app, toXs_outX, toYs_outX, List.append_nil]; exact h.two.tick, h.l0, h.l1, good_app h.gd hg, by rw [e2]; exact h.wx, h.wy, (h.bx.tick h.wx).mono (by omega), h.bY.mono (by omega), since_tick h.sx, h.sy, ?_⟩
  rw [List.length_append]
  have := tickO_len16 h.wx
  have := h.ql
  simp only [outX, List.length_map]
  omega
theorem Og.hear (h : Og A B s0 s1 x y Q c0 c1 c) (hp : (false, p) ∈ Q) (hs : ∀ q ∈ Q', q ∈ Q) (hl : Q'.length ≤ Q.length) (hg : ∀ q ∈ x.hearO 16 p, q.Good) : Og A B s0 s1 (x.hearS 16 p) y (Q' ++ outX (x.hearO 16 p)) (c0 ++ x.rows p) c1 (c + 17) := by
  have hl2 := h.lost hs hl
  have ht := h.two.hear 16 (toXs_mem.2 hp) (toXs Q') (fun q hq => toXs_mem.2 (hs _ (toXs_mem.1 hq)))
  have ht2 := ht.sub (tX' := toXs Q') (tY' := toYs Q' ++ x.hearO 16 p) (fun _ h => h) (fun q hq => by
    rcases List.mem_append.1 hq with hq | hq
    · exact List.mem_append_left _ (toYs_mem.2 (hs _ (toYs_mem.1 hq)))
    · exact List.mem_append_right _ hq)
  refine ⟨by rw [toXs_app, toYs_app, toXs_outX, toYs_outX, List.append_nil]; exact ht2, h.l0, h.l1, good_app hl2.gd hg, way_hear h.wx p, h.wy, h.bx.hear p, h.bY.mono (by omega), since_hear h.sx p, h.sy, ?_⟩
  rw [List.length_append]
  have := hearO_len (s := x) p
  have := hl2.ql
  simp only [outX, List.length_map]
  omega
/-- What is known in the end. -/
theorem Og.first (h : Og A B s0 s1 x y Q c0 c1 c) : c0.length ≤ s1 ∧ c0 = B.take c0.length ∧ c1.length ≤ s0 ∧ c1 = A.take c1.length := by
  obtain ⟨h1, h2, h3, h4⟩ := h.two.first
  rw [List.length_take] at h1 h3
  refine ⟨by omega, ?_, by omega, ?_⟩
  · rw [List.take_take, Nat.min_eq_left (by omega)] at h2
    exact h2
  · rw [List.take_take, Nat.min_eq_left (by omega)] at h4
    exact h4
end
theorem Og.start (A B : List (List Int)) : Og A B 0 0 newL newL [] [] [] 0 :=
  ⟨⟨by rw [List.take_zero]; exact newL_ok, by rw [List.take_zero]; exact newL_ok, fun p hp => (by cases hp), fun p hp => (by cases hp), ⟨by rw [List.take_zero]; rfl, Nat.zero_le _⟩, ⟨by rw [List.take_zero]; rfl, Nat.zero_le _⟩⟩, Nat.zero_le _, Nat.zero_le _, fun q hq => (by cases hq), Nat.zero_le _, Nat.zero_le _, ⟨Nat.le_refl _, Nat.le_refl _⟩, ⟨Nat.le_refl _, Nat.le_refl _⟩, Nat.zero_le _, Nat.zero_le _, Nat.le_refl _⟩
end Go.Proofs.YtahodgmdikaedaaDoor
end

section
/-
  The law's rows, by contract.
-/
namespace Go.Proofs.YtahodgmdikaedaaDoor
open Go.RowKit

/-- Whether two rows of rows hold the same bytes. -/
def eqR (xs ys : List (List Int)) : Bool := decide (xs = ys)
theorem eqR_true {xs ys : List (List Int)} (h : xs = ys) : eqR xs ys = true := by simp [eqR, h]
theorem eqR_false {xs ys : List (List Int)} (h : xs ≠ ys) : eqR xs ys = false := by simp [eqR, h]
theorem bytesOf2_get {rs : List Rw2} {i : Nat} {v : Value} {zs : List Int} (h : rs[i]? = some (v, zs)) : (bytesOf2 rs)[i]? = some zs := by simp [bytesOf2, h]
theorem take_snoc2 {xs : List (List Int)} {k : Nat} {z : List Int} (h : xs[k]? = some z) : xs.take (k + 1) = xs.take k ++ [z] := by
  obtain ⟨hi, e⟩ := List.getElem?_eq_some_iff.1 h
  rw [List.take_succ_eq_append_getElem hi, e]

set_option maxHeartbeats 3200000 in
set_option maxRecDepth 20000 in
theorem rows_any (va vb : Value) (ra rb : List Rw2) (w : World) (ha : Rs w va ra) (hb : Rs w vb rb) :
    Calls Tryd.prog 18 #[va, vb] w fun e w' => e = .returned (.bool (eqR (bytesOf2 ra) (bytesOf2 rb))) ∧ Sm w w' := by
  obtain ⟨a1, c1, h1, m1, -⟩ := ha.form
  obtain ⟨a2, c2, h2, m2, -⟩ := hb.form
  subst h1; subst h2
  by_cases hl : ra.length = rb.length
  · obtain ⟨n, hn⟩ : ∃ n, n = rb.length := ⟨_, rfl⟩
    have HA : Hid (ra.length = n) := hl.trans hn.symm
    have HB : Hid (rb.length = n) := hn.symm
    have hn2 : n ≤ 140737488355328 := by omega
    rw [HA.out, HB.out]
    have HRa : Hid (Rs w (.slice a1 ra.length c1) ra) := ha
    have HRb : Hid (Rs w (.slice a2 rb.length c2) rb) := hb
    clear hn hl m1 m2 ha hb
    go_enter Tryd.func18, Tryd.ntmps18
    go_wp2
    go_loopw [5] (fun i wr => ∃ k : Nat, k ≤ n ∧ i = .int .i64 k ∧ Hid ((bytesOf2 ra).take k = (bytesOf2 rb).take k) ∧ Sm w wr) (fun i _ => n - (intOf i).toNat)
    case atStart => exact ⟨0, Nat.zero_le _, rfl, by show _ = _; simp, Sm.refl _⟩
    case round =>
      obtain ⟨k, hk, rfl, HT, hsm⟩ := hrel
      by_cases hlt : k < n
      · obtain ⟨b1, o1, ap1, cp1, z1, rfl, hg1, hcell1, hbs1, -, -⟩ := Rs.get (rs := ra) HRa.out (by rw [HA.out]; exact hlt)
        obtain ⟨b2, o2, ap2, cp2, z2, rfl, hg2, hcell2, hbs2, -, -⟩ := Rs.get (rs := rb) HRb.out (by rw [HB.out]; exact hlt)
        have hc1 := hsm.cell hcell1
        have hc2 := hsm.cell hcell2
        have e1 := bytesOf2_get hg1
        have e2 := bytesOf2_get hg2
        have f1 : (0 : Int) ≤ (k : Int) := by omega
        have f2 : (k : Int) < (n : Int) := by omega
        have C : ∀ W, Sm w W → Calls Tryd.prog 24 #[.slice ap1 z1.length cp1, .slice ap2 z2.length cp2] W fun e w' => e = .returned (.bool (eqB z1 z2)) ∧ Sm W w' := fun W hW => same_any _ _ z1 z2 W (hW.bs hbs1) (hW.bs hbs2)
        by_cases hz : z1 = z2
        · have HN : Hid ((bytesOf2 ra).take (k + 1) = (bytesOf2 rb).take (k + 1)) := by
            show _ = _
            rw [take_snoc2 e1, take_snoc2 e2, HT.out, hz]
          rw [eqB_true hz] at C
          clear hg1 hg2 hbs1 hbs2 e1 e2 HT hz HA HB HRa HRb
          go_wp2_with fail
          go_region_held3 (fun w' => w'.cell? ⟨b1, o1 + k, none⟩ = some (.slice ap1 z1.length cp1) ∧ w'.cell? ⟨b2, o2 + k, none⟩ = some (.slice ap2 z2.length cp2)) (exact ⟨by assumption, by assumption⟩)
            (first
              | (go_at_call 24; refine (C _ (by exact hsm.trans (Sm.drewN _ 1))).mono ?_; rintro e w2 ⟨rfl, hs2⟩; have hd1 := ((hsm.trans (Sm.drewN _ 1)).trans hs2).cell hcell1; have hd2 := ((hsm.trans (Sm.drewN _ 1)).trans hs2).cell hcell2))
          have hs3 : Sm w w2 := (hsm.trans (Sm.drewN _ 1)).trans hs2
          go_wp2
          go_roundw
          case rel => exact ⟨k + 1, by omega, by go_num, HN, hs3⟩
          case measure => simp [intOf]; omega
        · have HF : Hid (eqR (bytesOf2 ra) (bytesOf2 rb) = false) := eqR_false (fun e => hz (by rw [e, e2] at e1; exact (Option.some.inj e1).symm))
          rw [eqB_false hz] at C
          clear hg1 hg2 hbs1 hbs2 e1 e2 HT hz HA HB HRa HRb
          go_wp2_with fail
          go_region_held3 (fun w' => w'.cell? ⟨b1, o1 + k, none⟩ = some (.slice ap1 z1.length cp1) ∧ w'.cell? ⟨b2, o2 + k, none⟩ = some (.slice ap2 z2.length cp2)) (exact ⟨by assumption, by assumption⟩)
            (first
              | (go_at_call 24; refine (C _ (by exact hsm.trans (Sm.drewN _ 1))).mono ?_; rintro e w2 ⟨rfl, hs2⟩; have hd1 := ((hsm.trans (Sm.drewN _ 1)).trans hs2).cell hcell1; have hd2 := ((hsm.trans (Sm.drewN _ 1)).trans hs2).cell hcell2))
          have hs3 : Sm w w2 := (hsm.trans (Sm.drewN _ 1)).trans hs2
          go_wp2
          go_ret
          exact ⟨by rw [HF.out]; rfl, hs3⟩
      · have HF : Hid (eqR (bytesOf2 ra) (bytesOf2 rb) = true) := by
          refine eqR_true ?_
          have h := HT.out
          rw [List.take_of_length_le (by rw [bytesOf2_len, HA.out]; omega), List.take_of_length_le (by rw [bytesOf2_len, HB.out]; omega)] at h
          exact h
        clear HT HA HB HRa HRb
        go_wp2
        go_ret
        exact ⟨by rw [HF.out]; rfl, hsm⟩
  · have HF : Hid (eqR (bytesOf2 ra) (bytesOf2 rb) = false) := eqR_false (fun e => hl (by rw [← bytesOf2_len ra, e, bytesOf2_len]))
    have hl' : ¬ (ra.length : Int) = (rb.length : Int) := by omega
    clear ha hb
    go_enter Tryd.func18, Tryd.ntmps18
    go_wp2
    go_ret
    exact ⟨by rw [HF.out]; rfl, Sm.refl _⟩

end Go.Proofs.YtahodgmdikaedaaDoor
end
