/-
  Joined from: FrOct.
-/
import Derived.Test.YtnkjhooeklodcaaGreatDoorM04
import Derived.Test.YtnkjhooeklodcaaGreatDoorM05
import Derived.Test.YtnkjhooeklodcaaGreatDoorM02
import Derived.Test.YtnkjhooeklodcaaGreatDoorM07
section
/-
  Octet's Num, both ways, and Left, and the document's: by contracts (of octet's own seat, with this program's numbers).
-/
namespace Go.Proofs.YtnkjhooeklodcaaGreatDoor.Fr
open Go.RowKit

theorem fold_any (x : Int) (w : World) (h0 : -9223372036854775808 ≤ x) (h1 : x ≤ 9223372036854775807) :
    Calls Tryz.prog 102 #[.int .i64 x] w fun e w' => e = .returned (.int .u64 (foldI x)) ∧ w = w' := by
  by_cases h : x < 0
  · have e1 := not64 x h0 h1
    have e2 := or1 ((-1 - x) * 2) (by omega) (by omega) (by omega)
    have HE : Hid (bits .or .u64 (IntKind.u64.wrap (IntKind.u64.wrap (bits .xor .i64 (-1) x) * 2)) 1 = foldI x) := by
      show _ = _
      rw [foldI_neg h, e1]
      simp only [IntKind.wrap_u64]
      have a1 : (-1 - x) % 18446744073709551616 = -1 - x := by omega
      rw [a1]
      have a2 : (-1 - x) * 2 % 18446744073709551616 = (-1 - x) * 2 := by omega
      rw [a2, e2]
      omega
    clear e1 e2
    go_enter Tryz.func102, Tryz.ntmps102
    go_wp2
    go_ret
    exact ⟨ret_int HE.out, rfl⟩
  · have HE : Hid (x * 2 = foldI x) := by show _ = _; rw [foldI_pos h]; omega
    go_enter Tryz.func102, Tryz.ntmps102
    go_wp2
    go_ret
    exact ⟨ret_int HE.out, rfl⟩

set_option maxHeartbeats 800000 in
theorem num_w (b : Nat) (v : Value) (xs : List Int) (x : Int) (w : World) (hw : Wr w b v xs) (hn : xs.length ≤ 500000000000) (h0 : -9223372036854775808 ≤ x) (h1 : x ≤ 9223372036854775807) :
    Calls Tryz.prog 79 #[.pointer (some ⟨b, 0, none⟩), .int .i64 x] w fun e w' => e = .returned (.tuple #[]) ∧ ∃ v', Wr w' b v' (xs ++ numOf x) ∧ Wstep b w v w' v' := by
  have hr := foldI_range x h0 h1
  have hnl := numOf_length x
  go_enter Tryz.func79, Tryz.ntmps79
  go_wp2_with (go_at_call 102; refine (fold_any _ _ h0 h1).mono ?_; rintro e w' ⟨rfl, rfl⟩)
  go_loopw [4] (fun i wr => ∃ (f : Nat) (u : Int) (ys : List Int) (v1 : Value), i = .int .u64 u ∧ Fits f u ∧ Hid (ys ++ numB f u = xs ++ numOf x) ∧ Wr wr b v1 ys ∧ Wstep b w v wr v1) (fun i _ => (intOf i).toNat)
  case atStart => exact ⟨9, foldI x, xs, v, rfl, Fits.start _ hr.1 hr.2, rfl, hw, Wstep.refl _ _ _⟩
  case round =>
    obtain ⟨f, u, ys, v1, rfl, hf, HE, hw1, hs1⟩ := hrel
    have hu0 := hf.1
    have hyl : ys.length ≤ 1000000000000 := by
      have := congrArg List.length HE.out
      simp only [List.length_append] at this
      omega
    by_cases hlt : u < 128
    · have HE2 : Hid (ys ++ [u] = xs ++ numOf x) := by rw [numB_small f u hlt] at HE; exact HE
      have hmod : u % 256 = u := by omega
      clear HE
      go_wp2_with (go_at_call 103; refine (byte_w b v1 _ _ _ hw1 hyl).mono ?_; rintro e w' ⟨rfl, v2, hw2, hs2⟩)
      go_end0
      rw [HE2.out] at hw2
      exact ⟨rfl, v2, hw2, hs1.trans hs2⟩
    · obtain ⟨g, rfl, hg⟩ := hf.next hlt
      have HE2 : Hid ((ys ++ [bits .or .u8 (u % 256) 128]) ++ numB g (u / 128) = xs ++ numOf x) := by
        show _ = _
        rw [or128 _ (by omega) (by omega), ← HE.out, numB_more g u hlt, List.append_assoc]
        have e : u % 256 % 128 = u % 128 := by omega
        rw [e]; rfl
      clear HE
      have hge : 128 ≤ u := by omega
      go_wp2_with (go_at_call 103; refine (byte_w b v1 _ _ _ hw1 hyl).mono ?_; rintro e w' ⟨rfl, v2, hw2, hs2⟩)
      go_roundw
      case rel => exact ⟨g, u / 128, _, v2, rfl, hg, HE2, hw2, hs1.trans hs2⟩
      case measure => simp [intOf]; omega

theorem num_nil (x : Int) (w : World) (h0 : -9223372036854775808 ≤ x) (h1 : x ≤ 9223372036854775807) :
    Calls Tryz.prog 79 #[.pointer none, .int .i64 x] w fun e w' => e = .returned (.tuple #[]) ∧ w' = w := by
  have hr := foldI_range x h0 h1
  go_enter Tryz.func79, Tryz.ntmps79
  go_wp2_with (go_at_call 102; refine (fold_any _ _ h0 h1).mono ?_; rintro e w' ⟨rfl, rfl⟩)
  go_loop [4] (fun i => ∃ (u : Int), i = .int .u64 u ∧ 0 ≤ u) (fun i => (intOf i).toNat)
  case atStart => exact ⟨foldI x, rfl, hr.1⟩
  case round =>
    obtain ⟨u, rfl, hu⟩ := hrel
    by_cases hlt : 128 ≤ u
    · go_wp2_with (go_at_call 103; refine (byte_nil _ _).mono ?_; rintro e w' ⟨rfl, rfl⟩)
      go_round
      case rel => exact ⟨u / 128, rfl, by omega⟩
      case measure => simp [intOf]; omega
    · go_wp2_with (go_at_call 103; refine (byte_nil _ _).mono ?_; rintro e w' ⟨rfl, rfl⟩)
      go_end0
      exact ⟨rfl, rfl⟩
theorem left_any (b : Nat) (v : Value) (zs : List Int) (e : Int) (w : World) (hr : Rd w b v zs e) :
    Calls Tryz.prog 129 #[.pointer (some ⟨b, 0, none⟩)] w fun r w' => r = .returned (.int .i64 zs.length) ∧ w = w' := by
  have hc0 := hr.cell0
  obtain ⟨ao, cap, hv, hm⟩ := hr.2.1.len
  subst hv
  go_enter Tryz.func129, Tryz.ntmps129
  go_wp2
  go_ret
  exact ⟨rfl, rfl⟩
theorem left_nil (w : World) : Calls Tryz.prog 129 #[.pointer none] w fun r w' => r = .returned (.int .i64 0) ∧ w = w' := by
  go_enter Tryz.func129, Tryz.ntmps129
  go_wp2
  go_ret
  exact ⟨rfl, rfl⟩
theorem unfold_any (u : Nat) (w : World) (h1 : u < 18446744073709551616) :
    Calls Tryz.prog 161 #[.int .u64 (u : Nat)] w fun r w' => r = .returned (.int .i64 (unfoldI u)) ∧ w = w' := by
  have ea := u64_and_nat u 1 h1 (by decide)
  rw [nat_mask1] at ea
  by_cases ho : u % 2 = 1
  · have ea1 : bits .and .u64 (u : Int) 1 = 1 := by rw [ho] at ea; exact ea
    have HE : Hid (bits .xor .i64 (-1) ((u : Int) / 2) = unfoldI u) := by
      show _ = _
      rw [unfoldI_odd ho, not64 _ (by omega) (by omega)]
      omega
    clear ea ho
    go_enter Tryz.func161, Tryz.ntmps161
    go_wp2
    go_ret
    exact ⟨ret_int HE.out, rfl⟩
  · have ea1 : bits .and .u64 (u : Int) 1 = 0 := by rw [show u % 2 = 0 by omega] at ea; exact ea
    have HE : Hid ((u : Int) / 2 = unfoldI u) := by
      show _ = _
      rw [unfoldI_even ho]
      omega
    clear ea ho
    go_enter Tryz.func161, Tryz.ntmps161
    go_wp2
    go_ret
    exact ⟨ret_int HE.out, rfl⟩
theorem mayEnd_bad (k : Nat) (z : Int) (w : World) (h : badB k z = true) :
    Calls Tryz.prog 159 #[.int .i64 k, .int .u8 z] w fun r w' => r = .returned (.bool false) ∧ w = w' := by
  by_cases h1 : k = 9 ∧ 1 < z
  · obtain ⟨rfl, h2⟩ := h1
    clear h
    go_enter Tryz.func159, Tryz.ntmps159
    go_wp2
    go_ret
    exact ⟨rfl, rfl⟩
  · have h2 : k ≠ 0 ∧ z = 0 := by
      simp [badB] at h
      omega
    obtain ⟨hk, rfl⟩ := h2
    have hk0 : ((k : Int) == 0) = false := by simp; omega
    clear h h1
    by_cases h9 : k = 9
    · subst h9
      go_enter Tryz.func159, Tryz.ntmps159
      go_wp2
      go_ret
      exact ⟨rfl, rfl⟩
    · have h9' : ((k : Int) == 9) = false := by simp; omega
      go_enter Tryz.func159, Tryz.ntmps159
      go_wp2
      go_ret
      exact ⟨rfl, rfl⟩
theorem mayEnd_good (k : Nat) (z : Int) (w : World) (h : badB k z = false) :
    Calls Tryz.prog 159 #[.int .i64 k, .int .u8 z] w fun r w' => r = .returned (.bool true) ∧ w = w' := by
  simp [badB] at h
  obtain ⟨h1, h2⟩ := h
  by_cases h9 : k = 9
  · subst h9
    have hz1 : z ≤ 1 := h1 rfl
    have hz : (z != 0) = true := by simp; exact h2 (by decide)
    clear h1 h2
    go_enter Tryz.func159, Tryz.ntmps159
    go_wp2
    go_ret
    exact ⟨rfl, rfl⟩
  · have h9' : ((k : Int) == 9) = false := by simp; omega
    by_cases h0 : k = 0
    · subst h0
      clear h1 h2
      go_enter Tryz.func159, Tryz.ntmps159
      go_wp2
      go_ret
      exact ⟨rfl, rfl⟩
    · have h0' : ((k : Int) == 0) = false := by simp; omega
      have hz : (z != 0) = true := by simp; exact h2 h0
      clear h1 h2
      go_enter Tryz.func159, Tryz.ntmps159
      go_wp2
      go_ret
      exact ⟨rfl, rfl⟩

set_option maxHeartbeats 1600000 in
theorem rnum_any (b : Nat) (v : Value) (zs : List Int) (w : World) (hr : Rd w b v zs 0) (hz : Byt zs) :
    Calls Tryz.prog 128 #[.pointer (some ⟨b, 0, none⟩)] w fun r w' => r = .returned (.int .i64 (numR 10 0 0 zs).1) ∧ Rleft w b v w' (numR 10 0 0 zs).2.1 (numR 10 0 0 zs).2.2 := by
  generalize hres : numR 10 0 0 zs = res
  have HR : Hid (numR 10 0 0 zs = res) := hres
  clear hres
  go_enter Tryz.func128, Tryz.ntmps128
  go_wp2
  go_loopw [3, 6] (fun u i wr => ∃ (k : Nat) (U : Int) (v1 : Value) (zs1 : List Int), k ≤ 10 ∧ i = .int .i64 k ∧ u = .int .u64 U ∧ Rd wr b v1 zs1 0 ∧ Byt zs1 ∧ Rstep b w wr ∧ v1.ownBlock = v.ownBlock ∧ (∃ U' : Nat, (k ≤ 9 → U = U' ∧ U' < 128 ^ k) ∧ Hid (numR (10 - k) k U' zs1 = res))) (fun _ i _ => 10 - (intOf i).toNat)
  case atStart => exact ⟨0, 0, v, zs, by decide, rfl, rfl, hr, hz, Rstep.refl _ _, rfl, 0, fun _ => ⟨rfl, by decide⟩, HR⟩
  case round =>
    obtain ⟨k, U, v1, zs1, hk, rfl, rfl, hr1, hz1, hs1, ho1, U', hU, HR1⟩ := hrel
    by_cases hk10 : k = 10
    · subst hk10
      have HF : Hid (res = (0, [], 3)) := by show _ = _; rw [← HR1.out]; rfl
      clear HR HR1 hU
      go_wp2_with (go_at_call 160; refine (fail_any b _ _ _ 3 _ hr1).mono ?_; rintro e w' ⟨rfl, hr2, hs2⟩)
      go_ret
      rw [HF.out]
      exact ⟨rfl, _, hr2, hs1.trans hs2, Or.inr rfl⟩
    obtain ⟨rfl, hU1⟩ := hU (by omega)
    obtain ⟨f, hf⟩ : ∃ f, 10 - k = f + 1 := ⟨9 - k, by omega⟩
    rw [hf] at HR1
    have hf2 : f = 10 - (k + 1) := by omega
    have hklt : k < 10 := by omega
    clear hU hf
    cases zs1 with
    | nil =>
      have HF : Hid (res = (0, [], 2)) := by show _ = _; rw [← HR1.out]; rfl
      clear HR HR1
      go_wp2_with (go_at_call 157; refine (has_no b _ [] _ _ hr1 (by simp)).mono ?_; rintro e w' ⟨rfl, hr2, hs2⟩)
      go_ret
      rw [HF.out]
      exact ⟨rfl, _, hr2, hs1.trans hs2, Or.inr rfl⟩
    | cons z r =>
      obtain ⟨hz0, hz256⟩ := hz1 z (by simp)
      have hzr : Byt r := fun y hy => hz1 y (by simp [hy])
      by_cases hz128 : 128 ≤ z
      · have HR2 : Hid (numR f (k + 1) (U' + (z.toNat % 128) * 128 ^ k) r = res) := by
          show _ = _
          rw [← HR1.out, numR_more hz128]
        have HO : Hid (k + 1 ≤ 9 → bits .or .u64 (U' : Int) (IntKind.u64.wrap (IntKind.u64.wrap (bits .andNot .u8 z 128) * 2 ^ (7 * k))) = ((U' + (z.toNat % 128) * 128 ^ k : Nat) : Int) ∧ U' + (z.toNat % 128) * 128 ^ k < 128 ^ (k + 1)) := by
          intro hk9
          refine ⟨orStep U' k z hz0 hz256 (by omega) hU1 (by omega), ?_⟩
          have : (z.toNat % 128) * 128 ^ k ≤ 127 * 128 ^ k := Nat.mul_le_mul_right _ (by omega)
          rw [Nat.pow_succ]
          omega
        clear HR HR1
        go_wp2_with fail
        refine (has_yes b _ _ _ _ hr1 (by simp; omega)).mono ?_
        rintro e w' ⟨rfl, rfl⟩
        go_wp2_with fail
        refine (rbyte_yes b _ _ _ _ hr1).mono ?_
        rintro e w2 ⟨rfl, v2, hv2, hr2, hs2⟩
        go_wp2_with fail
        go_roundw
        case rel => exact ⟨k + 1, _, v2, r, by omega, by go_num, rfl, hr2, hzr, hs1.trans hs2, hv2.trans ho1, _, HO.out, by rw [← hf2]; exact HR2⟩
        case measure => simp [intOf]; omega
      · have hz128' : z < 128 := by omega
        cases hbad : badB k z with
        | true =>
          have HF : Hid (res = (0, [], 3)) := by show _ = _; rw [← HR1.out, numR_bad hz128 hbad]
          clear HR HR1
          go_wp2_with fail
          refine (has_yes b _ _ _ _ hr1 (by simp; omega)).mono ?_
          rintro e w' ⟨rfl, rfl⟩
          go_wp2_with fail
          refine (rbyte_yes b _ _ _ _ hr1).mono ?_
          rintro e w2 ⟨rfl, v2, hv2, hr2, hs2⟩
          go_wp2_with fail
          refine (mayEnd_bad k z _ hbad).mono ?_
          rintro e w' ⟨rfl, rfl⟩
          go_wp2_with fail
          refine (fail_any b _ _ _ 3 _ hr2).mono ?_
          rintro e w3 ⟨rfl, hr3, hs3⟩
          go_wp2_with fail
          go_ret
          rw [HF.out]
          exact ⟨rfl, _, hr3, (hs1.trans hs2).trans hs3, Or.inr rfl⟩
        | false =>
          have HF : Hid (res = (unfoldI (U' + z.toNat * 128 ^ k), r, 0)) := by show _ = _; rw [← HR1.out, numR_good hz128 hbad]
          have hm : z.toNat % 128 = z.toNat := by omega
          have h9 : k = 9 → z.toNat % 128 ≤ 1 := by
            intro e
            simp [badB] at hbad
            have := hbad.1 e
            omega
          have ho := orStep U' k z hz0 hz256 (by omega) hU1 h9
          have hfs := fits_step k (z.toNat % 128) (by omega) (by omega) h9
          have hp9 := pow_le9 k (by omega)
          rw [hm] at ho hfs
          have hN : U' + z.toNat * 128 ^ k < 18446744073709551616 := by omega
          generalize U' + z.toNat * 128 ^ k = N at *
          have HO : Hid (bits .or .u64 (U' : Int) (IntKind.u64.wrap (IntKind.u64.wrap (bits .andNot .u8 z 128) * 2 ^ (7 * k))) = (N : Int)) := ho
          clear HR HR1 ho hfs hp9 hm
          go_wp2_with fail
          refine (has_yes b _ _ _ _ hr1 (by simp; omega)).mono ?_
          rintro e w' ⟨rfl, rfl⟩
          go_wp2_with fail
          refine (rbyte_yes b _ _ _ _ hr1).mono ?_
          rintro e w2 ⟨rfl, v2, hv2, hr2, hs2⟩
          go_wp2_with fail
          refine (mayEnd_good k z _ hbad).mono ?_
          rintro e w' ⟨rfl, rfl⟩
          go_wp2_with fail
          rw [HO.out]
          refine (unfold_any N _ hN).mono ?_
          rintro e w3 ⟨rfl, rfl⟩
          go_wp2_with fail
          go_ret
          rw [HF.out]
          exact ⟨rfl, _, hr2, hs1.trans hs2, Or.inl (hv2.trans ho1)⟩

theorem rnum_err (b : Nat) (v : Value) (zs : List Int) (e : Int) (w : World) (hr : Rd w b v zs e) (he : e ≠ 0) :
    Calls Tryz.prog 128 #[.pointer (some ⟨b, 0, none⟩)] w fun r w' => r = .returned (.int .i64 0) ∧ w = w' := by
  go_enter Tryz.func128, Tryz.ntmps128
  go_wp2
  refine wp_loop_rounds 1 ?_
  rw [rounds_succ]
  go_wp2_with (go_at_call 157; refine (has_err b v zs e _ _ hr he).mono ?_; rintro e w' ⟨rfl, rfl⟩)
  go_ret
  exact ⟨rfl, rfl⟩
theorem rnum_nil (w : World) :
    Calls Tryz.prog 128 #[.pointer none] w fun r w' => r = .returned (.int .i64 0) ∧ w = w' := by
  go_enter Tryz.func128, Tryz.ntmps128
  go_wp2
  refine wp_loop_rounds 1 ?_
  rw [rounds_succ]
  go_wp2_with (go_at_call 157; refine (has_nil _ _).mono ?_; rintro e w' ⟨rfl, rfl⟩)
  go_ret
  exact ⟨rfl, rfl⟩
set_option maxHeartbeats 1600000 in
theorem refNum_any (x : Int) (w : World) (h0 : -9223372036854775808 ≤ x) (h1 : x ≤ 9223372036854775807) :
    Calls Tryz.prog 53 #[.int .i64 x] w fun e w' => ∃ ao cap, e = .returned (.slice ao (numOf x).length cap) ∧ Ow w' w.heap.size (.slice ao (numOf x).length cap) (numOf x) ∧ Below w.heap.size w w' := by
  have hr := foldI_range x h0 h1
  have hnl := numOf_length x
  have HE1 : Hid (x < 0 → 2 * -(x + 1) + 1 = foldI x) := fun h => by rw [foldI_neg h]; omega
  have HE2 : Hid (¬ x < 0 → 2 * x = foldI x) := fun h => by rw [foldI_pos h]
  by_cases hx : x < 0
  all_goals
    go_enter Tryz.func53, Tryz.ntmps53
    go_wp2
    go_loopw [3, 4] (fun s c wr => ∃ (f : Nat) (u : Int) (ys : List Int) (ao : Option Addr) (cap : Nat), s = .int .u64 u ∧ c = .slice ao ys.length cap ∧ u < 18446744073709551616 ∧ Fits f u ∧ Hid (ys ++ numB f u = numOf x) ∧ Ow wr w.heap.size (.slice ao ys.length cap) ys ∧ Below w.heap.size w wr) (fun s _ _ => (intOf s).toNat)
    case atStart =>
      refine ⟨9, foldI x, [], none, 0, ?_, rfl, hr.2, Fits.start _ hr.1 hr.2, rfl, World.ownsRow_nil _ _ _ _, Below.refl _ _⟩
      first | exact congrArg (Value.int .u64) (HE1.out hx) | exact congrArg (Value.int .u64) (HE2.out hx)
    case round =>
      obtain ⟨f, u, ys, ao, cap, rfl, rfl, hu1, hf, HE, hown, hbel⟩ := hrel
      have hu0 := hf.1
      have hyl : ys.length ≤ 10 := by
        have := congrArg List.length HE.out
        simp only [List.length_append] at this
        omega
      have hbs := hbel.size
      by_cases hlt : u < 128
      · have HF : Hid (ys ++ [u] = numOf x) := by rw [numB_small f u hlt] at HE; exact HE
        have hmod : u % 256 = u := by omega
        have hown1 : Ow (wr.alloc (.cells #[.int .u8 u] 5)) w.heap.size (.slice ao ys.length cap) ys := World.ownsRow.alloc hown _
        have hbs1 : Bs (wr.alloc (.cells #[.int .u8 u] 5)) (.slice (some ⟨wr.heap.size, 0, none⟩) 1 1) [u] := Bs_of_block (heap_alloc_new wr _) (by simp [maxLen])
        clear HE HE1 HE2
        go_wp2_with (at_builtin; refine wpList_append_bs _ rfl (.tmp 27) (.tmp 30) rfl w.heap.size _ ys rfl hown1 _ [u] rfl hbs1 (by simp; omega) (by simp; omega) ?_)
        intro ao2 cap2 w2 hown2 hgrow2 hat2
        have B2 : Below w.heap.size w w2 := (hbel.alloc hbs _).grown hgrow2 (by simp; omega) (fun k hk => (World.ownsRow.lt hown1 k hk).1)
        rw [HF.out] at hown2
        have hl2 : ys.length + 1 = (numOf x).length := by rw [← HF.out]; simp
        have HL : Hid (ys.length + 1 = (numOf x).length) := hl2
        clear hown1 hbs1 hgrow2 hat2 hl2 HF
        go_wp2
        go_ret
        rw [← HL.out]
        exact ⟨ao2, cap2, rfl, hown2, B2⟩
      · obtain ⟨g, rfl, hg⟩ := hf.next hlt
        obtain ⟨c, hc⟩ : ∃ c, c = u % 128 := ⟨_, rfl⟩
        have hc0 : 0 ≤ c := by omega
        have hc1 : c < 128 := by omega
        have eA : bits .and .u64 u 127 = c := by rw [and127 u hu0 hu1, hc]
        have eB : bits .or .u8 c 128 = c + 128 := by rw [or128 c hc0 (by omega)]; omega
        have HE2 : Hid ((ys ++ [c + 128]) ++ numB g (u / 128) = numOf x) := by
          show _ = _
          rw [← HE.out, numB_more g u hlt, List.append_assoc, hc]; rfl
        clear HE hc
        have hge : 128 ≤ u := by omega
        have hown1 : Ow (wr.alloc (.cells #[.int .u8 (c + 128)] 5)) w.heap.size (.slice ao ys.length cap) ys := World.ownsRow.alloc hown _
        have hbs1 : Bs (wr.alloc (.cells #[.int .u8 (c + 128)] 5)) (.slice (some ⟨wr.heap.size, 0, none⟩) 1 1) [c + 128] := Bs_of_block (heap_alloc_new wr _) (by simp [maxLen])
        go_wp2_with (at_builtin; refine wpList_append_bs _ rfl (.tmp 18) (.tmp 23) rfl w.heap.size _ ys rfl hown1 _ [c + 128] rfl hbs1 (by simp; omega) (by simp; omega) ?_)
        intro ao2 cap2 w2 hown2 hgrow2 hat2
        have B2 : Below w.heap.size w w2 := (hbel.alloc hbs _).grown hgrow2 (by simp; omega) (fun k hk => (World.ownsRow.lt hown1 k hk).1)
        clear hown1 hbs1 hgrow2 hat2
        go_wp2
        go_roundw
        case rel => exact ⟨g, u / 128, ys ++ [c + 128], ao2, cap2, rfl, by simp, by omega, hg, HE2, by simpa using hown2, B2⟩
        case measure => simp [intOf]; omega
set_option maxHeartbeats 800000 in
theorem fbyte_u (b : Nat) (v : Value) (zs : List Int) (e : Int) (w : World) (hr : Rf w b v zs e) (hi : Inv zs e) :
    Calls Tryz.prog 116 #[.pointer (some ⟨b, 0, none⟩)] w fun r w' => r = .returned (.int .u8 ((rowR [0] zs e).1.getD 0 0)) ∧ Fleft w b v w' (rowR [0] zs e).2.1 (rowR [0] zs e).2.2 := by
  have hlen := rowR_len [0] zs e
  have hraw := raw_row [0] zs e w b v 1 rfl (by decide) hr hi (raw_no1 b v zs e w hr)
  generalize rowR [0] zs e = R at *
  obtain ⟨row, zs2, e2⟩ := R
  obtain ⟨x0, rfl⟩ : ∃ x0, row = [x0] := by
    match row, hlen with
    | [x0], _ => exact ⟨x0, rfl⟩
  have HR : Hid (Calls Tryz.prog 134 #[.pointer (some ⟨b, 0, none⟩), .int .i64 1] w fun r w' => ∃ x, r = .returned x ∧ Bs w' x [x0] ∧ Fleft w b v w' zs2 e2) := hraw
  clear hraw hlen
  go_enter Tryz.func116, Tryz.ntmps116
  go_wp2_with fail
  refine HR.out.mono ?_
  rintro r w1 ⟨x, rfl, hb, hl⟩
  rcases hb with ⟨h0, _⟩ | ⟨_, b2, off, cap, hx, h1, h2, hcell⟩
  · cases h0
  have hc : w1.cell? ⟨b2, off, none⟩ = some (.int .u8 x0) := by simpa using hcell 0 (by simp)
  have hx' : x = .slice (some ⟨b2, off, none⟩) 1 cap := hx
  rw [hx']
  clear hcell hx hx'
  go_wp2
  go_ret
  exact ⟨rfl, hl⟩

theorem and127b (z : Int) (h0 : 0 ≤ z) (h1 : z < 256) : bits .and .u8 z 127 = ((z.toNat % 128 : Nat) : Int) := by
  obtain ⟨a, rfl⟩ := Int.eq_ofNat_of_zero_le h0
  have : ∀ a : Fin 256, bits .and .u8 (a.val : Int) 127 = ((a.val % 128 : Nat) : Int) := by decide +kernel
  exact this ⟨a, by omega⟩
theorem orStepF (U k : Nat) (z : Int) (h0 : 0 ≤ z) (h1 : z < 256) (hk : k ≤ 9) (hU : U < 128 ^ k) (h9 : k = 9 → z.toNat % 128 ≤ 1) :
    bits .or .u64 (U : Int) (IntKind.u64.wrap (IntKind.u64.wrap (bits .and .u8 z 127) * 2 ^ (7 * k))) = ((U + (z.toNat % 128) * 128 ^ k : Nat) : Int) := by
  rw [and127b z h0 h1, ← andNot128 z h0 h1]
  exact orStep U k z h0 h1 hk hU h9

set_option maxHeartbeats 1600000 in
theorem fnum_any (b : Nat) (v : Value) (zs : List Int) (w : World) (hr : Rf w b v zs 0) (hz : Byt zs) :
    Calls Tryz.prog 91 #[.pointer (some ⟨b, 0, none⟩)] w fun r w' => r = .returned (.int .i64 (numR 10 0 0 zs).1) ∧ Fleft w b v w' (numR 10 0 0 zs).2.1 (numR 10 0 0 zs).2.2 := by
  generalize hres : numR 10 0 0 zs = res
  have HR : Hid (numR 10 0 0 zs = res) := hres
  clear hres
  go_enter Tryz.func91, Tryz.ntmps91
  go_wp2
  go_loopw [3, 4] (fun u i wr => ∃ (k : Nat) (U : Int) (v1 : Value) (zs1 : List Int), k ≤ 10 ∧ i = .int .i64 k ∧ u = .int .u64 U ∧ Rf wr b v1 zs1 0 ∧ Byt zs1 ∧ Rstep b w wr ∧ (v1.ownBlock = v.ownBlock ∨ v1.ownBlock = none) ∧ (∃ U' : Nat, (k ≤ 9 → U = U' ∧ U' < 128 ^ k) ∧ Hid (numR (10 - k) k U' zs1 = res))) (fun _ i _ => 10 - (intOf i).toNat)
  case atStart => exact ⟨0, 0, v, zs, by decide, rfl, rfl, hr, hz, Rstep.refl _ _, Or.inl rfl, 0, fun _ => ⟨rfl, by decide⟩, HR⟩
  case round =>
    obtain ⟨k, U, v1, zs1, hk, rfl, rfl, hr1, hz1, hs1, ho1, U', hU, HR1⟩ := hrel
    by_cases hk10 : k = 10
    · subst hk10
      have HF : Hid (res = (0, [], 3)) := by show _ = _; rw [← HR1.out]; rfl
      have hc0 := hr1.cell0
      have hc1 := hr1.cell1
      have hf0 := hr1.frozen 0
      have hf1 := hr1.frozen 1
      have R1 := hr1.set1 (e' := 3)
      have R2 := R1.1.set0 (Bs_nil _) (by simp [Value.ownBlock])
      clear HR HR1 hU
      go_wp2
      go_ret
      rw [HF.out]
      exact ⟨rfl, _, R2.1, (hs1.trans R1.2).trans R2.2, Or.inr rfl⟩
    obtain ⟨rfl, hU1⟩ := hU (by omega)
    obtain ⟨f, hf⟩ : ∃ f, 10 - k = f + 1 := ⟨9 - k, by omega⟩
    rw [hf] at HR1
    have hf2 : f = 10 - (k + 1) := by omega
    have hklt : k < 10 := by omega
    clear hU hf
    cases zs1 with
    | nil =>
      have HF : Hid (res = (0, [], 2)) := by show _ = _; rw [← HR1.out]; rfl
      have HB : Hid (Calls Tryz.prog 116 #[.pointer (some ⟨b, 0, none⟩)] wr fun r w' => r = .returned (.int .u8 0) ∧ Fleft wr b v1 w' [] 2) := fbyte_u b v1 [] 0 _ hr1 (Or.inl rfl)
      clear HR HR1
      go_wp2_with fail
      refine HB.out.mono ?_
      rintro e w1 ⟨rfl, v2, hr2, hs2, hv2⟩
      have hc1 := hr2.cell1
      go_wp2
      go_ret
      rw [HF.out]
      exact ⟨rfl, v2, hr2, hs1.trans hs2, by rcases hv2 with h | h; rw [h]; exact ho1; exact Or.inr h⟩
    | cons z r =>
      obtain ⟨hz0, hz256⟩ := hz1 z (by simp)
      have hzr : Byt r := fun y hy => hz1 y (by simp [hy])
      have HB : Hid (Calls Tryz.prog 116 #[.pointer (some ⟨b, 0, none⟩)] wr fun rr w' => rr = .returned (.int .u8 z) ∧ Fleft wr b v1 w' r 0) := by
        have := fbyte_u b v1 (z :: r) 0 _ hr1 (Or.inl rfl)
        rw [rowR_yes (by simp)] at this
        exact this
      by_cases hz128 : 128 ≤ z
      · have HR2 : Hid (numR f (k + 1) (U' + (z.toNat % 128) * 128 ^ k) r = res) := by
          show _ = _
          rw [← HR1.out, numR_more hz128]
        have HO : Hid (k + 1 ≤ 9 → bits .or .u64 (U' : Int) (IntKind.u64.wrap (IntKind.u64.wrap (bits .and .u8 z 127) * 2 ^ (7 * k))) = ((U' + (z.toNat % 128) * 128 ^ k : Nat) : Int) ∧ U' + (z.toNat % 128) * 128 ^ k < 128 ^ (k + 1)) := by
          intro hk9
          refine ⟨orStepF U' k z hz0 hz256 (by omega) hU1 (by omega), ?_⟩
          have : (z.toNat % 128) * 128 ^ k ≤ 127 * 128 ^ k := Nat.mul_le_mul_right _ (by omega)
          rw [Nat.pow_succ]
          omega
        clear HR HR1
        go_wp2_with fail
        refine HB.out.mono ?_
        rintro e w1 ⟨rfl, v2, hr2, hs2, hv2⟩
        have hc1 := hr2.cell1
        go_wp2_with fail
        go_roundw
        case rel => exact ⟨k + 1, _, v2, r, by omega, by go_num, rfl, hr2, hzr, hs1.trans hs2, by rcases hv2 with h | h; rw [h]; exact ho1; exact Or.inr h, _, HO.out, by rw [← hf2]; exact HR2⟩
        case measure => simp [intOf]; omega
      · have hz128' : z < 128 := by omega
        cases hbad : badB k z with
        | true =>
          have HF : Hid (res = (0, [], 3)) := by show _ = _; rw [← HR1.out, numR_bad hz128 hbad]
          clear HR HR1
          by_cases h1 : k = 9 ∧ 1 < z
          · obtain ⟨rfl, h2⟩ := h1
            clear hbad
            go_wp2_with fail
            refine HB.out.mono ?_
            rintro e w1 ⟨rfl, v2, hr2, hs2, hv2⟩
            have hc0 := hr2.cell0
            have hc1 := hr2.cell1
            have hf0 := hr2.frozen 0
            have hf1 := hr2.frozen 1
            have R1 := hr2.set1 (e' := 3)
            have R2 := R1.1.set0 (Bs_nil _) (by simp [Value.ownBlock])
            go_wp2
            go_ret
            rw [HF.out]
            exact ⟨rfl, _, R2.1, ((hs1.trans hs2).trans R1.2).trans R2.2, Or.inr rfl⟩
          · have h2 : k ≠ 0 ∧ z = 0 := by
              simp [badB] at hbad
              omega
            obtain ⟨hk0, rfl⟩ := h2
            have hk0' : 0 < k := by omega
            clear hbad h1
            by_cases h9 : k = 9
            · subst h9
              go_wp2_with fail
              refine HB.out.mono ?_
              rintro e w1 ⟨rfl, v2, hr2, hs2, hv2⟩
              have hc0 := hr2.cell0
              have hc1 := hr2.cell1
              have hf0 := hr2.frozen 0
              have hf1 := hr2.frozen 1
              have R1 := hr2.set1 (e' := 3)
              have R2 := R1.1.set0 (Bs_nil _) (by simp [Value.ownBlock])
              go_wp2
              go_ret
              rw [HF.out]
              exact ⟨rfl, _, R2.1, ((hs1.trans hs2).trans R1.2).trans R2.2, Or.inr rfl⟩
            · have h9' : ((k : Int) == 9) = false := by simp; omega
              go_wp2_with fail
              refine HB.out.mono ?_
              rintro e w1 ⟨rfl, v2, hr2, hs2, hv2⟩
              have hc0 := hr2.cell0
              have hc1 := hr2.cell1
              have hf0 := hr2.frozen 0
              have hf1 := hr2.frozen 1
              have R1 := hr2.set1 (e' := 3)
              have R2 := R1.1.set0 (Bs_nil _) (by simp [Value.ownBlock])
              go_wp2
              go_ret
              rw [HF.out]
              exact ⟨rfl, _, R2.1, ((hs1.trans hs2).trans R1.2).trans R2.2, Or.inr rfl⟩
        | false =>
          have HF : Hid (res = (unfoldI (U' + z.toNat * 128 ^ k), r, 0)) := by show _ = _; rw [← HR1.out, numR_good hz128 hbad]
          have hm : z.toNat % 128 = z.toNat := by omega
          have h9 : k = 9 → z.toNat % 128 ≤ 1 := by
            intro e
            simp [badB] at hbad
            have := hbad.1 e
            omega
          have ho := orStepF U' k z hz0 hz256 (by omega) hU1 h9
          have hfs := fits_step k (z.toNat % 128) (by omega) (by omega) h9
          have hp9 := pow_le9 k (by omega)
          rw [hm] at ho hfs
          have hN : U' + z.toNat * 128 ^ k < 18446744073709551616 := by omega
          generalize U' + z.toNat * 128 ^ k = N at *
          have HO : Hid (bits .or .u64 (U' : Int) (IntKind.u64.wrap (IntKind.u64.wrap (bits .and .u8 z 127) * 2 ^ (7 * k))) = (N : Int)) := ho
          have HD : Hid ((N % 2 = 1 → -((N : Int) / 2) - 1 = unfoldI N) ∧ (¬ N % 2 = 1 → (N : Int) / 2 = unfoldI N)) := by
            refine ⟨fun h => ?_, fun h => ?_⟩
            · rw [unfoldI_odd h]; omega
            · rw [unfoldI_even h]; omega
          have hbd : (k = 9 → z ≤ 1) ∧ (k = 0 ∨ z ≠ 0) := by
            simp [badB] at hbad
            exact ⟨hbad.1, by by_cases h : k = 0; exact Or.inl h; exact Or.inr (hbad.2 h)⟩
          clear HR HR1 ho hfs hp9 hm hbad h9
          have hpar : (N % 2 = 1 ∧ ((N : Int) % 2 == 0) = false) ∨ (¬ N % 2 = 1 ∧ ((N : Int) % 2 == 0) = true) := by
            by_cases h : N % 2 = 1
            · exact Or.inl ⟨h, by simp; omega⟩
            · exact Or.inr ⟨h, by simp; omega⟩
          by_cases h9 : k = 9
          · subst h9
            have hz1' := hbd.1 rfl
            rw [show (2 : Int) ^ (7 * 9) = 9223372036854775808 from by decide] at HO
            have hz2 : (z == 0) = false := by simp; rcases hbd.2 with h | h; cases h; exact h
            clear hbd
            rcases hpar with ⟨hp, hq⟩ | ⟨hp, hq⟩
            · have HE : Hid (-((N : Int) / 2) - 1 = unfoldI N) := HD.out.1 hp
              clear hp HD
              go_wp2_with fail
              refine HB.out.mono ?_
              rintro e w1 ⟨rfl, v2, hr2, hs2, hv2⟩
              have hc1 := hr2.cell1
              have hO := HO.out
              go_wp2
              go_ret
              rw [HF.out]
              exact ⟨ret_int HE.out, v2, hr2, hs1.trans hs2, by rcases hv2 with h | h; rw [h]; exact ho1; exact Or.inr h⟩
            · have HE : Hid ((N : Int) / 2 = unfoldI N) := HD.out.2 hp
              clear hp HD
              go_wp2_with fail
              refine HB.out.mono ?_
              rintro e w1 ⟨rfl, v2, hr2, hs2, hv2⟩
              have hc1 := hr2.cell1
              have hO := HO.out
              go_wp2
              go_ret
              rw [HF.out]
              exact ⟨ret_int HE.out, v2, hr2, hs1.trans hs2, by rcases hv2 with h | h; rw [h]; exact ho1; exact Or.inr h⟩
          · have h9' : ((k : Int) == 9) = false := by simp; omega
            by_cases h0 : k = 0
            · subst h0
              rw [show (2 : Int) ^ (7 * 0) = 1 from by decide, Int.mul_one] at HO
              clear hbd
              rcases hpar with ⟨hp, hq⟩ | ⟨hp, hq⟩
              · have HE : Hid (-((N : Int) / 2) - 1 = unfoldI N) := HD.out.1 hp
                clear hp HD
                go_wp2_with fail
                refine HB.out.mono ?_
                rintro e w1 ⟨rfl, v2, hr2, hs2, hv2⟩
                have hc1 := hr2.cell1
                have hO := HO.out
                go_wp2
                go_ret
                rw [HF.out]
                exact ⟨ret_int HE.out, v2, hr2, hs1.trans hs2, by rcases hv2 with h | h; rw [h]; exact ho1; exact Or.inr h⟩
              · have HE : Hid ((N : Int) / 2 = unfoldI N) := HD.out.2 hp
                clear hp HD
                go_wp2_with fail
                refine HB.out.mono ?_
                rintro e w1 ⟨rfl, v2, hr2, hs2, hv2⟩
                have hc1 := hr2.cell1
                have hO := HO.out
                go_wp2
                go_ret
                rw [HF.out]
                exact ⟨ret_int HE.out, v2, hr2, hs1.trans hs2, by rcases hv2 with h | h; rw [h]; exact ho1; exact Or.inr h⟩
            · have hk0 : 0 < k := by omega
              have hz2 : (z == 0) = false := by simp; rcases hbd.2 with h | h; exact absurd h h0; exact h
              clear hbd
              rcases hpar with ⟨hp, hq⟩ | ⟨hp, hq⟩
              · have HE : Hid (-((N : Int) / 2) - 1 = unfoldI N) := HD.out.1 hp
                clear hp HD
                go_wp2_with fail
                refine HB.out.mono ?_
                rintro e w1 ⟨rfl, v2, hr2, hs2, hv2⟩
                have hc1 := hr2.cell1
                have hO := HO.out
                go_wp2
                go_ret
                rw [HF.out]
                exact ⟨ret_int HE.out, v2, hr2, hs1.trans hs2, by rcases hv2 with h | h; rw [h]; exact ho1; exact Or.inr h⟩
              · have HE : Hid ((N : Int) / 2 = unfoldI N) := HD.out.2 hp
                clear hp HD
                go_wp2_with fail
                refine HB.out.mono ?_
                rintro e w1 ⟨rfl, v2, hr2, hs2, hv2⟩
                have hc1 := hr2.cell1
                have hO := HO.out
                go_wp2
                go_ret
                rw [HF.out]
                exact ⟨ret_int HE.out, v2, hr2, hs1.trans hs2, by rcases hv2 with h | h; rw [h]; exact ho1; exact Or.inr h⟩

theorem fnum_err (b : Nat) (v : Value) (e : Int) (w : World) (hr : Rf w b v [] e) (he : e ≠ 0) :
    Calls Tryz.prog 91 #[.pointer (some ⟨b, 0, none⟩)] w fun r w' => r = .returned (.int .i64 0) ∧ Fleft w b v w' [] e := by
  have HB : Hid (Calls Tryz.prog 116 #[.pointer (some ⟨b, 0, none⟩)] w fun r w' => r = .returned (.int .u8 0) ∧ Fleft w b v w' [] e) := by
    have := fbyte_u b v [] e _ hr (Or.inr rfl)
    rw [rowR_err he] at this
    exact this
  have hne2 : (e != 0) = true := by simp [he]
  go_enter Tryz.func91, Tryz.ntmps91
  go_wp2
  refine wp_loop_rounds 1 ?_
  rw [rounds_succ]
  go_wp2_with fail
  refine HB.out.mono ?_
  rintro r w1 ⟨rfl, v2, hr2, hs2, hv2⟩
  have hc1 := hr2.cell1
  go_wp2
  go_ret
  exact ⟨rfl, v2, hr2, hs2, hv2⟩
end Go.Proofs.YtnkjhooeklodcaaGreatDoor.Fr
end
