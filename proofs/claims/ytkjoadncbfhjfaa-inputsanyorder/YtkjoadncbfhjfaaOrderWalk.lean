/-
  InputsAnyOrder's own walk.
-/
import Derived.Test.YtkjoadncbfhjfaaOrderS
import Derived.Deep.DeepCutAuto
import Derived.Deep.CutBlock
namespace Go.Proofs.Ytkjoadncbfhjfaa
open Go.RowKit
theorem Og.from_drew {G : Nat → Prop} {w w' : World} (h : Og G w.drew w') : Og G w w' := ⟨h.os, h.tape, h.output, h.size, h.block⟩
set_option maxRecDepth 20000 in
theorem order_out (a0 : Option Addr) (len0 cap0 : Nat) (a1 : Option Addr) (len1 cap1 : Nat) (a2 : Option Addr) (len2 cap2 : Nat) (w : World) (h : 60 < len0 ∨ 60 < len1) :
    Calls Try.prog 4 #[.slice a0 len0 cap0, .slice a1 len1 cap1, .slice a2 len2 cap2] w fun e w' => e = .returned (.bool true) ∧ Below w.heap.size w w' := by
  have C := known_any w
  by_cases h1 : 60 < (len0 : Int)
  · clear h
    go_enter Try.func4, Try.ntmps4
    go_wp2_with (go_at_call 7; refine C.mono ?_; rintro e w1 ⟨rfl, hb⟩)
    go_ret
    exact ⟨rfl, hb⟩
  · have h2 : 60 < (len1 : Int) := by omega
    clear h
    go_enter Try.func4, Try.ntmps4
    go_wp2_with (go_at_call 7; refine C.mono ?_; rintro e w1 ⟨rfl, hb⟩)
    go_ret
    exact ⟨rfl, hb⟩
set_option maxHeartbeats 4000000 in
set_option maxRecDepth 20000 in
theorem order_in (a0 : Option Addr) (len0 cap0 : Nat) (xs : List Int) (a1 : Option Addr) (len1 cap1 : Nat) (ys : List Int) (a2 : Option Addr) (len2 cap2 : Nat) (ps : List Int) (w : World) (r0 : Rw w 1 u16c a0 len0 cap0 xs) (r1 : Rw w 1 u16c a1 len1 cap1 ys) (r2 : Rw w 1 i64c a2 len2 cap2 ps)
    (gx : ∀ z ∈ xs, 0 ≤ z ∧ z < 65536) (gy : ∀ z ∈ ys, 0 ≤ z ∧ z < 65536) (h0 : len0 ≤ 60) (h1 : len1 ≤ 60) :
    Calls Try.prog 4 #[.slice a0 len0 cap0, .slice a1 len1 cap1, .slice a2 len2 cap2] w fun e w' => e = .returned (.bool true) ∧ Below w.heap.size w w' := by
  have C := hid_into (new_any w 60 (by decide) (by decide))
  have R0 := hid_into r0
  have R1 := hid_into r1
  have R2 := hid_into r2
  have GX := hid_into gx
  have GY := hid_into gy
  have hm2 : (len2 : Int) ≤ 9223372036854775807 := by have := r2.le; have := r2.mx; unfold maxLen at this; omega
  clear r0 r1 r2 gx gy
  have h0' : ¬ 60 < (len0 : Int) := by omega
  have h1' : ¬ 60 < (len1 : Int) := by omega
  go_enter Try.func4, Try.ntmps4
  go_wp2_with (go_at_call 8; refine C.out.mono ?_; rintro e w1 ⟨qb, g0, g1, rfl, hq, hb, hs⟩)
  go_loopw [9, 10] (fun tv ti wr => ∃ k : Nat, k ≤ len0 ∧ ti = .int .i64 (k : Int) ∧ Hid (Rt wr (w.heap.size + 3) tv (tlk 0 xs k) ∧ Below (w.heap.size + 3) w1 wr ∧ w.heap.size + 3 ≤ wr.heap.size)) (fun _ ti _ => len0 - (intOf ti).toNat)
  case atStart => exact ⟨0, Nat.zero_le _, rfl, Ro.nil _ _, Below.refl _ _, by omega⟩
  case round =>
    obtain ⟨k, hk, rfl, HH⟩ := hrel
    by_cases hlt : k < len0
    · have hlt2 : (k : Int) < (len0 : Int) := by omega
      obtain ⟨ho, hbw, hsz⟩ := HH
      have hx : xs[k]? = some (xs.getD k 0) := getD_some (by rw [R0.out.len]; exact hlt)
      obtain ⟨ga, oa, rfl, ca⟩ := (R0.out.below (hb.trans (hbw.mono (by omega))) (Nat.le_refl _)).at' k _ hx
      have da := ca 0 _ rfl
      simp only [Nat.mul_one, Nat.add_zero] at da
      obtain ⟨v', w', hr, h2, h3⟩ := tell1 ⟨0, (k : Nat), xs.getD k 0⟩ ho (by rw [tlk_len]; omega) hsz
      rw [← tlk_succ] at h2
      generalize xs.getD k 0 = x at *
      simp only at hr
      have HR := hid_into hr
      have H2 := hid_into h2
      have H3 := hid_into (hbw.trans h3)
      have H4 := hid_into (Nat.le_trans hsz h3.size)
      have HB := hid_into hb
      have HQ := hid_into hq
      clear ca hx hr h2 h3 ho hbw hsz hb hq
      go_wp2_with (refine wpList_append_eq (w' := w') rfl 22 (.tmp 41) (.tmp 48) rfl _ _ v' (by rfl) (by rfl) ?_ ?_; exact HR.out)
      go_roundw
      case rel => exact ⟨k + 1, by omega, by go_num, H2.out, H3.out, H4.out⟩
      case measure => simp [intOf]; omega
    · obtain rfl : k = len0 := by omega
      clear hlt hk
      have HB := hid_into hb
      have HQ := hid_into hq
      have HS := hid_into hs
      clear hb hq hs
      go_wp2_with fail
      go_loopw [9, 11] (fun tv ti wr => ∃ j : Nat, j ≤ len1 ∧ ti = .int .i64 (j : Int) ∧ Hid (Rt wr (w.heap.size + 3) tv (tlk 0 xs k ++ tlk 1 ys j) ∧ Below (w.heap.size + 3) w1 wr ∧ w.heap.size + 3 ≤ wr.heap.size)) (fun _ ti _ => len1 - (intOf ti).toNat)
      case atStart => exact ⟨0, Nat.zero_le _, rfl, by have := HH.out.1; simpa [tlk] using this, HH.out.2.1, HH.out.2.2⟩
      case round =>
        clear HH
        obtain ⟨j, hj, rfl, HH⟩ := hrel
        by_cases hlt : j < len1
        · have hlt2 : (j : Int) < (len1 : Int) := by omega
          obtain ⟨ho, hbw, hsz⟩ := HH
          have hx : ys[j]? = some (ys.getD j 0) := getD_some (by rw [R1.out.len]; exact hlt)
          obtain ⟨ga, oa, rfl, ca⟩ := (R1.out.below (HB.out.trans (hbw.mono (by omega))) (Nat.le_refl _)).at' j _ hx
          have da := ca 0 _ rfl
          simp only [Nat.mul_one, Nat.add_zero] at da
          obtain ⟨v', w', hr, h2, h3⟩ := tell1 ⟨1, (j : Nat), ys.getD j 0⟩ ho (by rw [List.length_append, tlk_len, tlk_len]; omega) hsz
          rw [List.append_assoc, ← tlk_succ] at h2
          generalize ys.getD j 0 = x at *
          simp only at hr
          have HR := hid_into hr
          have H2 := hid_into h2
          have H3 := hid_into (hbw.trans h3)
          have H4 := hid_into (Nat.le_trans hsz h3.size)
          clear ca hx hr h2 h3 ho hbw hsz
          go_wp2_with (refine wpList_append_eq (w' := w') rfl 22 (.tmp 56) (.tmp 63) rfl _ _ v' (by rfl) (by rfl) ?_ ?_; exact HR.out)
          go_roundw
          case rel => exact ⟨j + 1, by omega, by go_num, H2.out, H3.out, H4.out⟩
          case measure => simp [intOf]; omega
        · obtain rfl : j = len1 := by omega
          clear hlt hj
          have HO : Hid (Od w wr qb g0 g1 xs ys (all2 xs ys) (zeros 60) (zeros 60) u9) := by
            obtain ⟨ho, hbw, hsz⟩ := HH
            have e0 := R0.out.len
            have e1 := R1.out.len
            refine ⟨HQ.out.keep fun k _ hk => hbw.block k hk, HB.out.trans (hbw.mono (by omega)), hsz, ?_, rd_start0 (by omega), rd_start1 (by omega), dist_all _ _, fun t ht => ?_, fun t ht => ?_⟩
            · unfold all2; rw [e0, e1]; exact ho
            · rcases List.mem_append.1 ht with h1 | h1
              · obtain ⟨i, hi, rfl⟩ := tlk_mem.1 h1; exact Or.inl rfl
              · obtain ⟨i, hi, rfl⟩ := tlk_mem.1 h1; exact Or.inr rfl
            · rcases List.mem_append.1 ht with h1 | h1
              · obtain ⟨i, hi, rfl⟩ := tlk_mem.1 h1
                exact GX.out _ (List.mem_of_getElem? (getD_some hi))
              · obtain ⟨i, hi, rfl⟩ := tlk_mem.1 h1
                exact GY.out _ (List.mem_of_getElem? (getD_some hi))
          have HL : Hid ((all2 xs ys).length ≤ 120) := by
            have e0 := R0.out.len
            have e1 := R1.out.len
            show _ ≤ _
            unfold all2
            rw [List.length_append, tlk_len, tlk_len]; omega
          clear HH
          go_wp2_with fail
          go_loopw [9, 12] (fun tv ti wr => ∃ (i : Nat) (L : List To) (l0 l1 : List Pl), i ≤ 120 ∧ ti = .int .i64 (i : Int) ∧ Hid (i + L.length ≤ 120) ∧ Hid (Od w wr qb g0 g1 xs ys L l0 l1 tv)) (fun tv _ _ => slen tv)
          case atStart => exact ⟨0, _, _, _, by omega, rfl, by show _ ≤ _; have := HL.out; omega, HO⟩
          case round =>
            clear HO HL
            obtain ⟨i, L, l0, l1, hi, rfl, HL, HO⟩ := hrel
            obtain ⟨av, cv, rfl, hcm, hcl⟩ := HO.out.o.form
            by_cases hz : L = []
            · subst hz
              simp only [List.length_nil] at *
              have HQ2 := hid_into HO.out.q
              have HB2 := hid_into HO.out.b
              have HZ2 := hid_into HO.out.sz
              have D0 := hid_into HO.out.r0
              have D1 := hid_into HO.out.r1
              clear HO
              go_wp2_with fail
              go_loopw [14, 15] (fun tv ti wq => ∃ m : Nat, (m ≤ k ∧ m ≤ j) ∧ ti = .int .i64 (m : Int) ∧ Hid (Po wq (w.heap.size + 3) tv (wn xs ys m)) ∧ Hid (Qp wq w.heap.size (w.heap.size + 3) qb g0 g1 l0 l1) ∧ Hid (Below w.heap.size w wq) ∧ Hid (w.heap.size + 3 ≤ wq.heap.size)) (fun _ ti _ => k - (intOf ti).toNat)
              case atStart => exact ⟨0, ⟨Nat.zero_le _, Nat.zero_le _⟩, rfl, Po.nil _ _, HQ2, HB2, HZ2⟩
              case round =>
                clear HQ2 HB2 HZ2
                obtain ⟨m, ⟨hm0, hm1⟩, rfl, HP, HQ2, HB2, HZ2⟩ := hrel
                by_cases hlt : m < k ∧ m < j
                · obtain ⟨hk1, hj1⟩ := hlt
                  have hk1' : (m : Int) < (k : Int) := by omega
                  have hj1' : (m : Int) < (j : Int) := by omega
                  have hx : xs[m]? = some (xs.getD m 0) := getD_some (by rw [R0.out.len]; exact hk1)
                  have hy : ys[m]? = some (ys.getD m 0) := getD_some (by rw [R1.out.len]; exact hj1)
                  obtain ⟨ga, oa, rfl, _⟩ := (R0.out.below HB2.out (Nat.le_refl _)).at' m _ hx
                  obtain ⟨gb, ob, rfl, _⟩ := (R1.out.below HB2.out (Nat.le_refl _)).at' m _ hy
                  have CX : Hid (∀ W, Below w.heap.size w W → W.cell? ⟨ga, oa + m, none⟩ = some (.int .u16 (xs.getD m 0)) ∧ W.cell? ⟨gb, ob + m, none⟩ = some (.int .u16 (ys.getD m 0))) := by
                    intro W hW
                    obtain ⟨ga', oa', ea, ca⟩ := (R0.out.below hW (Nat.le_refl _)).at' m _ hx
                    obtain ⟨gb', ob', eb, cb⟩ := (R1.out.below hW (Nat.le_refl _)).at' m _ hy
                    cases ea
                    cases eb
                    have da := ca 0 _ rfl
                    have db := cb 0 _ rfl
                    simp only [Nat.mul_one, Nat.add_zero] at da db
                    exact ⟨da, db⟩
                  obtain ⟨v', w', hr, h2, h3⟩ := app1 (xs.getD m 0) (ys.getD m 0) HP.out (by rw [wn_len]; omega) HZ2.out
                  rw [← wn_succ] at h2
                  have H3 := hid_into (h3 _ (by omega) _ HB2.out)
                  have h4 := h3 _ (Nat.le_refl _) _ (Below.refl _ wr)
                  have H4 := hid_into (HQ2.out.keep fun k _ hk => h4.block k hk)
                  have H5 := hid_into (Nat.le_trans HZ2.out h4.size)
                  have H2 := hid_into h2
                  have HB3 : Below w.heap.size w (wr.alloc (.cells #[.int .u16 (xs.getD m 0), .int .u16 (ys.getD m 0)] 47)).drew := (HB2.out.alloc (by have := HZ2.out; omega) _).drew
                  have t0 := hid_into (CX.out _ HB2.out)
                  have t1 := hid_into (CX.out _ HB3)
                  have t2 := hid_into (CX.out _ H3.out)
                  clear h2 h3 h4 HB3 hx hy
                  generalize xs.getD m 0 = x at *
                  generalize ys.getD m 0 = y at *
                  have HR := hid_into hr
                  clear hr
                  go_wp2_with fail
                  go_region_held3 (fun u => u.cell? ⟨ga, oa + m, none⟩ = some (.int .u16 x) ∧ u.cell? ⟨gb, ob + m, none⟩ = some (.int .u16 y)) (first | exact t0.out | exact t1.out | exact t2.out)
                    (first | (refine step_append_eq rfl 41 (.tmp 163) (.tmp 173) rfl _ _ _ (by rfl) (by rfl) HR.out ?_))
                  go_wp2_with fail
                  go_roundw
                  case rel => exact ⟨m + 1, ⟨by omega, by omega⟩, by go_num, H2, H4, H3, H5⟩
                  case measure => simp [intOf]; omega
                · have e0 := R0.out.len
                  have e1 := R1.out.len
                  have K0 := known_any' HQ2.out 0
                  have K1 := known_any' HQ2.out 1
                  have KB := Both_any HQ2.out
                  have KP := Pairs_any HQ2.out
                  rw [show sel 0 l0 l1 = l0 from rfl, D0.out.end_kn, e0] at K0
                  rw [show sel 1 l0 l1 = l1 from rfl, D1.out.end_kn, e1] at K1
                  rw [D0.out.end_kn, D1.out.end_kn, e0, e1, show min k j = m by omega] at KB KP
                  rw [prs_wn D0.out D1.out m (by omega) (by omega)] at KP
                  have HWL : Hid ((wn xs ys m).length = m) := wn_len _ _ _
                  have hf := HP.out.form
                  rw [HWL.out] at hf
                  obtain ⟨ap, cp, rfl⟩ := hf
                  have HM : Hid (m ≤ 60) := by show _ ≤ _; omega
                  replace K0 := hid_into K0
                  replace K1 := hid_into K1
                  replace KB := hid_into KB
                  replace KP := hid_into KP
                  have OUT : Hid (∀ w2, Below wr.heap.size wr w2 → Ps w2 (.slice ap m cp) (wn xs ys m)) := by
                    intro w2 hb2
                    exact HP.out.ls.below hb2
                  clear e0 e1
                  by_cases hk1 : (m : Int) < (k : Int)
                  · have hj1 : ¬ (m : Int) < (j : Int) := by omega
                    clear hlt
                    go_wp2_with (first
                      | (go_at_call_of 14 (Value.int .i64 0); refine K0.out.mono ?_; rintro e w2 ⟨rfl, hw2⟩; replace hw2 := hw2.symm; subst hw2)
                      | (go_at_call 14; refine K1.out.mono ?_; rintro e w2 ⟨rfl, hw2⟩; replace hw2 := hw2.symm; subst hw2)
                      | (go_at_call 14; refine K0.out.mono ?_; rintro e w2 ⟨rfl, hw2⟩; replace hw2 := hw2.symm; subst hw2)
                      | (go_at_call 16; refine KB.out.mono ?_; rintro e w2 ⟨rfl, hw2⟩; replace hw2 := hw2.symm; subst hw2)
                      | (go_at_call 19; refine KP.out.mono ?_; rintro e w2 ⟨rfl, hc2, hb2, hs2⟩; replace hs2 := hid_into hs2; have CE := pairs_same w2 _ _ _ (Ps_of_prs hc2 (by rw [HWL.out]; have := HM.out; omega)) (OUT.out _ hb2) (by rw [HWL.out]; have := HM.out; omega); rw [HWL.out] at CE; replace CE := hid_into CE)
                      | (go_at_call 18; refine CE.out.mono ?_; rintro e w4 ⟨rfl, hb4⟩)
                      | (go_at_call 7; refine (known_any _).mono ?_; rintro e w5 ⟨rfl, hb5⟩))
                    go_ret
                    exact ⟨rfl, ((HB2.out.trans (hb2.mono HB2.out.size)).trans (hb4.mono (Nat.le_trans HB2.out.size hb2.size))).trans (hb5.mono (Nat.le_trans (Nat.le_trans HB2.out.size hb2.size) hb4.size))⟩
                  · clear hlt
                    go_wp2_with (first
                      | (go_at_call_of 14 (Value.int .i64 0); refine K0.out.mono ?_; rintro e w2 ⟨rfl, hw2⟩; replace hw2 := hw2.symm; subst hw2)
                      | (go_at_call 14; refine K1.out.mono ?_; rintro e w2 ⟨rfl, hw2⟩; replace hw2 := hw2.symm; subst hw2)
                      | (go_at_call 14; refine K0.out.mono ?_; rintro e w2 ⟨rfl, hw2⟩; replace hw2 := hw2.symm; subst hw2)
                      | (go_at_call 16; refine KB.out.mono ?_; rintro e w2 ⟨rfl, hw2⟩; replace hw2 := hw2.symm; subst hw2)
                      | (go_at_call 19; refine KP.out.mono ?_; rintro e w2 ⟨rfl, hc2, hb2, hs2⟩; replace hs2 := hid_into hs2; have CE := pairs_same w2 _ _ _ (Ps_of_prs hc2 (by rw [HWL.out]; have := HM.out; omega)) (OUT.out _ hb2) (by rw [HWL.out]; have := HM.out; omega); rw [HWL.out] at CE; replace CE := hid_into CE)
                      | (go_at_call 18; refine CE.out.mono ?_; rintro e w4 ⟨rfl, hb4⟩)
                      | (go_at_call 7; refine (known_any _).mono ?_; rintro e w5 ⟨rfl, hb5⟩))
                    go_ret
                    exact ⟨rfl, ((HB2.out.trans (hb2.mono HB2.out.size)).trans (hb4.mono (Nat.le_trans HB2.out.size hb2.size))).trans (hb5.mono (Nat.le_trans (Nat.le_trans HB2.out.size hb2.size) hb4.size))⟩
            · clear hcm hcl
              have hn : 0 < L.length := List.length_pos_iff.2 hz
              obtain ⟨n, hN⟩ : ∃ n, n = L.length := ⟨_, rfl⟩
              rw [← hN] at hn HL ⊢
              have HN := hid_into hN
              clear hN
              have hn2 : ¬ (n : Int) = 0 := by omega
              have hn3 : ¬ n = 0 := by omega
              have hn4 : (n : Int) ≤ 120 := by have := HL.out; omega
              have hn5 : 0 < (n : Int) := by omega
              have hi2 : (i : Int) ≤ 120 := by omega
              go_upto_if 73 with fail
              go_cut [13] (fun tk wx => ∃ K : Nat, K < n ∧ tk = .int .i64 (K : Int) ∧ wx = wr)
              case first =>
                by_cases hp : i < len2
                · have hp2 : (i : Int) < (len2 : Int) := by omega
                  obtain ⟨z, hz2⟩ : ∃ z, ps[i]? = some z := ⟨_, List.getElem?_eq_getElem (by rw [R2.out.len]; exact hp)⟩
                  obtain ⟨gp, op, rfl, cp⟩ := (R2.out.below HO.out.b (Nat.le_refl _)).at' i z hz2
                  have dp := cp 0 _ rfl
                  simp only [Nat.mul_one, Nat.add_zero] at dp
                  clear cp hz2
                  obtain ⟨q, hq, _⟩ := and64k z
                  obtain ⟨K, hK, hK2⟩ : ∃ K : Nat, K = q % n ∧ K < n := ⟨_, rfl, Nat.mod_lt _ hn⟩
                  have hT : (q : Int).tmod (n : Int) = (K : Int) := by rw [hK]; rfl
                  clear hK
                  go_wp2_with fail
                  go_meet
                  exact ⟨K, hK2, rfl, rfl⟩
                · have hp2 : ¬ (i : Int) < (len2 : Int) := by omega
                  go_wp2_with fail
                  go_meet
                  exact ⟨0, hn, rfl, rfl⟩
              case rest =>
                obtain ⟨K, hK2, rfl, rfl⟩ := hcut
                obtain ⟨g, cap, A, C, t, m0, m1, hv, hlc, hcm, hg1, hg2, hL, hA, hcell, hP1, hP2, hO⟩ := HO.out.round (K := K) (by rw [← HN.out]; exact hK2)
                simp only [Value.slice.injEq, true_and] at hv
                obtain ⟨rfl, rfl⟩ := hv
                rw [← HN.out] at hlc
                have HCE := hid_into hcell
                have HP1 := hid_into hP1
                have HP2 := hid_into hP2
                have HOD := hid_into hO
                have HLL := hid_into hL
                have HAL := hid_into hA
                have HG := hid_into (And.intro hg1 hg2)
                have HR3 := hid_into HO.out.o
                have HQ3 := hid_into HO.out.q
                have HB3 := hid_into HO.out.b
                have HS3 := hid_into HO.out.sz
                clear hcell hP1 hP2 hO hL hA hg1 hg2 HO hz
                unfold maxLen at hcm
                obtain ⟨p, f, x⟩ := t
                simp only at HCE HP1 HP2
                generalize HY : IntKind.u16.wrap (x + 1) = y at HP2
                have hK3 : (K : Int) < (n : Int) := by omega
                have t0 := hid_into (HCE.out wc rfl)
                have KEEP : Hid (∀ W w', Og (fun k => w.heap.size ≤ k ∧ k < w.heap.size + 3) W w' → W.heap[g]? = wc.heap[g]? → w'.heap[g]? = wc.heap[g]?) := fun W w' ho hW => (ho.block g (by have := HG.out; omega)).trans hW
                go_upto_region 21 with fail
                go_cut [140] (fun tb wx => tb = .bool false ∧ Hid (Qp wx w.heap.size (w.heap.size + 3) qb g0 g1 m0 m1) ∧ Hid (Og (fun k => w.heap.size ≤ k ∧ k < w.heap.size + 3) wc wx))
                case first =>
                  go_region_held3 (fun u => u.cell? ⟨g, K * 3, none⟩ = some (.int .i64 p) ∧ u.cell? ⟨g, K * 3 + 1, none⟩ = some (.int .i64 f) ∧ u.cell? ⟨g, K * 3 + 2, none⟩ = some (.int .u16 x)) (first | exact t0.out | exact t1.out | exact t2.out | exact t3.out)
                    (first
                      | (go_at_call 10; have hz1 := HP1.out; refine hz1.mono ?_; clear HP1; rintro e w5 ⟨rfl, hq5, ho5⟩; have k5 := hid_into (KEEP.out _ _ ho5 rfl); have t1 := hid_into (HCE.out _ k5.out))
                      | (go_at_call 10; have hq5' := hq5; clear hq5; refine (HP2.out _ hq5').1.mono ?_; rintro e w6 ⟨rfl, hq6, ho6⟩; have k6 := hid_into (KEEP.out _ _ ho6 k5.out); have t2 := hid_into (HCE.out _ k6.out))
                      | (go_at_call 10; have hq6' := hq6; clear hq6; refine (HP2.out _ hq6').2.mono ?_; rintro e w7 ⟨rfl, hq7, ho7⟩; have k7 := hid_into (KEEP.out _ _ ho7 k6.out); have t3 := hid_into (HCE.out _ k7.out)))
                  go_wp2_with fail
                  go_meet
                  exact ⟨rfl, hq7, ((ho5.trans ho6).trans ho7).from_drew⟩
                case rest =>
                rename World => W9
                obtain ⟨rfl, HQ9, HO9⟩ := hcut
                clear t0 KEEP HP1 HP2 HCE HY HQ3
                have hLL := HLL.out
                subst hLL
                have hKA : A.length = K := HAL.out
                have hNN : n = A.length + 1 + C.length := by have := HN.out; simp only [List.length_append, List.length_cons] at this; omega
                have RT := HR3.out
                have hk9 : W9.heap[g]? = wc.heap[g]? := HO9.out.block g (by have := HG.out; omega)
                have hB9 : w.heap.size + 3 ≤ W9.heap.size := by rw [HO9.out.size]; exact HS3.out
                have HB9 := hid_into (HB3.out.trans (HO9.out.below fun k hk => hk.1))
                obtain ⟨K1, hK1⟩ : ∃ K1, K1 = K + 1 := ⟨_, rfl⟩
                have hKA1 : A.length + 1 = K1 := by omega
                have hwK : IntKind.i64.wrap ((K : Int) + 1) = (K1 : Int) := by rw [IntKind.wrap_i64]; omega
                have hb1 : (0 : Int) ≤ (K1 : Int) := by omega
                have hb2 : (K1 : Int) ≤ (n : Int) := by omega
                have hb3 : (n : Int) ≤ (cv : Int) := by omega
                have hb4 : (0 : Int) ≤ (K : Int) := by omega
                have hb5 : (K : Int) ≤ (cv : Int) := by omega
                have hb6 : K ≤ cv := by omega
                have hb7 : K1 ≤ n := by omega
                have HK1 := hid_into hK1
                by_cases hcp : cv = K1
                · obtain ⟨v1, w1', v2, w2', r1, r2, ho, hb⟩ := retell RT hk9 hB9 (by have := HL.out; have := HN.out; omega) 0 (Or.inr (List.eq_nil_of_length_eq_zero (by omega)))
                  rw [hKA1] at r2
                  rw [hKA] at r1
                  have X1 := hid_into r1
                  have X2 := hid_into r2
                  have X3 := hid_into ho
                  have X4 := hid_into hb
                  have X5 := hid_into hB9
                  have hCl : C.length = n - K1 := by omega
                  rw [hCl] at X2
                  have XC := hid_into hCl
                  have XN := hid_into hNN
                  have XK := hid_into hKA1
                  clear r1 r2 ho hb hB9 hk9 RT hCl hNN hKA hKA1
                  clear hK1
                  have hnc : n = cv := by omega
                  subst hcp
                  subst hnc
                  simp only [Nat.sub_self] at X2
                  go_wp2_with fail
                  go_region_held3 (fun _ => True) (trivial)
                    (first
                      | (refine step_append_eq rfl 22 (.tmp 141) (.tmp 144) rfl _ _ _ (by rfl) (by rfl) X1.out ?_)
                      | (refine step_append_eq rfl 22 (.tmp 145) (.tmp 149) rfl _ _ _ (by rfl) (by rfl) X2.out ?_))
                  go_wp2_with fail
                  have HOE := hid_into (HOD.out w2' v2 (HQ9.out.keep fun k _ hk => X4.out.block k hk) (HB9.out.trans (X4.out.mono (by omega))) (Nat.le_trans X5.out X4.out.size) X3.out)
                  have HLE : Hid (i + 1 + (A ++ C).length ≤ 120) := by
                    have h1 := HL.out
                    have h2 := XN.out
                    show _ ≤ _
                    rw [List.length_append]; omega
                  go_roundw
                  case rel => exact ⟨i + 1, A ++ C, m0, m1, by have := HL.out; omega, by go_num, HLE, HOE⟩
                  case measure =>
                    obtain ⟨av, cp, rfl, _, _⟩ := X3.out.form
                    have h2 := XN.out
                    simp only [slen, List.length_append]; omega
                · obtain ⟨v1, w1', v2, w2', r1, r2, ho, hb⟩ := retell RT hk9 hB9 (by have := HL.out; have := HN.out; omega) (K1 * 3) (Or.inl (by rw [hKA1]))
                  rw [hKA1] at r2
                  rw [hKA] at r1
                  have X1 := hid_into r1
                  have X2 := hid_into r2
                  have X3 := hid_into ho
                  have X4 := hid_into hb
                  have X5 := hid_into hB9
                  have hCl : C.length = n - K1 := by omega
                  rw [hCl] at X2
                  have XC := hid_into hCl
                  have XN := hid_into hNN
                  have XK := hid_into hKA1
                  clear r1 r2 ho hb hB9 hk9 RT hCl hNN hKA hKA1
                  clear hK1
                  go_wp2_with fail
                  go_region_held3 (fun _ => True) (trivial)
                    (first
                      | (refine step_append_eq rfl 22 (.tmp 141) (.tmp 144) rfl _ _ _ (by rfl) (by rfl) X1.out ?_)
                      | (refine step_append_eq rfl 22 (.tmp 145) (.tmp 149) rfl _ _ _ (by rfl) (by rfl) X2.out ?_))
                  go_wp2_with fail
                  have HOE := hid_into (HOD.out w2' v2 (HQ9.out.keep fun k _ hk => X4.out.block k hk) (HB9.out.trans (X4.out.mono (by omega))) (Nat.le_trans X5.out X4.out.size) X3.out)
                  have HLE : Hid (i + 1 + (A ++ C).length ≤ 120) := by
                    have h1 := HL.out
                    have h2 := XN.out
                    show _ ≤ _
                    rw [List.length_append]; omega
                  go_roundw
                  case rel => exact ⟨i + 1, A ++ C, m0, m1, by have := HL.out; omega, by go_num, HLE, HOE⟩
                  case measure =>
                    obtain ⟨av, cp, rfl, _, _⟩ := X3.out.form
                    have h2 := XN.out
                    simp only [slen, List.length_append]; omega
theorem order_walk (a0 : Option Addr) (len0 cap0 : Nat) (xs : List Int) (a1 : Option Addr) (len1 cap1 : Nat) (ys : List Int) (a2 : Option Addr) (len2 cap2 : Nat) (ps : List Int) (w : World) (r0 : Rw w 1 u16c a0 len0 cap0 xs) (r1 : Rw w 1 u16c a1 len1 cap1 ys) (r2 : Rw w 1 i64c a2 len2 cap2 ps)
    (gx : ∀ z ∈ xs, 0 ≤ z ∧ z < 65536) (gy : ∀ z ∈ ys, 0 ≤ z ∧ z < 65536) :
    Calls Try.prog 4 #[.slice a0 len0 cap0, .slice a1 len1 cap1, .slice a2 len2 cap2] w fun e w' => e = .returned (.bool true) ∧ Below w.heap.size w w' := by
  by_cases h : 60 < len0 ∨ 60 < len1
  · exact order_out a0 len0 cap0 a1 len1 cap1 a2 len2 cap2 w h
  · exact order_in a0 len0 cap0 xs a1 len1 cap1 ys a2 len2 cap2 ps w r0 r1 r2 gx gy (by omega) (by omega)
end Go.Proofs.Ytkjoadncbfhjfaa
