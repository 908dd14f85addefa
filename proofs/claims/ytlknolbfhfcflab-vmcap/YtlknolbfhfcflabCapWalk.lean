/-
  VmCap's walk: the last frame ends it, by what cells 0 and 1 have; win ends it ahead of that.
-/
import Derived.Test.YtlknolbfhfcflabKnown
import Derived.Test.YtlknolbfhfcflabPlain2
import Derived.Test.YtlknolbfhfcflabStEq
namespace Go.Proofs.Ytlknolbfhfcflab
open Go.RowKit
theorem Lo_of_block {w : World} {B base : Nat} {l : List Ii} (hb : Cw w B (cells2 l) 24) (hm : l.length ≤ maxLen) (hB : base ≤ B) : Lo w base (.slice (some ⟨B, 0, none⟩) l.length l.length) l :=
  ⟨by rw [cells2_len], Or.inr ⟨B, l.length, _, rfl, hB, hb, Nat.le_refl _, hm, by simp [cells2_len], by simp only; exact List.take_of_length_le (by rw [cells2_len]; exact Nat.le_refl _)⟩⟩
set_option maxRecDepth 20000 in
set_option maxHeartbeats 4000000 in
theorem cap_walk (L a b win : Int) (ha : In32 a) (hb : In32 b) (w : World) : Calls Try.prog 3 #[.int .i64 L, .int .i32 a, .int .i32 b, .int .i64 win] w fun e w' => e = .returned (.bool true) ∧ Below w.heap.size w w' := by
  have v1 := ha.1
  have v2 := ha.2
  have v3 := hb.1
  have v4 := hb.2
  by_cases a1 : L < 1
  · go_enter Try.func3, Try.ntmps3
    go_wp2_with (go_at_call 9; refine (known_any _).mono ?_; rintro e w1 ⟨rfl, B1⟩)
    go_ret
    exact ⟨rfl, B1⟩
  by_cases a2 : 40 < L
  · go_enter Try.func3, Try.ntmps3
    go_wp2_with (go_at_call 9; refine (known_any _).mono ?_; rintro e w1 ⟨rfl, B1⟩)
    go_ret
    exact ⟨rfl, B1⟩
  by_cases a3 : win < 0
  · go_enter Try.func3, Try.ntmps3
    go_wp2_with (go_at_call 9; refine (known_any _).mono ?_; rintro e w1 ⟨rfl, B1⟩)
    go_ret
    exact ⟨rfl, B1⟩
  by_cases a4 : 3 < win
  · go_enter Try.func3, Try.ntmps3
    go_wp2_with (go_at_call 9; refine (known_any _).mono ?_; rintro e w1 ⟨rfl, B1⟩)
    go_ret
    exact ⟨rfl, B1⟩
  have HAB := hid_into (And.intro ha hb)
  have ST : ∀ W, Calls Try.prog 10 #[.int .u32 1] W fun e w' => e = .returned (.agg (stV (cst 0 0 0 false 0)).toArray) ∧ Below W.heap.size W w' := fun W => Start_any 1 W
  have HZ : Hid ((Try.prog.info? 31).bind (·.zero) = some (.agg zeroS.toArray)) := Try.zero31
  have ZS := zeroS_size
  have HWf : Hid (∀ i x y o g, In32 x → In32 y → (cst i x y o g).Wf) := fun i x y o g hx hy => cst_wf i x y o g hx hy
  have HMo : Hid (0 ≤ moreI a b ∧ moreI a b ≤ 2) := by show _ ∧ _; unfold moreI; split; omega; split <;> omega
  have HK : Hid (Kn w ((w.alloc (.cells #[.int .i64 1, .int .i64 a, .int .i64 3, .int .i64 0, .int .i64 1, .int .i64 b, .int .i64 3, .int .i64 1] 24)).alloc (.cells #[.slice (some ⟨w.heap.size, 0, none⟩) 4 4, .int .i64 L, .int .i64 20] 27)) (w.heap.size + 2) (w.heap.size + 1) (.slice (some ⟨w.heap.size, 0, none⟩) 4 4) L 20 (ccode a b)) := Kn.make w (ccode a b) L 20 (by show 4 ≤ 1000; omega)
  have chkC : Hid ((chk (ccode a b)).2 = 0) := by
    refine hid_into (chk_of (by show 4 ≤ 256; omega) ?_)
    intro z hz
    simp only [ccode, List.mem_cons, List.not_mem_nil, or_false] at hz
    rcases hz with rfl | rfl | rfl | rfl
    all_goals first | rfl | exact may_push _ ha | exact may_push _ hb
  by_cases hw3 : win = 3
  · subst hw3
    clear ha hb
    obtain ⟨N0, hN0⟩ : ∃ N0, N0 = w.heap.size + 2 := ⟨_, rfl⟩
    have H0 : Hid (Kn w ((w.alloc (.cells #[.int .i64 1, .int .i64 a, .int .i64 3, .int .i64 0, .int .i64 1, .int .i64 b, .int .i64 3, .int .i64 1] 24)).alloc (.cells #[.slice (some ⟨w.heap.size, 0, none⟩) 4 4, .int .i64 L, .int .i64 20] 27)) N0 (w.heap.size + 1) (.slice (some ⟨w.heap.size, 0, none⟩) 4 4) L 20 (ccode a b)) := by rw [hN0]; exact HK.out
    clear HK hN0
    obtain ⟨cv, hcv⟩ : ∃ cv, cv = Value.slice (some ⟨w.heap.size, 0, none⟩) 4 4 := ⟨_, rfl⟩
    go_enter Try.func3, Try.ntmps3
    go_upto_region 6 with fail
    generalize (w.alloc (.cells #[.int .i64 1, .int .i64 a, .int .i64 3, .int .i64 0, .int .i64 1, .int .i64 b, .int .i64 3, .int .i64 1] 24)).alloc (.cells #[.slice (some ⟨w.heap.size, 0, none⟩) 4 4, .int .i64 L, .int .i64 20] 27) = W0 at H0 ⊢
    generalize (Value.slice (some ⟨w.heap.size, 0, none⟩) 4 4) = cv at H0 ⊢
    go_wp2_with (first
      | (go_at_call 10; refine (ST _).mono ?_; rintro e wa ⟨rfl, Ba⟩; have HA := hid_into (H0.out.next Ba); clear Ba)
      | (refine wpList_alloc_row rfl 31 rfl zeroS HZ.out ?_; intro W5 hr5 B5 _; have hz5 := hid_into HA.out.size; replace HA := hid_into (HA.out.next B5))
      | (refine wpList_store_rw rfl 31 (.tmp 10) (.tmp 52) rfl wa.heap.size zeroS (stV (cst 0 0 0 false 0)) 31 rfl rfl ?_ ZS (st_len (HWf.out 0 0 0 false 0 zero_in zero_in)) (st_one (HWf.out 0 0 0 false 0 zero_in zero_in)).out ?_; exact hr5; intro W6 hr6 O6; replace HA := hid_into (HA.out.only O6 hz5.out); have hr7 := hid_into hr6; clear hr6 O6 hr5 B5))
    go_loopw [11] (fun iv wr => ∃ (k : Nat) (x y : Int) (o : Bool) (g : Int), (k : Int) ≤ L ∧ iv = .int .i64 (k : Int) ∧ Hid (In32 x ∧ In32 y) ∧ Hid ((o = false ∧ g = 0 ∧ (k : Int) < L) ∨ (o = true ∧ (k : Int) = L ∧ g = moreI a b)) ∧ Hid (Kn w wr N0 (w.heap.size + 1) cv L 20 (ccode a b)) ∧ Hid (Cw wr wa.heap.size (stV (cst k x y o g)) 31)) (fun iv _ => L.toNat - (intOf iv).toNat)
    case atStart => exact ⟨0, 0, 0, false, 0, by omega, rfl, ⟨zero_in, zero_in⟩, Or.inl ⟨rfl, rfl, by omega⟩, HA.out, hr7.out⟩
    case round =>
      clear HA hr7 H0
      obtain ⟨k, x, y, o, g, hk, rfl, HXY, HO, HA, hr7⟩ := hrel
      have g0 := HA.out.s.1
      have g1 := HA.out.s.2.1
      have g2 := HA.out.s.2.2
      have wk := HWf.out k x y o g HXY.out.1 HXY.out.2
      have CK := stV_c wk
      have t0 : wr.cell? ⟨wa.heap.size, 0, none⟩ = some (.int .i64 (k : Int)) := (hr7.out.cell 0).trans CK.frame
      have t18 : wr.cell? ⟨wa.heap.size, 18, none⟩ = some (.bool o) := (hr7.out.cell 18).trans CK.over
      have t19 : wr.cell? ⟨wa.heap.size, 19, none⟩ = some (.int .i64 g) := (hr7.out.cell 19).trans CK.win
      have Zk := st_size wk
      rcases HO.out with ⟨ho, hg, hkk⟩ | ⟨ho, hkk, hg⟩
      · subst ho
        subst hg
        obtain ⟨o1, g1', hstep, hnext⟩ : ∃ (o1 : Bool) (g1' : Int), stepF (ccode a b) L 20 (cst k x y false 0) 0 0 = (cst (k + 1) a b o1 g1', 0) ∧ ((o1 = false ∧ g1' = 0 ∧ ((k + 1 : Nat) : Int) < L) ∨ (o1 = true ∧ ((k + 1 : Nat) : Int) = L ∧ g1' = moreI a b)) := by
          by_cases hl : (k : Int) + 1 = L
          · exact ⟨true, moreI a b, cap_last k x y a b L ⟨by omega, hl⟩ (by omega) HAB.out.1 HAB.out.2, Or.inr ⟨rfl, by omega, rfl⟩⟩
          · exact ⟨false, 0, cap_on k x y a b L ⟨by omega, by omega⟩ (by omega) HAB.out.1 HAB.out.2, Or.inl ⟨rfl, rfl, by omega⟩⟩
        have HN := hid_into hnext
        have SPk : Hid (∀ W, Kn w W N0 (w.heap.size + 1) cv L 20 (ccode a b) → Calls Try.prog 11 #[.agg #[cv, .int .i64 L, .int .i64 20], .agg (stV (cst k x y false 0)).toArray, .agg #[.int .u16 0, .int .u16 0]] W fun r w' => r = .returned (.tuple #[.agg (stV (cst ((k : Int) + 1) a b o1 g1')).toArray, .int .i64 0]) ∧ Below W.heap.size W w') := fun W h => h.step _ _ _ _ _ wk (by omega) (by omega) hstep
        have w1 := HWf.out ((k : Int) + 1) a b o1 g1' HAB.out.1 HAB.out.2
        clear hstep hnext
        have Z1 := st_size w1
        have L1 := st_len w1
        have O1 := st_one w1
        have LL : Hid ((stV (cst (k : Int) x y false 0)).length = (stV (cst ((k : Int) + 1) a b o1 g1')).length) := by rw [(stV_c wk).len, (stV_c w1).len]; exact hid_into rfl
        have HS1 : Hid (stV (cst ((k + 1 : Nat) : Int) a b o1 g1') = stV (cst ((k : Int) + 1) a b o1 g1')) := hid_into rfl
        clear wk w1 CK
        generalize hs1 : stV (cst ((k : Int) + 1) a b o1 g1') = s1 at SPk Z1 L1 O1 LL HS1
        clear hs1
        generalize hsk : stV (cst (k : Int) x y false 0) = sk at SPk Zk LL hr7
        clear hsk
        go_wp2_with (first
          | (refine wpList_load_rw rfl 31 (.tmp 10) rfl wa.heap.size sk 31 _ rfl ?_ Try.underlying31 rfl Zk ?_; exact hr7.out)
          | (go_at_call 11; refine (SPk.out _ HA.out).mono ?_; rintro e wb ⟨rfl, Bb⟩; replace HA := hid_into (HA.out.next Bb); replace hr7 := hid_into (hr7.out.below Bb hr7.out.lt); clear Bb)
          | (refine wpList_alloc_row rfl 31 rfl zeroS HZ.out ?_; intro W8 hr8 B8 _; have hz8 := hid_into HA.out.size; have hlt8 := hid_into hr7.out.lt; replace HA := hid_into (HA.out.next B8); replace hr7 := hid_into (hr7.out.below B8 hr7.out.lt))
          | (refine wpList_store_rw rfl 31 (.tmp 12) (.tmp 66) rfl wb.heap.size zeroS s1 31 rfl rfl ?_ ZS L1 O1.out ?_; exact hr8; intro W9 hr9 O9; replace HA := hid_into (HA.out.only O9 hz8.out); replace hr7 := hid_into (O9.cw hr7.out (by have := hlt8.out; omega)); have hr9' := hid_into hr9; clear hr9 O9 B8 hr8)
          | (refine wpList_load_rw rfl 31 (.tmp 12) rfl wb.heap.size s1 31 _ rfl ?_ Try.underlying31 rfl Z1 ?_; exact hr9'.out)
          | (refine wpList_store_rw rfl 31 (.tmp 10) (.tmp 70) rfl wa.heap.size sk s1 31 rfl rfl ?_ Zk LL O1.out ?_; exact hr7.out; intro W10 hr10 O10; replace HA := hid_into (HA.out.only O10 hz5.out); have hr11 := hid_into hr10; clear hr10 O10))
        go_roundw
        case rel => exact ⟨k + 1, a, b, o1, g1', by omega, by go_num, HAB.out, HN.out, HA.out, hid_into (HS1.out ▸ hr11.out)⟩
        case measure => simp [intOf]; omega
      · subst ho
        have SPo : Hid (∀ W, Kn w W N0 (w.heap.size + 1) cv L 20 (ccode a b) → Calls Try.prog 11 #[.agg #[cv, .int .i64 L, .int .i64 20], .agg (stV (cst k x y true g)).toArray, .agg #[.int .u16 0, .int .u16 0]] W fun r w' => r = .returned (.tuple #[.agg zeroS.toArray, .int .i64 12]) ∧ Below W.heap.size W w') := fun W h => h.step _ noS _ _ _ wk (by omega) (by omega) (over_step _ chkC.out _ L ⟨by omega, by omega⟩ (by have hm := HMo.out; rw [hg]; simp only [isS, decide_eq_true_eq, cst]; exact ⟨by omega, by omega, by omega, by omega, Or.inl trivial⟩) (by show (1 : Int) ≠ 0; omega) rfl)
        have ZO : Hid (∀ v ∈ zeroS, v.oneCell' = true) := hid_into (by decide)
        have K0 := hid_into CK.frame
        have K18 := hid_into CK.over
        have K19 := hid_into CK.win
        simp only [cst] at K0 K18 K19
        clear wk CK
        rw [show (⟨(k : Int), [x, y, 0, 0, 0, 0, 0, 0, 0, 0, 0, 0, 0, 0, 0, 0], 1, true, g⟩ : Sp) = cst k x y true g from rfl] at K0 K18 K19
        generalize hsk : stV (cst k x y true g) = sk at SPo Zk hr7 K0 K18 K19
        clear hsk HO
        subst hg
        subst hkk
        by_cases m1 : b < a
        · have hmo : moreI a b = 0 := by unfold moreI; rw [if_neg (by omega), if_neg (by omega)]
          rw [hmo] at K19 t19
          go_wp2_with (first
            | (refine wpList_load_rw rfl 31 (.tmp 10) rfl wa.heap.size sk 31 _ rfl ?_ Try.underlying31 rfl Zk ?_; exact hr7.out)
            | (go_at_call 11; refine (SPo.out _ HA.out).mono ?_; rintro e wb ⟨rfl, Bb⟩; replace HA := hid_into (HA.out.next Bb); replace hr7 := hid_into (hr7.out.below Bb hr7.out.lt); clear Bb)
            | (refine wpList_alloc_row rfl 31 rfl zeroS HZ.out ?_; intro W8 hr8 B8 _; have hz8 := hid_into HA.out.size; have hlt8 := hid_into hr7.out.lt; replace HA := hid_into (HA.out.next B8); replace hr7 := hid_into (hr7.out.below B8 hr7.out.lt))
            | (refine wpList_store_rw rfl 31 (.tmp 14) (.tmp 78) rfl wb.heap.size zeroS zeroS 31 rfl rfl ?_ ZS (hid_into rfl) ZO.out ?_; exact hr8; intro W9 hr9 O9; replace HA := hid_into (HA.out.only O9 hz8.out); replace hr7 := hid_into (O9.cw hr7.out (by have := hlt8.out; omega)); have u0 := (hr7.out.cell 0).trans K0.out; have u18 := (hr7.out.cell 18).trans K18.out; have u19 := (hr7.out.cell 19).trans K19.out; clear hr9 O9 B8 hr8)
            | (go_at_call 9; refine (known_any _).mono ?_; rintro e wk ⟨rfl, Bk⟩; replace HA := hid_into (HA.out.next Bk); clear Bk))
          go_ret
          exact ⟨rfl, HA.out.below⟩
        · by_cases m2 : a < b
          · have hmo : moreI a b = 1 := by unfold moreI; rw [if_neg (by omega), if_pos m2]
            rw [hmo] at K19 t19
            go_wp2_with (first
              | (refine wpList_load_rw rfl 31 (.tmp 10) rfl wa.heap.size sk 31 _ rfl ?_ Try.underlying31 rfl Zk ?_; exact hr7.out)
              | (go_at_call 11; refine (SPo.out _ HA.out).mono ?_; rintro e wb ⟨rfl, Bb⟩; replace HA := hid_into (HA.out.next Bb); replace hr7 := hid_into (hr7.out.below Bb hr7.out.lt); clear Bb)
              | (refine wpList_alloc_row rfl 31 rfl zeroS HZ.out ?_; intro W8 hr8 B8 _; have hz8 := hid_into HA.out.size; have hlt8 := hid_into hr7.out.lt; replace HA := hid_into (HA.out.next B8); replace hr7 := hid_into (hr7.out.below B8 hr7.out.lt))
              | (refine wpList_store_rw rfl 31 (.tmp 14) (.tmp 78) rfl wb.heap.size zeroS zeroS 31 rfl rfl ?_ ZS (hid_into rfl) ZO.out ?_; exact hr8; intro W9 hr9 O9; replace HA := hid_into (HA.out.only O9 hz8.out); replace hr7 := hid_into (O9.cw hr7.out (by have := hlt8.out; omega)); have u0 := (hr7.out.cell 0).trans K0.out; have u18 := (hr7.out.cell 18).trans K18.out; have u19 := (hr7.out.cell 19).trans K19.out; clear hr9 O9 B8 hr8)
              | (go_at_call 9; refine (known_any _).mono ?_; rintro e wk ⟨rfl, Bk⟩; replace HA := hid_into (HA.out.next Bk); clear Bk))
            go_ret
            exact ⟨rfl, HA.out.below⟩
          · have hmo : moreI a b = 2 := by unfold moreI; rw [if_pos (by omega)]
            rw [hmo] at K19 t19
            go_wp2_with (first
              | (refine wpList_load_rw rfl 31 (.tmp 10) rfl wa.heap.size sk 31 _ rfl ?_ Try.underlying31 rfl Zk ?_; exact hr7.out)
              | (go_at_call 11; refine (SPo.out _ HA.out).mono ?_; rintro e wb ⟨rfl, Bb⟩; replace HA := hid_into (HA.out.next Bb); replace hr7 := hid_into (hr7.out.below Bb hr7.out.lt); clear Bb)
              | (refine wpList_alloc_row rfl 31 rfl zeroS HZ.out ?_; intro W8 hr8 B8 _; have hz8 := hid_into HA.out.size; have hlt8 := hid_into hr7.out.lt; replace HA := hid_into (HA.out.next B8); replace hr7 := hid_into (hr7.out.below B8 hr7.out.lt))
              | (refine wpList_store_rw rfl 31 (.tmp 14) (.tmp 78) rfl wb.heap.size zeroS zeroS 31 rfl rfl ?_ ZS (hid_into rfl) ZO.out ?_; exact hr8; intro W9 hr9 O9; replace HA := hid_into (HA.out.only O9 hz8.out); replace hr7 := hid_into (O9.cw hr7.out (by have := hlt8.out; omega)); have u0 := (hr7.out.cell 0).trans K0.out; have u18 := (hr7.out.cell 18).trans K18.out; have u19 := (hr7.out.cell 19).trans K19.out; clear hr9 O9 B8 hr8)
              | (go_at_call 9; refine (known_any _).mono ?_; rintro e wk ⟨rfl, Bk⟩; replace HA := hid_into (HA.out.next Bk); clear Bk))
            go_ret
            exact ⟨rfl, HA.out.below⟩
  · have chkW : Hid ((chk (wcode a b win)).2 = 0) := by
      refine hid_into (chk_of (by show 5 ≤ 256; omega) ?_)
      intro z hz
      simp only [wcode, List.mem_cons, List.not_mem_nil, or_false] at hz
      rcases hz with rfl | rfl | rfl | rfl | rfl
      all_goals first | rfl | exact may_push _ ha | exact may_push _ hb | (show decide (0 ≤ win ∧ win ≤ 2) = true; simp only [decide_eq_true_eq]; omega)
    have HMo : Hid (0 ≤ win ∧ win ≤ 2) := ⟨by omega, by omega⟩
    have hw4 : win < 3 := by omega
    clear ha hb
    have HLo : Hid (Lo ((w.alloc (.cells #[.int .i64 1, .int .i64 a, .int .i64 3, .int .i64 0, .int .i64 1, .int .i64 b, .int .i64 3, .int .i64 1] 24)).alloc (.cells #[.slice (some ⟨w.heap.size, 0, none⟩) 4 4, .int .i64 L, .int .i64 20] 27)) w.heap.size (.slice (some ⟨w.heap.size, 0, none⟩) 4 4) (ccode a b)) := Lo_of_block (l := ccode a b) ((Cw.new w (cells2 (ccode a b)) 24).alloc _) (by show 4 ≤ maxLen; decide) (Nat.le_refl _)
    have cG : ((w.alloc (.cells #[.int .i64 1, .int .i64 a, .int .i64 3, .int .i64 0, .int .i64 1, .int .i64 b, .int .i64 3, .int .i64 1] 24)).alloc (.cells #[.slice (some ⟨w.heap.size, 0, none⟩) 4 4, .int .i64 L, .int .i64 20] 27)).cell? ⟨(w.heap.size + 1), 0, none⟩ = some (.slice (some ⟨w.heap.size, 0, none⟩) 4 4) := HK.out.s.1
    have HNe : Hid ((Value.slice (some ⟨w.heap.size, 0, none⟩) 4 4).ownBlock ≠ some (w.heap.size + 1)) := by show _ ≠ _; simp [Value.ownBlock]
    go_enter Try.func3, Try.ntmps3
    go_upto_region 5 with fail
    generalize (w.alloc (.cells #[.int .i64 1, .int .i64 a, .int .i64 3, .int .i64 0, .int .i64 1, .int .i64 b, .int .i64 3, .int .i64 1] 24)).alloc (.cells #[.slice (some ⟨w.heap.size, 0, none⟩) 4 4, .int .i64 L, .int .i64 20] 27) = W0 at HK HLo cG ⊢
    generalize (Value.slice (some ⟨w.heap.size, 0, none⟩) 4 4) = sv at HK HLo cG HNe ⊢
    go_upto_region 6 with (refine wpList_append_ls _ rfl (.tmp 46) (.tmp 49) rfl w.heap.size sv (ccode a b) rfl ?_ (.slice (some ⟨W0.heap.size, 0, none⟩) 1 1) [((20 : Int), win)] rfl ?_ (by show 4 + 1 ≤ 1000000; omega) (by rw [World.size_alloc]; have := HK.out.below.size; omega) ?_; exact HLo.out.below ((Below.refl _ _).alloc (Nat.le_refl _) _); exact Ls_of_block (l := [((20 : Int), win)]) (Cw.new _ (cells2 [((20 : Int), win)]) _) (by show 1 ≤ maxLen; decide); intro ao2 cap2 W2 hown2 hgr2 hob2; have hG2 : Hid (Cw W2 (w.heap.size + 1) [sv, .int .i64 L, .int .i64 20] 27) := hid_into ((HK.out.g.alloc _).keep (hgr2.block _ (by rw [World.size_alloc]; have := HK.out.g.lt; omega) (by intro e; exact HNe.out e.symm))); have hB2 : Hid (Below w.heap.size w W2) := hid_into ((HK.out.below.alloc HK.out.below.size _).trans (Grows.below (Grows.grownBy hgr2 (F := fun k => w.heap.size ≤ k) (fun k e => (HLo.out.lt _ e).1)) (by rw [World.size_alloc]; have := HK.out.below.size; omega) (fun k hk => hk))); have c0 : W2.cell? ⟨(w.heap.size + 1), 0, none⟩ = some sv := (hG2.out.cell 0).trans rfl; have f0 := hG2.out.frozen 0)
    have H0 : Hid (Kn w (W2.setCell ⟨(w.heap.size + 1), 0, none⟩ (.slice ao2 ((ccode a b).length + 1) cap2)) W2.heap.size (w.heap.size + 1) (.slice ao2 ((ccode a b).length + 1) cap2) L 20 (wcode a b win)) := by
      have hlt := hG2.out.lt
      have hno : ∀ j, (Value.slice ao2 ((ccode a b).length + 1) cap2).ownBlock = some j → j ≠ w.heap.size + 1 := by
        intro j hj e
        subst e
        rcases hob2 with h1 | h1
        · exact HNe.out (h1.symm.trans hj)
        · have h2 := h1.symm.trans hj
          simp only [Option.some.injEq] at h2
          rw [World.size_alloc] at h2
          have := HK.out.g.lt
          omega
      refine ⟨hG2.out.set 0 _, ?_, hB2.out.trans ((Only.set _ _ _ _).below (by show w.heap.size ≤ w.heap.size + 1; omega)), hB2.out.size, hlt, fun j hj => (hown2.lt j hj).2, by simp [World.setCell]⟩
      have hls : Ls W2 (.slice ao2 ((ccode a b).length + 1) cap2) (wcode a b win) := hown2.ls
      exact hls.keep fun j hj _ => Below.heap_setCell _ _ _ _ (show j ≠ w.heap.size + 1 from hno j hj)
    clear HK HLo cG HNe hG2 hB2 c0 f0 hown2 hgr2 hob2
    generalize W2.setCell ⟨(w.heap.size + 1), 0, none⟩ (.slice ao2 ((ccode a b).length + 1) cap2) = W3 at H0 ⊢
    generalize W2.heap.size = N0 at H0
    generalize (Value.slice ao2 ((ccode a b).length + 1) cap2) = cv at H0 ⊢
    go_wp2_with (first
      | (go_at_call 10; refine (ST _).mono ?_; rintro e wa ⟨rfl, Ba⟩; have HA := hid_into (H0.out.next Ba); clear Ba)
      | (refine wpList_alloc_row rfl 31 rfl zeroS HZ.out ?_; intro W5 hr5 B5 _; have hz5 := hid_into HA.out.size; replace HA := hid_into (HA.out.next B5))
      | (refine wpList_store_rw rfl 31 (.tmp 10) (.tmp 52) rfl wa.heap.size zeroS (stV (cst 0 0 0 false 0)) 31 rfl rfl ?_ ZS (st_len (HWf.out 0 0 0 false 0 zero_in zero_in)) (st_one (HWf.out 0 0 0 false 0 zero_in zero_in)).out ?_; exact hr5; intro W6 hr6 O6; replace HA := hid_into (HA.out.only O6 hz5.out); have hr7 := hid_into hr6; clear hr6 O6 hr5 B5))
    go_loopw [11] (fun iv wr => ∃ (k : Nat) (x y : Int) (o : Bool) (g : Int), (k : Int) ≤ L ∧ iv = .int .i64 (k : Int) ∧ Hid (In32 x ∧ In32 y) ∧ Hid ((o = false ∧ g = 0 ∧ k = 0) ∨ (o = true ∧ k = 1 ∧ g = win)) ∧ Hid (Kn w wr N0 (w.heap.size + 1) cv L 20 (wcode a b win)) ∧ Hid (Cw wr wa.heap.size (stV (cst k x y o g)) 31)) (fun iv _ => L.toNat - (intOf iv).toNat)
    case atStart => exact ⟨0, 0, 0, false, 0, by omega, rfl, ⟨zero_in, zero_in⟩, Or.inl ⟨rfl, rfl, rfl⟩, HA.out, hr7.out⟩
    case round =>
      clear HA hr7 H0
      obtain ⟨k, x, y, o, g, hk, rfl, HXY, HO, HA, hr7⟩ := hrel
      have g0 := HA.out.s.1
      have g1 := HA.out.s.2.1
      have g2 := HA.out.s.2.2
      have wk := HWf.out k x y o g HXY.out.1 HXY.out.2
      have CK := stV_c wk
      have t0 : wr.cell? ⟨wa.heap.size, 0, none⟩ = some (.int .i64 (k : Int)) := (hr7.out.cell 0).trans CK.frame
      have t18 : wr.cell? ⟨wa.heap.size, 18, none⟩ = some (.bool o) := (hr7.out.cell 18).trans CK.over
      have t19 : wr.cell? ⟨wa.heap.size, 19, none⟩ = some (.int .i64 g) := (hr7.out.cell 19).trans CK.win
      have Zk := st_size wk
      rcases HO.out with ⟨ho, hg, hkk⟩ | ⟨ho, hkk, hg⟩
      · subst ho
        subst hg
        have hk0 : (k : Int) = 0 := by omega
        have SPk : Hid (∀ W, Kn w W N0 (w.heap.size + 1) cv L 20 (wcode a b win) → Calls Try.prog 11 #[.agg #[cv, .int .i64 L, .int .i64 20], .agg (stV (cst (k : Int) x y false 0)).toArray, .agg #[.int .u16 0, .int .u16 0]] W fun r w' => r = .returned (.tuple #[.agg (stV (cst 1 a b true win)).toArray, .int .i64 0]) ∧ Below W.heap.size W w') := fun W h => h.step _ _ _ _ _ wk (by omega) (by omega) (by rw [hk0]; exact win_step x y a b win L ⟨by omega, by omega⟩ ⟨by omega, by omega⟩ HAB.out.1 HAB.out.2)
        have w1 := HWf.out 1 a b true win HAB.out.1 HAB.out.2
        have Z1 := st_size w1
        have L1 := st_len w1
        have O1 := st_one w1
        have LL : Hid ((stV (cst (k : Int) x y false 0)).length = (stV (cst 1 a b true win)).length) := by rw [(stV_c wk).len, (stV_c w1).len]; exact hid_into rfl
        have HS1 : Hid (stV (cst ((k + 1 : Nat) : Int) a b true win) = stV (cst 1 a b true win)) := by show _ = _; rw [show ((k + 1 : Nat) : Int) = 1 by omega]
        clear wk w1 CK
        generalize hs1 : stV (cst 1 a b true win) = s1 at SPk Z1 L1 O1 LL HS1
        clear hs1
        generalize hsk : stV (cst (k : Int) x y false 0) = sk at SPk Zk LL hr7
        clear hsk
        go_wp2_with (first
          | (refine wpList_load_rw rfl 31 (.tmp 10) rfl wa.heap.size sk 31 _ rfl ?_ Try.underlying31 rfl Zk ?_; exact hr7.out)
          | (go_at_call 11; refine (SPk.out _ HA.out).mono ?_; rintro e wb ⟨rfl, Bb⟩; replace HA := hid_into (HA.out.next Bb); replace hr7 := hid_into (hr7.out.below Bb hr7.out.lt); clear Bb)
          | (refine wpList_alloc_row rfl 31 rfl zeroS HZ.out ?_; intro W8 hr8 B8 _; have hz8 := hid_into HA.out.size; have hlt8 := hid_into hr7.out.lt; replace HA := hid_into (HA.out.next B8); replace hr7 := hid_into (hr7.out.below B8 hr7.out.lt))
          | (refine wpList_store_rw rfl 31 (.tmp 12) (.tmp 66) rfl wb.heap.size zeroS s1 31 rfl rfl ?_ ZS L1 O1.out ?_; exact hr8; intro W9 hr9 O9; replace HA := hid_into (HA.out.only O9 hz8.out); replace hr7 := hid_into (O9.cw hr7.out (by have := hlt8.out; omega)); have hr9' := hid_into hr9; clear hr9 O9 B8 hr8)
          | (refine wpList_load_rw rfl 31 (.tmp 12) rfl wb.heap.size s1 31 _ rfl ?_ Try.underlying31 rfl Z1 ?_; exact hr9'.out)
          | (refine wpList_store_rw rfl 31 (.tmp 10) (.tmp 70) rfl wa.heap.size sk s1 31 rfl rfl ?_ Zk LL O1.out ?_; exact hr7.out; intro W10 hr10 O10; replace HA := hid_into (HA.out.only O10 hz5.out); have hr11 := hid_into hr10; clear hr10 O10))
        go_roundw
        case rel => exact ⟨k + 1, a, b, true, win, by omega, by go_num, HAB.out, Or.inr ⟨rfl, by omega, rfl⟩, HA.out, hid_into (HS1.out ▸ hr11.out)⟩
        case measure => simp [intOf]; omega
      · subst ho
        have SPo : Hid (∀ W, Kn w W N0 (w.heap.size + 1) cv L 20 (wcode a b win) → Calls Try.prog 11 #[.agg #[cv, .int .i64 L, .int .i64 20], .agg (stV (cst k x y true g)).toArray, .agg #[.int .u16 0, .int .u16 0]] W fun r w' => r = .returned (.tuple #[.agg zeroS.toArray, .int .i64 12]) ∧ Below W.heap.size W w') := fun W h => h.step _ noS _ _ _ wk (by omega) (by omega) (over_step _ chkW.out _ L ⟨by omega, by omega⟩ (by have hm := HMo.out; rw [hg]; simp only [isS, decide_eq_true_eq, cst]; exact ⟨by omega, by omega, by omega, by omega, Or.inl trivial⟩) (by show (1 : Int) ≠ 0; omega) rfl)
        have ZO : Hid (∀ v ∈ zeroS, v.oneCell' = true) := hid_into (by decide)
        have K0 := hid_into CK.frame
        have K18 := hid_into CK.over
        have K19 := hid_into CK.win
        simp only [cst] at K0 K18 K19
        clear wk CK
        rw [show (⟨(k : Int), [x, y, 0, 0, 0, 0, 0, 0, 0, 0, 0, 0, 0, 0, 0, 0], 1, true, g⟩ : Sp) = cst k x y true g from rfl] at K0 K18 K19
        generalize hsk : stV (cst k x y true g) = sk at SPo Zk hr7 K0 K18 K19
        clear hsk HO
        subst hg
        subst hkk
        go_wp2_with (first
          | (refine wpList_load_rw rfl 31 (.tmp 10) rfl wa.heap.size sk 31 _ rfl ?_ Try.underlying31 rfl Zk ?_; exact hr7.out)
          | (go_at_call 11; refine (SPo.out _ HA.out).mono ?_; rintro e wb ⟨rfl, Bb⟩; replace HA := hid_into (HA.out.next Bb); replace hr7 := hid_into (hr7.out.below Bb hr7.out.lt); clear Bb)
          | (refine wpList_alloc_row rfl 31 rfl zeroS HZ.out ?_; intro W8 hr8 B8 _; have hz8 := hid_into HA.out.size; have hlt8 := hid_into hr7.out.lt; replace HA := hid_into (HA.out.next B8); replace hr7 := hid_into (hr7.out.below B8 hr7.out.lt))
          | (refine wpList_store_rw rfl 31 (.tmp 14) (.tmp 78) rfl wb.heap.size zeroS zeroS 31 rfl rfl ?_ ZS (hid_into rfl) ZO.out ?_; exact hr8; intro W9 hr9 O9; replace HA := hid_into (HA.out.only O9 hz8.out); replace hr7 := hid_into (O9.cw hr7.out (by have := hlt8.out; omega)); have u0 := (hr7.out.cell 0).trans K0.out; have u18 := (hr7.out.cell 18).trans K18.out; have u19 := (hr7.out.cell 19).trans K19.out; clear hr9 O9 B8 hr8)
          | (go_at_call 9; refine (known_any _).mono ?_; rintro e wk ⟨rfl, Bk⟩; replace HA := hid_into (HA.out.next Bk); clear Bk))
        go_ret
        exact ⟨rfl, HA.out.below⟩
end Go.Proofs.Ytlknolbfhfcflab
