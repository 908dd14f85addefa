/-
  VmLoops' walk: a loop that counts down goes round as often as it should, if the fuel lasts.
-/
import Derived.Test.YtlknolbfhfcflabKnown
import Derived.Test.YtlknolbfhfcflabPlain
import Derived.Test.YtlknolbfhfcflabStEq
namespace Go.Proofs.Ytlknolbfhfcflab
open Go.RowKit
set_option maxRecDepth 20000 in
set_option maxHeartbeats 4000000 in
theorem loops_walk (n0 f0 : Int) (w : World) : Calls Try.prog 6 #[.int .i64 n0, .int .i64 f0] w fun e w' => e = .returned (.bool true) ∧ Below w.heap.size w w' := by
  by_cases a1 : n0 < 1
  · go_enter Try.func6, Try.ntmps6
    go_wp2_with (go_at_call 9; refine (known_any _).mono ?_; rintro e w1 ⟨rfl, B1⟩)
    go_ret
    exact ⟨rfl, B1⟩
  by_cases a2 : 100 < n0
  · go_enter Try.func6, Try.ntmps6
    go_wp2_with (go_at_call 9; refine (known_any _).mono ?_; rintro e w1 ⟨rfl, B1⟩)
    go_ret
    exact ⟨rfl, B1⟩
  by_cases a3 : f0 < 1
  · go_enter Try.func6, Try.ntmps6
    go_wp2_with (go_at_call 9; refine (known_any _).mono ?_; rintro e w1 ⟨rfl, B1⟩)
    go_ret
    exact ⟨rfl, B1⟩
  by_cases a4 : 2000 < f0
  · go_enter Try.func6, Try.ntmps6
    go_wp2_with (go_at_call 9; refine (known_any _).mono ?_; rintro e w1 ⟨rfl, B1⟩)
    go_ret
    exact ⟨rfl, B1⟩
  obtain ⟨n, rfl⟩ := Int.eq_ofNat_of_zero_le (show 0 ≤ n0 by omega)
  obtain ⟨f, rfl⟩ := Int.eq_ofNat_of_zero_le (show 0 ≤ f0 by omega)
  have ST : ∀ W, Calls Try.prog 10 #[.int .u32 1] W fun e w' => e = .returned (.agg (stV (startS 1)).toArray) ∧ Below W.heap.size W w' := fun W => Start_any 1 W
  have w0 : (startS 1).Wf := startS_wf 1 (by omega)
  have wz : (⟨1, zeros, 1, false, 0⟩ : Sp).Wf := ⟨rfl, w0.cin, by show (0 : Int) ≤ 1 ∧ (1 : Int) < 4294967296; omega⟩
  have L0 := st_len wz
  have O0 := st_one wz
  have C0 := hid_into (stV_c wz)
  have HBd : Hid (Try.prog.built 31 [(0, .int .i64 1), (2, .int .u32 1)] = some (stV ⟨1, zeros, 1, false, 0⟩).toArray) := by show _ = _; kernel_rfl
  have HZ : Hid ((Try.prog.info? 31).bind (·.zero) = some (.agg zeroS.toArray)) := Try.zero31
  have ZS := zeroS_size
  have e1 : wrap64 (11 * (n : Int)) = 11 * (n : Int) := by unfold wrap64; omega
  have e3 : wrap32 (3 * (n : Int)) = 3 * (n : Int) := by unfold wrap32; omega
  clear wz
  by_cases hc : 2 + 11 * n + 2 ≤ f
  · have hc' : 2 + 11 * (n : Int) + 2 ≤ (f : Int) := by omega
    have SP1 : Hid (∀ W N G cv, Kn w W N G cv 9 (f : Int) (lcode n) → Calls Try.prog 11 #[.agg #[cv, .int .i64 9, .int .i64 (f : Int)], .agg (stV (startS 1)).toArray, .agg #[.int .u16 0, .int .u16 0]] W fun r w' => r = .returned (.tuple #[.agg (stV (lst (3 * (n : Int)))).toArray, .int .i64 0]) ∧ Below W.heap.size W w') := fun W N G cv h => h.step _ _ _ _ _ w0 (by omega) (by omega) (by rw [loops_step n f ⟨by omega, by omega⟩ ⟨by omega, by omega⟩, if_pos (by omega)])
    have w1 : (lst (3 * (n : Int))).Wf := lst_wf _ ⟨by omega, by omega⟩
    have L1 := st_len w1
    have O1 := st_one w1
    have Z1 := st_size w1
    have HQ : Hid (∀ w, (Op.equalIn 10000 31 (.agg (stV (lst (3 * (n : Int)))).toArray) (.agg (stV (lst (3 * (n : Int)))).toArray)).run Try.prog w = .ok true w) := fun w => by rw [run_eqS _ _ w1 w1, eqS_same]
    have HSd : Hid (∀ W b, Cw W b (stV ⟨1, zeros, 1, false, 0⟩) 31 → Cw (W.setCell ⟨b, 7, none⟩ (.int .i32 (3 * (n : Int)))) b (stV (lst (3 * (n : Int)))) 31) := fun W b h => h.set 7 _
    have hl1 : (stV (lst (3 * (n : Int)))).length = 20 := rfl
    clear w0 w1
    generalize hss : stV (startS 1) = ss at ST SP1
    clear hss
    generalize hs1 : stV (lst (3 * (n : Int))) = s1 at SP1 L1 O1 Z1 HQ hl1 HSd
    clear hs1
    generalize hs0 : stV ⟨1, zeros, 1, false, 0⟩ = z1 at L0 O0 C0 HBd HSd
    clear hs0
    go_enter Try.func6, Try.ntmps6
    go_upto_region 4 with fail
    have H : Hid (Kn w ((w.alloc (.cells #[.int .i64 1, .int .i64 (n : Int), .int .i64 3, .int .i64 5, .int .i64 2, .int .i64 5, .int .i64 19, .int .i64 13, .int .i64 2, .int .i64 5, .int .i64 1, .int .i64 1, .int .i64 5, .int .i64 0, .int .i64 3, .int .i64 5, .int .i64 2, .int .i64 6, .int .i64 1, .int .i64 3, .int .i64 4, .int .i64 0, .int .i64 3, .int .i64 6, .int .i64 18, .int .i64 2] 24)).alloc (.cells #[.slice (some ⟨w.heap.size, 0, none⟩) 13 13, .int .i64 9, .int .i64 (f : Int)] 27)) (w.heap.size + 2) (w.heap.size + 1) (.slice (some ⟨w.heap.size, 0, none⟩) 13 13) 9 (f : Int) (lcode n)) := Kn.make w (lcode n) 9 (f : Int) (by show 13 ≤ 1000; omega)
    generalize (w.alloc (.cells #[.int .i64 1, .int .i64 (n : Int), .int .i64 3, .int .i64 5, .int .i64 2, .int .i64 5, .int .i64 19, .int .i64 13, .int .i64 2, .int .i64 5, .int .i64 1, .int .i64 1, .int .i64 5, .int .i64 0, .int .i64 3, .int .i64 5, .int .i64 2, .int .i64 6, .int .i64 1, .int .i64 3, .int .i64 4, .int .i64 0, .int .i64 3, .int .i64 6, .int .i64 18, .int .i64 2] 24)).alloc (.cells #[.slice (some ⟨w.heap.size, 0, none⟩) 13 13, .int .i64 9, .int .i64 (f : Int)] 27) = W0 at H ⊢
    replace H := hid_into (H.out.sm (W' := W0.drew) ⟨rfl, rfl, rfl, rfl⟩)
    generalize (Value.slice (some ⟨w.heap.size, 0, none⟩) 13 13) = cv at H ⊢
    go_cut [6, 7] (fun pv ev wx => ∃ b, pv = .pointer (some ⟨b, 0, none⟩) ∧ ev = .int .i64 0 ∧ w.heap.size + 2 ≤ b ∧ Cw wx b s1 31 ∧ Kn w wx (w.heap.size + 2) (w.heap.size + 1) cv 9 (f : Int) (lcode n))
    case first =>
      have hS := H.out.s
      go_region_held3 (fun V => V.cell? ⟨w.heap.size + 1, 0, none⟩ = some cv ∧ V.cell? ⟨w.heap.size + 1, 1, none⟩ = some (.int .i64 9) ∧ V.cell? ⟨w.heap.size + 1, 2, none⟩ = some (.int .i64 (f : Int))) (first | exact hS | exact H.out.s | exact (H.out.next ((Below.refl _ _).alloc (Nat.le_refl _) _)).s)
        (first
          | (go_at_call 10; refine (ST _).mono ?_; rintro e wa ⟨rfl, Ba⟩; (first | (replace H := hid_into (H.out.next Ba)) | (obtain ⟨hr, hb, H1⟩ := Kn.alloc1 H.out Ba; clear H; have H := hid_into H1.out; clear H1)); clear Ba)
          | (go_at_call 11; (first | refine (SP1.out _ _ _ _ H.out).mono ?_ | refine (SP1.out _ _ _ _ (H.out.next ((Below.refl _ _).alloc (Nat.le_refl _) _))).mono ?_); rintro e wb ⟨rfl, Bb⟩; (first | (replace hr := hid_into (hr.out.below Bb hr.out.lt); replace H := hid_into (H.out.next Bb)) | (replace H := hid_into (H.out.next Bb)) | (obtain ⟨hr, hb, H1⟩ := Kn.alloc2 H.out Bb; clear H; have H := hid_into H1.out; clear H1)); clear Bb)
          | (refine upon_store (t := 31) hr.out L1 O1 ?_; intro wd hd Od; replace H := hid_into (H.out.only Od hb.out); clear Od)
          | (refine upon_store (cs := zeroS) (t := 31) (Cw.new _ _ _) L1 O1 ?_; intro wd hd Od; have hb := hid_into H.out.size; replace H := hid_into ((H.out.next ((Below.refl _ _).alloc (Nat.le_refl _) _)).only Od hb.out); clear Od))
      all_goals
        go_wp2_with fail
        go_meet
        exact ⟨_, rfl, rfl, hb.out, hd.keep rfl, H.out.sm ⟨rfl, rfl, rfl, rfl⟩⟩
    case rest =>
      obtain ⟨b, rfl, rfl, hb, hd, hK⟩ := hcut
      have H2 := hid_into hK
      have hd2 := hid_into hd
      clear hK hd hl1 L1 O1 SP1 ST
      go_wp2_with (first
        | (refine wpList_build_row rfl 31 #[(0, .const (.int .i64 1)), (2, .const (.int .u32 1))] rfl z1 [(0, .int .i64 1), (2, .int .u32 1)] rfl HBd.out ?_)
        | (refine wpList_alloc_row rfl 31 rfl zeroS HZ.out ?_; intro W5 hr5 B5 _; have hz5 := hid_into H2.out.size)
        | (refine wpList_store_rw rfl 31 (.tmp 8) (.tmp 48) rfl wc.heap.size zeroS z1 31 rfl rfl ?_ ZS L0 O0.out ?_; exact hr5; intro W6 hr6 O6; have q7 := (hr6.cell 7).trans (C0.out.cell 6 (by omega)); have f7 := hr6.frozen 7; have hw6 : Hid (Cw (W6.setCell ⟨wc.heap.size, 7, none⟩ (.int .i32 (3 * (n : Int)))) wc.heap.size s1 31) := HSd.out _ _ hr6; have hd6 : Hid (Cw (W6.setCell ⟨wc.heap.size, 7, none⟩ (.int .i32 (3 * (n : Int)))) b s1 31) := two_blocks (O6.cw (hd2.out.below B5 hd2.out.lt) (by have := hd2.out.lt; omega)) (by have := hd2.out.lt; omega) _ _; have H6 : Hid (Below w.heap.size w (W6.setCell ⟨wc.heap.size, 7, none⟩ (.int .i32 (3 * (n : Int))))) := (((H2.out.next B5).only O6 hz5.out).below).trans ((Only.set _ _ _ _).below (by have := H2.out.lo; have := hz5.out; omega)); clear hr6 O6 B5 hr5)
        | (refine wpList_load_rwG rfl 31 (.tmp 6) rfl b s1 31 _ rfl ?_ Try.underlying31 rfl Z1 ?_; exact hd6.out)
        | (refine wpList_load_rwG rfl 31 (.tmp 8) rfl wc.heap.size s1 31 _ rfl ?_ Try.underlying31 rfl Z1 ?_; exact hw6.out)
        | (refine wpList_eql28 rfl (.tmp 63) (.tmp 64) rfl s1 s1 true HQ rfl rfl ?_)
        | (go_at_call 9; refine (known_any _).mono ?_; rintro e wk ⟨rfl, Bk⟩; have H7 := hid_into (H6.out.trans (Bk.mono H6.out.size)); clear Bk))
      go_ret
      exact ⟨rfl, H7.out⟩
  · have hc' : (f : Int) < 2 + 11 * (n : Int) + 2 := by omega
    have SP1 : Hid (∀ W N G cv, Kn w W N G cv 9 (f : Int) (lcode n) → Calls Try.prog 11 #[.agg #[cv, .int .i64 9, .int .i64 (f : Int)], .agg (stV (startS 1)).toArray, .agg #[.int .u16 0, .int .u16 0]] W fun r w' => r = .returned (.tuple #[.agg (stV (lst (0))).toArray, .int .i64 0]) ∧ Below W.heap.size W w') := fun W N G cv h => h.step _ _ _ _ _ w0 (by omega) (by omega) (by rw [loops_step n f ⟨by omega, by omega⟩ ⟨by omega, by omega⟩, if_neg (by omega)])
    have w1 : (lst (0)).Wf := lst_wf _ ⟨by omega, by omega⟩
    have L1 := st_len w1
    have O1 := st_one w1
    have Z1 := st_size w1
    have HQ : Hid (∀ w, (Op.equalIn 10000 31 (.agg (stV (lst (0))).toArray) (.agg (stV (lst (0))).toArray)).run Try.prog w = .ok true w) := fun w => by rw [run_eqS _ _ w1 w1, eqS_same]
    have HEq : Hid (stV ⟨1, zeros, 1, false, 0⟩ = stV (lst 0)) := hid_into rfl
    have hl1 : (stV (lst (0))).length = 20 := rfl
    clear w0 w1
    generalize hss : stV (startS 1) = ss at ST SP1
    clear hss
    generalize hs1 : stV (lst (0)) = s1 at SP1 L1 O1 Z1 HQ hl1 HEq
    clear hs1
    generalize hs0 : stV ⟨1, zeros, 1, false, 0⟩ = z1 at L0 O0 C0 HBd HEq
    clear hs0
    go_enter Try.func6, Try.ntmps6
    go_upto_region 4 with fail
    have H : Hid (Kn w ((w.alloc (.cells #[.int .i64 1, .int .i64 (n : Int), .int .i64 3, .int .i64 5, .int .i64 2, .int .i64 5, .int .i64 19, .int .i64 13, .int .i64 2, .int .i64 5, .int .i64 1, .int .i64 1, .int .i64 5, .int .i64 0, .int .i64 3, .int .i64 5, .int .i64 2, .int .i64 6, .int .i64 1, .int .i64 3, .int .i64 4, .int .i64 0, .int .i64 3, .int .i64 6, .int .i64 18, .int .i64 2] 24)).alloc (.cells #[.slice (some ⟨w.heap.size, 0, none⟩) 13 13, .int .i64 9, .int .i64 (f : Int)] 27)) (w.heap.size + 2) (w.heap.size + 1) (.slice (some ⟨w.heap.size, 0, none⟩) 13 13) 9 (f : Int) (lcode n)) := Kn.make w (lcode n) 9 (f : Int) (by show 13 ≤ 1000; omega)
    generalize (w.alloc (.cells #[.int .i64 1, .int .i64 (n : Int), .int .i64 3, .int .i64 5, .int .i64 2, .int .i64 5, .int .i64 19, .int .i64 13, .int .i64 2, .int .i64 5, .int .i64 1, .int .i64 1, .int .i64 5, .int .i64 0, .int .i64 3, .int .i64 5, .int .i64 2, .int .i64 6, .int .i64 1, .int .i64 3, .int .i64 4, .int .i64 0, .int .i64 3, .int .i64 6, .int .i64 18, .int .i64 2] 24)).alloc (.cells #[.slice (some ⟨w.heap.size, 0, none⟩) 13 13, .int .i64 9, .int .i64 (f : Int)] 27) = W0 at H ⊢
    replace H := hid_into (H.out.sm (W' := W0.drew) ⟨rfl, rfl, rfl, rfl⟩)
    generalize (Value.slice (some ⟨w.heap.size, 0, none⟩) 13 13) = cv at H ⊢
    go_cut [6, 7] (fun pv ev wx => ∃ b, pv = .pointer (some ⟨b, 0, none⟩) ∧ ev = .int .i64 0 ∧ w.heap.size + 2 ≤ b ∧ Cw wx b s1 31 ∧ Kn w wx (w.heap.size + 2) (w.heap.size + 1) cv 9 (f : Int) (lcode n))
    case first =>
      have hS := H.out.s
      go_region_held3 (fun V => V.cell? ⟨w.heap.size + 1, 0, none⟩ = some cv ∧ V.cell? ⟨w.heap.size + 1, 1, none⟩ = some (.int .i64 9) ∧ V.cell? ⟨w.heap.size + 1, 2, none⟩ = some (.int .i64 (f : Int))) (first | exact hS | exact H.out.s | exact (H.out.next ((Below.refl _ _).alloc (Nat.le_refl _) _)).s)
        (first
          | (go_at_call 10; refine (ST _).mono ?_; rintro e wa ⟨rfl, Ba⟩; (first | (replace H := hid_into (H.out.next Ba)) | (obtain ⟨hr, hb, H1⟩ := Kn.alloc1 H.out Ba; clear H; have H := hid_into H1.out; clear H1)); clear Ba)
          | (go_at_call 11; (first | refine (SP1.out _ _ _ _ H.out).mono ?_ | refine (SP1.out _ _ _ _ (H.out.next ((Below.refl _ _).alloc (Nat.le_refl _) _))).mono ?_); rintro e wb ⟨rfl, Bb⟩; (first | (replace hr := hid_into (hr.out.below Bb hr.out.lt); replace H := hid_into (H.out.next Bb)) | (replace H := hid_into (H.out.next Bb)) | (obtain ⟨hr, hb, H1⟩ := Kn.alloc2 H.out Bb; clear H; have H := hid_into H1.out; clear H1)); clear Bb)
          | (refine upon_store (t := 31) hr.out L1 O1 ?_; intro wd hd Od; replace H := hid_into (H.out.only Od hb.out); clear Od)
          | (refine upon_store (cs := zeroS) (t := 31) (Cw.new _ _ _) L1 O1 ?_; intro wd hd Od; have hb := hid_into H.out.size; replace H := hid_into ((H.out.next ((Below.refl _ _).alloc (Nat.le_refl _) _)).only Od hb.out); clear Od))
      all_goals
        go_wp2_with fail
        go_meet
        exact ⟨_, rfl, rfl, hb.out, hd.keep rfl, H.out.sm ⟨rfl, rfl, rfl, rfl⟩⟩
    case rest =>
      obtain ⟨b, rfl, rfl, hb, hd, hK⟩ := hcut
      have H2 := hid_into hK
      have hd2 := hid_into hd
      clear hK hd hl1 L1 O1 SP1 ST
      go_wp2_with (first
        | (refine wpList_build_row rfl 31 #[(0, .const (.int .i64 1)), (2, .const (.int .u32 1))] rfl z1 [(0, .int .i64 1), (2, .int .u32 1)] rfl HBd.out ?_)
        | (refine wpList_alloc_row rfl 31 rfl zeroS HZ.out ?_; intro W5 hr5 B5 _; have hz5 := hid_into H2.out.size)
        | (refine wpList_store_rw rfl 31 (.tmp 8) (.tmp 48) rfl wc.heap.size zeroS z1 31 rfl rfl ?_ ZS L0 O0.out ?_; exact hr5; intro W6 hr6 O6; have hw6 : Hid (Cw W6 wc.heap.size s1 31) := hid_into (HEq.out ▸ hr6); have hd6 : Hid (Cw W6 b s1 31) := O6.cw (hd2.out.below B5 hd2.out.lt) (by have := hd2.out.lt; omega); have H6 : Hid (Below w.heap.size w W6) := ((H2.out.next B5).only O6 hz5.out).below; clear hr6 O6 B5 hr5)
        | (refine wpList_load_rwG rfl 31 (.tmp 6) rfl b s1 31 _ rfl ?_ Try.underlying31 rfl Z1 ?_; exact hd6.out)
        | (refine wpList_load_rwG rfl 31 (.tmp 8) rfl wc.heap.size s1 31 _ rfl ?_ Try.underlying31 rfl Z1 ?_; exact hw6.out)
        | (refine wpList_eql28 rfl (.tmp 63) (.tmp 64) rfl s1 s1 true HQ rfl rfl ?_)
        | (go_at_call 9; refine (known_any _).mono ?_; rintro e wk ⟨rfl, Bk⟩; have H7 := hid_into (H6.out.trans (Bk.mono H6.out.size)); clear Bk))
      go_ret
      exact ⟨rfl, H7.out⟩
end Go.Proofs.Ytlknolbfhfcflab
