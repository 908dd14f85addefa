/-
  VmStack's walk: so many numbers fit the stack, and one more undoes the frame.
-/
import Derived.Test.YtlknolbfhfcflabKnown
import Derived.Test.YtlknolbfhfcflabPlain2
import Derived.Test.YtlknolbfhfcflabStEq
namespace Go.Proofs.Ytlknolbfhfcflab
open Go.RowKit
set_option maxRecDepth 20000 in
set_option maxHeartbeats 4000000 in
theorem stack_walk (n0 v : Int) (hv : In32 v) (w : World) : Calls Try.prog 4 #[.int .i64 n0, .int .i32 v] w fun e w' => e = .returned (.bool true) ∧ Below w.heap.size w w' := by
  have v1 := hv.1
  have v2 := hv.2
  by_cases a1 : n0 < 1
  · go_enter Try.func4, Try.ntmps4
    go_wp2_with (go_at_call 9; refine (known_any _).mono ?_; rintro e w1 ⟨rfl, B1⟩)
    go_ret
    exact ⟨rfl, B1⟩
  by_cases a2 : 60 < n0
  · go_enter Try.func4, Try.ntmps4
    go_wp2_with (go_at_call 9; refine (known_any _).mono ?_; rintro e w1 ⟨rfl, B1⟩)
    go_ret
    exact ⟨rfl, B1⟩
  obtain ⟨n, rfl⟩ := Int.eq_ofNat_of_zero_le (show 0 ≤ n0 by omega)
  have ST : ∀ W, Calls Try.prog 10 #[.int .u32 3] W fun e w' => e = .returned (.agg (stV (startS 3)).toArray) ∧ Below W.heap.size W w' := fun W => Start_any 3 W
  have w0 : (startS 3).Wf := startS_wf 3 (by omega)
  have wz : (⟨1, zeros, 3, false, 0⟩ : Sp).Wf := ⟨rfl, w0.cin, by show (0 : Int) ≤ 3 ∧ (3 : Int) < 4294967296; omega⟩
  have L0 := st_len wz
  have O0 := st_one wz
  have C0 := hid_into (stV_c wz)
  have HBd : Hid (Try.prog.built 31 [(0, .int .i64 1), (2, .int .u32 3)] = some (stV ⟨1, zeros, 3, false, 0⟩).toArray) := by show _ = _; kernel_rfl
  have HZ : Hid ((Try.prog.info? 31).bind (·.zero) = some (.agg zeroS.toArray)) := Try.zero31
  have ZS := zeroS_size
  clear wz
  by_cases hc : n ≤ 32
  · have hc' : (n : Int) ≤ 32 := by omega
    have SP1 : Hid (∀ W N G cv, Kn w W N G cv 5 500 (vcode n v) → Calls Try.prog 11 #[.agg #[cv, .int .i64 5, .int .i64 500], .agg (stV (startS 3)).toArray, .agg #[.int .u16 0, .int .u16 0]] W fun r w' => r = .returned (.tuple #[.agg (stV (vst v)).toArray, .int .i64 0]) ∧ Below W.heap.size W w') := fun W N G cv h => h.step _ _ _ _ _ w0 (by omega) (by omega) (by rw [stack_step n v ⟨by omega, by omega⟩ hv, if_pos (by omega)])
    have w1 : (vst v).Wf := vst_wf _ hv
    have L1 := st_len w1
    have O1 := st_one w1
    have Z1 := st_size w1
    have HQ : Hid (∀ w, (Op.equalIn 10000 31 (.agg (stV (vst v)).toArray) (.agg (stV (vst v)).toArray)).run Try.prog w = .ok true w) := fun w => by rw [run_eqS _ _ w1 w1, eqS_same]
    have HSd : Hid (∀ W b, Cw W b (stV ⟨1, zeros, 3, false, 0⟩) 31 → Cw (W.setCell ⟨b, 3, none⟩ (.int .i32 v)) b (stV (vst v)) 31) := fun W b h => h.set 3 _
    have hl1 : (stV (vst v)).length = 20 := rfl
    clear w0 w1
    generalize hss : stV (startS 3) = ss at ST SP1
    clear hss
    generalize hs1 : stV (vst v) = s1 at SP1 L1 O1 Z1 HQ hl1 HSd
    clear hs1
    generalize hs0 : stV ⟨1, zeros, 3, false, 0⟩ = z1 at L0 O0 C0 HBd HSd
    clear hs0
    go_enter Try.func4, Try.ntmps4
    go_wp2_with fail
    go_loopw [6] (fun iv wr => ∃ (k : Nat) (sv : Value), k ≤ n ∧ iv = .int .i64 (k : Int) ∧ Hid (Cw wr w.heap.size [sv, .int .i64 5, .int .i64 500] 27) ∧ Hid (Lo wr (w.heap.size + 1) sv (List.replicate k ((1 : Int), v))) ∧ Hid (Below w.heap.size w wr)) (fun iv _ => n - (intOf iv).toNat)
    case atStart => exact ⟨0, .slice none 0 0, Nat.zero_le _, rfl, Cw.new w [.slice none 0 0, .int .i64 5, .int .i64 500] 27, Lo.nil _ _, (Below.refl _ _).alloc (Nat.le_refl _) _⟩
    case round =>
      obtain ⟨k, sv, hk, rfl, HG, HLo, HB⟩ := hrel
      have cG : wr.cell? ⟨w.heap.size, 0, none⟩ = some sv := (HG.out.cell 0).trans rfl
      by_cases hlt : k < n
      · go_wp2_with (refine wpList_append_ls _ rfl (.tmp 24) (.tmp 28) rfl (w.heap.size + 1) sv (List.replicate k ((1 : Int), v)) rfl ?_ (.slice (some ⟨wr.heap.size, 0, none⟩) 1 1) [((1 : Int), v)] rfl ?_ (by simp; omega) (by rw [World.size_alloc]; have := HG.out.lt; omega) ?_; exact HLo.out.below ((Below.refl _ _).alloc (Nat.le_refl _) _); exact Ls_of_block (l := [((1 : Int), v)]) (Cw.new _ (cells2 [((1 : Int), v)]) _) (by show 1 ≤ maxLen; decide); intro ao2 cap2 W2 hown2 hgr2 _; have hG2 : Hid (Cw W2 w.heap.size [sv, .int .i64 5, .int .i64 500] 27) := hid_into ((HG.out.alloc _).keep (hgr2.block _ (by rw [World.size_alloc]; have := HG.out.lt; omega) (by intro e; have := (HLo.out.lt _ e.symm).1; omega))); have hB2 : Hid (Below w.heap.size w W2) := hid_into ((HB.out.alloc HB.out.size _).trans (Grows.below (Grows.grownBy hgr2 (F := fun k => w.heap.size ≤ k) (fun k e => by have := (HLo.out.lt _ e).1; omega)) (by rw [World.size_alloc]; have := HB.out.size; omega) (fun k hk => hk))); have c0 : W2.cell? ⟨w.heap.size, 0, none⟩ = some sv := (hG2.out.cell 0).trans rfl; have f0 := hG2.out.frozen 0)
        go_roundw
        case rel =>
          refine ⟨k + 1, _, by omega, by go_num, hG2.out.set 0 _, ?_, hB2.out.trans ((Only.set _ _ _ _).below (Nat.le_refl _))⟩
          have e : (List.replicate k ((1 : Int), v)) ++ [((1 : Int), v)] = (List.replicate (k + 1) ((1 : Int), v)) := by rw [List.replicate_succ']
          rw [e, show (List.replicate k ((1 : Int), v)).length + [((1 : Int), v)].length = k + 1 by simp] at hown2
          exact hid_into (hown2.keep fun j hj _ => Below.heap_setCell _ _ _ _ (show j ≠ w.heap.size by have := (hown2.lt j hj).1; omega))
        case measure => simp [intOf]; omega
      · obtain rfl : k = n := by omega
        go_upto_region 9 with (refine wpList_append_ls _ rfl (.tmp 32) (.tmp 34) rfl (w.heap.size + 1) sv (List.replicate k ((1 : Int), v)) rfl ?_ (.slice (some ⟨wr.heap.size, 0, none⟩) 1 1) [((3 : Int), (2 : Int))] rfl ?_ (by simp; omega) (by rw [World.size_alloc]; have := HG.out.lt; omega) ?_; exact HLo.out.below ((Below.refl _ _).alloc (Nat.le_refl _) _); exact Ls_of_block (l := [((3 : Int), (2 : Int))]) (Cw.new _ (cells2 [((3 : Int), (2 : Int))]) _) (by show 1 ≤ maxLen; decide); intro ao2 cap2 W2 hown2 hgr2 _; have hG2 : Hid (Cw W2 w.heap.size [sv, .int .i64 5, .int .i64 500] 27) := hid_into ((HG.out.alloc _).keep (hgr2.block _ (by rw [World.size_alloc]; have := HG.out.lt; omega) (by intro e; have := (HLo.out.lt _ e.symm).1; omega))); have hB2 : Hid (Below w.heap.size w W2) := hid_into ((HB.out.alloc HB.out.size _).trans (Grows.below (Grows.grownBy hgr2 (F := fun k => w.heap.size ≤ k) (fun k e => by have := (HLo.out.lt _ e).1; omega)) (by rw [World.size_alloc]; have := HB.out.size; omega) (fun k hk => hk))); have c0 : W2.cell? ⟨w.heap.size, 0, none⟩ = some sv := (hG2.out.cell 0).trans rfl; have f0 := hG2.out.frozen 0)
        have hlen : (List.replicate k ((1 : Int), v)).length + [((3 : Int), (2 : Int))].length = k + 1 := by simp
        rw [hlen] at hown2
        have H : Hid (Kn w (W2.setCell ⟨w.heap.size, 0, none⟩ (.slice ao2 (k + 1) cap2)) W2.heap.size w.heap.size (.slice ao2 (k + 1) cap2) 5 500 (vcode k v)) := by
          refine ⟨hG2.out.set 0 _, ?_, hB2.out.trans ((Only.set _ _ _ _).below (Nat.le_refl _)), hB2.out.size, hG2.out.lt, fun j hj => (hown2.lt j hj).2, by simp [World.setCell]⟩
          exact (hown2.keep (w' := W2.setCell ⟨w.heap.size, 0, none⟩ (.slice ao2 (k + 1) cap2)) fun j hj _ => Below.heap_setCell _ _ _ _ (show j ≠ w.heap.size by have := (hown2.lt j hj).1; omega)).ls
        clear HG HLo HB hG2 hB2 hown2 c0 f0 cG hgr2
        generalize (W2.setCell ⟨w.heap.size, 0, none⟩ (.slice ao2 (k + 1) cap2)) = W0 at H ⊢
        generalize W2.heap.size = N0 at H
        replace H := hid_into (H.out.sm (W' := W0.drew) ⟨rfl, rfl, rfl, rfl⟩)
        generalize (Value.slice ao2 (k + 1) cap2) = cv at H ⊢
        go_cut [7, 8] (fun pv ev wx => ∃ b, pv = .pointer (some ⟨b, 0, none⟩) ∧ ev = .int .i64 0 ∧ N0 ≤ b ∧ Cw wx b s1 31 ∧ Kn w wx N0 w.heap.size cv 5 500 (vcode k v))
        case first =>
          have hS := H.out.s
          go_region_held3 (fun V => V.cell? ⟨w.heap.size, 0, none⟩ = some cv ∧ V.cell? ⟨w.heap.size, 1, none⟩ = some (.int .i64 5) ∧ V.cell? ⟨w.heap.size, 2, none⟩ = some (.int .i64 500)) (first | exact hS | exact H.out.s | exact (H.out.next ((Below.refl _ _).alloc (Nat.le_refl _) _)).s)
            (first
              | (go_at_call 10; refine (ST _).mono ?_; rintro e wa ⟨rfl, Ba⟩; (first | (replace H := hid_into (H.out.next Ba)) | (obtain ⟨hr, hb, H1⟩ := Kn.alloc1 H.out Ba; clear H; have H := hid_into H1.out; clear H1)); clear Ba)
              | (go_at_call 11; (first | refine (SP1.out _ _ _ _ H.out).mono ?_ | refine (SP1.out _ _ _ _ (H.out.next ((Below.refl _ _).alloc (Nat.le_refl _) _))).mono ?_); rintro e wb ⟨rfl, Bb⟩; (first | (replace hr := hid_into (hr.out.below Bb hr.out.lt); replace H := hid_into (H.out.next Bb)) | (replace H := hid_into (H.out.next Bb)) | (obtain ⟨hr, hb, H1⟩ := Kn.alloc2 H.out Bb; clear H; have H := hid_into H1.out; clear H1)); clear Bb)
              | (refine upon_store (t := 31) hr.out L1 O1 ?_; intro wd hd Od; replace H := hid_into (H.out.only Od hb.out); clear Od)
              | (refine upon_store (cs := zeroS) (t := 31) (Cw.new _ _ _) L1 O1 ?_; intro wd hd Od; have hb := hid_into H.out.size; replace H := hid_into ((H.out.next ((Below.refl _ _).alloc (Nat.le_refl _) _)).only Od hb.out); clear Od))
          all_goals
            go_wp2_with fail
            go_meet
            exact ⟨_, rfl, rfl, hb.out, hd.keep rfl, H.out.sm ⟨rfl, rfl, rfl, rfl⟩⟩
        case rest =>
          obtain ⟨b, rfl, rfl, hb, hd, hK⟩ := hcut
          have H2 := hid_into hK
          have hd2 := hid_into hd
          clear hK hd hl1 L1 O1 SP1 ST
          go_wp2_with (first
            | (refine wpList_build_row rfl 31 #[(0, .const (.int .i64 1)), (2, .const (.int .u32 3))] rfl z1 [(0, .int .i64 1), (2, .int .u32 3)] rfl HBd.out ?_)
            | (refine wpList_alloc_row rfl 31 rfl zeroS HZ.out ?_; intro W5 hr5 B5 _; have hz5 := hid_into H2.out.size)
            | (refine wpList_store_rw rfl 31 (.tmp 9) (.tmp 44) rfl wc.heap.size zeroS z1 31 rfl rfl ?_ ZS L0 O0.out ?_; exact hr5; intro W6 hr6 O6; have q3 := (hr6.cell 3).trans (C0.out.cell 2 (by omega)); have f3 := hr6.frozen 3; have hw6 : Hid (Cw (W6.setCell ⟨wc.heap.size, 3, none⟩ (.int .i32 v)) wc.heap.size s1 31) := HSd.out _ _ hr6; have hd6 : Hid (Cw (W6.setCell ⟨wc.heap.size, 3, none⟩ (.int .i32 v)) b s1 31) := two_blocks (O6.cw (hd2.out.below B5 hd2.out.lt) (by have := hd2.out.lt; omega)) (by have := hd2.out.lt; omega) _ _; have H6 : Hid (Below w.heap.size w (W6.setCell ⟨wc.heap.size, 3, none⟩ (.int .i32 v))) := (((H2.out.next B5).only O6 hz5.out).below).trans ((Only.set _ _ _ _).below (by have := H2.out.lo; have := hz5.out; omega)); clear hr6 O6 B5 hr5)
            | (refine wpList_load_rwG rfl 31 (.tmp 7) rfl b s1 31 _ rfl ?_ Try.underlying31 rfl Z1 ?_; exact hd6.out)
            | (refine wpList_load_rwG rfl 31 (.tmp 9) rfl wc.heap.size s1 31 _ rfl ?_ Try.underlying31 rfl Z1 ?_; exact hw6.out)
            | (refine wpList_eql28 rfl (.tmp 53) (.tmp 54) rfl s1 s1 true HQ rfl rfl ?_)
            | (go_at_call 9; refine (known_any _).mono ?_; rintro e wk ⟨rfl, Bk⟩; have H7 := hid_into (H6.out.trans (Bk.mono H6.out.size)); clear Bk))
          go_ret
          exact ⟨rfl, H7.out⟩
  · have hc' : 32 < (n : Int) := by omega
    have SP1 : Hid (∀ W N G cv, Kn w W N G cv 5 500 (vcode n v) → Calls Try.prog 11 #[.agg #[cv, .int .i64 5, .int .i64 500], .agg (stV (startS 3)).toArray, .agg #[.int .u16 0, .int .u16 0]] W fun r w' => r = .returned (.tuple #[.agg (stV (vst 0)).toArray, .int .i64 0]) ∧ Below W.heap.size W w') := fun W N G cv h => h.step _ _ _ _ _ w0 (by omega) (by omega) (by rw [stack_step n v ⟨by omega, by omega⟩ hv, if_neg (by omega)])
    have w1 : (vst 0).Wf := vst_wf _ zero_in
    have L1 := st_len w1
    have O1 := st_one w1
    have Z1 := st_size w1
    have HQ : Hid (∀ w, (Op.equalIn 10000 31 (.agg (stV (vst 0)).toArray) (.agg (stV (vst 0)).toArray)).run Try.prog w = .ok true w) := fun w => by rw [run_eqS _ _ w1 w1, eqS_same]
    have HEq : Hid (stV ⟨1, zeros, 3, false, 0⟩ = stV (vst 0)) := hid_into rfl
    have hl1 : (stV (vst 0)).length = 20 := rfl
    clear w0 w1
    generalize hss : stV (startS 3) = ss at ST SP1
    clear hss
    generalize hs1 : stV (vst 0) = s1 at SP1 L1 O1 Z1 HQ hl1 HEq
    clear hs1
    generalize hs0 : stV ⟨1, zeros, 3, false, 0⟩ = z1 at L0 O0 C0 HBd HEq
    clear hs0
    go_enter Try.func4, Try.ntmps4
    go_wp2_with fail
    go_loopw [6] (fun iv wr => ∃ (k : Nat) (sv : Value), k ≤ n ∧ iv = .int .i64 (k : Int) ∧ Hid (Cw wr w.heap.size [sv, .int .i64 5, .int .i64 500] 27) ∧ Hid (Lo wr (w.heap.size + 1) sv (List.replicate k ((1 : Int), v))) ∧ Hid (Below w.heap.size w wr)) (fun iv _ => n - (intOf iv).toNat)
    case atStart => exact ⟨0, .slice none 0 0, Nat.zero_le _, rfl, Cw.new w [.slice none 0 0, .int .i64 5, .int .i64 500] 27, Lo.nil _ _, (Below.refl _ _).alloc (Nat.le_refl _) _⟩
    case round =>
      obtain ⟨k, sv, hk, rfl, HG, HLo, HB⟩ := hrel
      have cG : wr.cell? ⟨w.heap.size, 0, none⟩ = some sv := (HG.out.cell 0).trans rfl
      by_cases hlt : k < n
      · go_wp2_with (refine wpList_append_ls _ rfl (.tmp 24) (.tmp 28) rfl (w.heap.size + 1) sv (List.replicate k ((1 : Int), v)) rfl ?_ (.slice (some ⟨wr.heap.size, 0, none⟩) 1 1) [((1 : Int), v)] rfl ?_ (by simp; omega) (by rw [World.size_alloc]; have := HG.out.lt; omega) ?_; exact HLo.out.below ((Below.refl _ _).alloc (Nat.le_refl _) _); exact Ls_of_block (l := [((1 : Int), v)]) (Cw.new _ (cells2 [((1 : Int), v)]) _) (by show 1 ≤ maxLen; decide); intro ao2 cap2 W2 hown2 hgr2 _; have hG2 : Hid (Cw W2 w.heap.size [sv, .int .i64 5, .int .i64 500] 27) := hid_into ((HG.out.alloc _).keep (hgr2.block _ (by rw [World.size_alloc]; have := HG.out.lt; omega) (by intro e; have := (HLo.out.lt _ e.symm).1; omega))); have hB2 : Hid (Below w.heap.size w W2) := hid_into ((HB.out.alloc HB.out.size _).trans (Grows.below (Grows.grownBy hgr2 (F := fun k => w.heap.size ≤ k) (fun k e => by have := (HLo.out.lt _ e).1; omega)) (by rw [World.size_alloc]; have := HB.out.size; omega) (fun k hk => hk))); have c0 : W2.cell? ⟨w.heap.size, 0, none⟩ = some sv := (hG2.out.cell 0).trans rfl; have f0 := hG2.out.frozen 0)
        go_roundw
        case rel =>
          refine ⟨k + 1, _, by omega, by go_num, hG2.out.set 0 _, ?_, hB2.out.trans ((Only.set _ _ _ _).below (Nat.le_refl _))⟩
          have e : (List.replicate k ((1 : Int), v)) ++ [((1 : Int), v)] = (List.replicate (k + 1) ((1 : Int), v)) := by rw [List.replicate_succ']
          rw [e, show (List.replicate k ((1 : Int), v)).length + [((1 : Int), v)].length = k + 1 by simp] at hown2
          exact hid_into (hown2.keep fun j hj _ => Below.heap_setCell _ _ _ _ (show j ≠ w.heap.size by have := (hown2.lt j hj).1; omega))
        case measure => simp [intOf]; omega
      · obtain rfl : k = n := by omega
        go_upto_region 9 with (refine wpList_append_ls _ rfl (.tmp 32) (.tmp 34) rfl (w.heap.size + 1) sv (List.replicate k ((1 : Int), v)) rfl ?_ (.slice (some ⟨wr.heap.size, 0, none⟩) 1 1) [((3 : Int), (2 : Int))] rfl ?_ (by simp; omega) (by rw [World.size_alloc]; have := HG.out.lt; omega) ?_; exact HLo.out.below ((Below.refl _ _).alloc (Nat.le_refl _) _); exact Ls_of_block (l := [((3 : Int), (2 : Int))]) (Cw.new _ (cells2 [((3 : Int), (2 : Int))]) _) (by show 1 ≤ maxLen; decide); intro ao2 cap2 W2 hown2 hgr2 _; have hG2 : Hid (Cw W2 w.heap.size [sv, .int .i64 5, .int .i64 500] 27) := hid_into ((HG.out.alloc _).keep (hgr2.block _ (by rw [World.size_alloc]; have := HG.out.lt; omega) (by intro e; have := (HLo.out.lt _ e.symm).1; omega))); have hB2 : Hid (Below w.heap.size w W2) := hid_into ((HB.out.alloc HB.out.size _).trans (Grows.below (Grows.grownBy hgr2 (F := fun k => w.heap.size ≤ k) (fun k e => by have := (HLo.out.lt _ e).1; omega)) (by rw [World.size_alloc]; have := HB.out.size; omega) (fun k hk => hk))); have c0 : W2.cell? ⟨w.heap.size, 0, none⟩ = some sv := (hG2.out.cell 0).trans rfl; have f0 := hG2.out.frozen 0)
        have hlen : (List.replicate k ((1 : Int), v)).length + [((3 : Int), (2 : Int))].length = k + 1 := by simp
        rw [hlen] at hown2
        have H : Hid (Kn w (W2.setCell ⟨w.heap.size, 0, none⟩ (.slice ao2 (k + 1) cap2)) W2.heap.size w.heap.size (.slice ao2 (k + 1) cap2) 5 500 (vcode k v)) := by
          refine ⟨hG2.out.set 0 _, ?_, hB2.out.trans ((Only.set _ _ _ _).below (Nat.le_refl _)), hB2.out.size, hG2.out.lt, fun j hj => (hown2.lt j hj).2, by simp [World.setCell]⟩
          exact (hown2.keep (w' := W2.setCell ⟨w.heap.size, 0, none⟩ (.slice ao2 (k + 1) cap2)) fun j hj _ => Below.heap_setCell _ _ _ _ (show j ≠ w.heap.size by have := (hown2.lt j hj).1; omega)).ls
        clear HG HLo HB hG2 hB2 hown2 c0 f0 cG hgr2
        generalize (W2.setCell ⟨w.heap.size, 0, none⟩ (.slice ao2 (k + 1) cap2)) = W0 at H ⊢
        generalize W2.heap.size = N0 at H
        replace H := hid_into (H.out.sm (W' := W0.drew) ⟨rfl, rfl, rfl, rfl⟩)
        generalize (Value.slice ao2 (k + 1) cap2) = cv at H ⊢
        go_cut [7, 8] (fun pv ev wx => ∃ b, pv = .pointer (some ⟨b, 0, none⟩) ∧ ev = .int .i64 0 ∧ N0 ≤ b ∧ Cw wx b s1 31 ∧ Kn w wx N0 w.heap.size cv 5 500 (vcode k v))
        case first =>
          have hS := H.out.s
          go_region_held3 (fun V => V.cell? ⟨w.heap.size, 0, none⟩ = some cv ∧ V.cell? ⟨w.heap.size, 1, none⟩ = some (.int .i64 5) ∧ V.cell? ⟨w.heap.size, 2, none⟩ = some (.int .i64 500)) (first | exact hS | exact H.out.s | exact (H.out.next ((Below.refl _ _).alloc (Nat.le_refl _) _)).s)
            (first
              | (go_at_call 10; refine (ST _).mono ?_; rintro e wa ⟨rfl, Ba⟩; (first | (replace H := hid_into (H.out.next Ba)) | (obtain ⟨hr, hb, H1⟩ := Kn.alloc1 H.out Ba; clear H; have H := hid_into H1.out; clear H1)); clear Ba)
              | (go_at_call 11; (first | refine (SP1.out _ _ _ _ H.out).mono ?_ | refine (SP1.out _ _ _ _ (H.out.next ((Below.refl _ _).alloc (Nat.le_refl _) _))).mono ?_); rintro e wb ⟨rfl, Bb⟩; (first | (replace hr := hid_into (hr.out.below Bb hr.out.lt); replace H := hid_into (H.out.next Bb)) | (replace H := hid_into (H.out.next Bb)) | (obtain ⟨hr, hb, H1⟩ := Kn.alloc2 H.out Bb; clear H; have H := hid_into H1.out; clear H1)); clear Bb)
              | (refine upon_store (t := 31) hr.out L1 O1 ?_; intro wd hd Od; replace H := hid_into (H.out.only Od hb.out); clear Od)
              | (refine upon_store (cs := zeroS) (t := 31) (Cw.new _ _ _) L1 O1 ?_; intro wd hd Od; have hb := hid_into H.out.size; replace H := hid_into ((H.out.next ((Below.refl _ _).alloc (Nat.le_refl _) _)).only Od hb.out); clear Od))
          all_goals
            go_wp2_with fail
            go_meet
            exact ⟨_, rfl, rfl, hb.out, hd.keep rfl, H.out.sm ⟨rfl, rfl, rfl, rfl⟩⟩
        case rest =>
          obtain ⟨b, rfl, rfl, hb, hd, hK⟩ := hcut
          have H2 := hid_into hK
          have hd2 := hid_into hd
          clear hK hd hl1 L1 O1 SP1 ST
          go_wp2_with (first
            | (refine wpList_build_row rfl 31 #[(0, .const (.int .i64 1)), (2, .const (.int .u32 3))] rfl z1 [(0, .int .i64 1), (2, .int .u32 3)] rfl HBd.out ?_)
            | (refine wpList_alloc_row rfl 31 rfl zeroS HZ.out ?_; intro W5 hr5 B5 _; have hz5 := hid_into H2.out.size)
            | (refine wpList_store_rw rfl 31 (.tmp 9) (.tmp 44) rfl wc.heap.size zeroS z1 31 rfl rfl ?_ ZS L0 O0.out ?_; exact hr5; intro W6 hr6 O6; have hw6 : Hid (Cw W6 wc.heap.size s1 31) := hid_into (HEq.out ▸ hr6); have hd6 : Hid (Cw W6 b s1 31) := O6.cw (hd2.out.below B5 hd2.out.lt) (by have := hd2.out.lt; omega); have H6 : Hid (Below w.heap.size w W6) := ((H2.out.next B5).only O6 hz5.out).below; clear hr6 O6 B5 hr5)
            | (refine wpList_load_rwG rfl 31 (.tmp 7) rfl b s1 31 _ rfl ?_ Try.underlying31 rfl Z1 ?_; exact hd6.out)
            | (refine wpList_load_rwG rfl 31 (.tmp 9) rfl wc.heap.size s1 31 _ rfl ?_ Try.underlying31 rfl Z1 ?_; exact hw6.out)
            | (refine wpList_eql28 rfl (.tmp 53) (.tmp 54) rfl s1 s1 true HQ rfl rfl ?_)
            | (go_at_call 9; refine (known_any _).mono ?_; rintro e wk ⟨rfl, Bk⟩; have H7 := hid_into (H6.out.trans (Bk.mono H6.out.size)); clear Bk))
          go_ret
          exact ⟨rfl, H7.out⟩
end Go.Proofs.Ytlknolbfhfcflab
