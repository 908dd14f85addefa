/-
  Text, by contract: a word's text.
-/
import Derived.Test.YtkfnmdhhiigceaaTkPlain
import Derived.Test.YtkfnmdhhiigceaaDgHexP
import Derived.Test.YtkfnmdhhiigceaaDgArr
import Derived.Deep.DeepCutAuto
import Derived.Deep.MidRow
namespace Go.Proofs.Ytkfnmdhhiigceaa
open Go.RowKit Dg
theorem run_hexd (n : Nat) (hn : n < 16) (w : World) : (Instr.index 9 (.string hexS) (.int .u8 (n : Int))).run Try.prog w = .ok (.int .u8 (hx (n : Int))) w := by
  have : n = 0 ∨ n = 1 ∨ n = 2 ∨ n = 3 ∨ n = 4 ∨ n = 5 ∨ n = 6 ∨ n = 7 ∨ n = 8 ∨ n = 9 ∨ n = 10 ∨ n = 11 ∨ n = 12 ∨ n = 13 ∨ n = 14 ∨ n = 15 := by omega
  rcases this with rfl | rfl | rfl | rfl | rfl | rfl | rfl | rfl | rfl | rfl | rfl | rfl | rfl | rfl | rfl | rfl <;> rfl
theorem hs25 {t : List Int} (h : Tk t) : Hid ((Try.prog.info? 25).map (·.size) = some (cellsOf t).length) := by
  refine hid_into ?_
  rw [cellsOf_length, h.1]
  kernel_rfl
theorem Bs_1 (w : World) (x : Int) : Bs (w.alloc (.cells #[.int .u8 x] 5)) (.slice (some ⟨w.heap.size, 0, none⟩) 1 1) [x] := Bs_of_block (zs := [x]) (heap_alloc_new w _) (by simp [maxLen])
set_option maxRecDepth 20000 in
set_option maxHeartbeats 1600000 in
theorem text_any (t : List Int) (h : Tk t) (w : World) :
    Calls Try.prog 14 #[.agg (cellsOf t).toArray] w fun e w' => e = .returned (.string (strOfNums (txt t))) ∧ Below w.heap.size w w' := by
  have HIh := hs25 h
  have HT := hid_into h
  clear h
  go_enter Try.func14, Try.ntmps14
  go_wp2_with (first
    | (refine wpList_box_row rfl 25 (.tmp 0) rfl (cellsOf t) rfl ?_; intro W1 hc1 B1 HS1)
    | (refine wpList_load_rw rfl 25 (.tmp 1) rfl w.heap.size (cellsOf t) 25 _ rfl hc1 Try.underlying25 rfl HIh ?_))
  have ho0 : Ow W1 (w.heap.size + 1) (.slice none ([] : List Int).length 0) [] := World.ownsRow_nil _ _ _ _
  have HS2 : Hid (w.heap.size + 1 ≤ W1.heap.size) := by show _ ≤ _; rw [HS1.out]; exact Nat.le_refl _
  clear hc1 HS1
  go_loopw [3, 7] (fun tv iv wx => ∃ (k : Nat) (ys : List Int) (ao : Option Addr) (cap : Nat), k ≤ 16 ∧ iv = .int .i64 k ∧ Hid (ys = pre t k) ∧ tv = .slice ao ys.length cap ∧ Ow wx (w.heap.size + 1) (.slice ao ys.length cap) ys ∧ Below w.heap.size w wx ∧ Hid (w.heap.size + 1 ≤ wx.heap.size)) (fun _ iv _ => 16 - (intOf iv).toNat)
  case atStart => exact ⟨0, [], none, 0, Nat.zero_le _, rfl, (pre_zero t).symm, rfl, ho0, B1, HS2⟩
  case round =>
    clear ho0 B1 HS2
    obtain ⟨k, ys, ao, cap, hk, rfl, HY, rfl, ho, bel, HSZ⟩ := hrel
    by_cases hk16 : k < 16
    · have hki : (k : Int) < 16 := by omega
      have hix := fun W => run_index_b W t k 16 25 Try.underlying25 hk16 HT.out.1
      have hb := HT.out.get k
      have hyl : ys.length ≤ 1000 := by rw [HY.out, pre_len t (by omega)]; unfold L; omega
      generalize hx0 : t.getD k 0 = x at *
      obtain ⟨X, rfl⟩ := Int.eq_ofNat_of_zero_le hb.1
      have hX : X < 256 := by omega
      obtain ⟨B, hB⟩ : ∃ B : Bool, B = decide (0 < k ∧ k % 4 = 0) := ⟨_, rfl⟩
      obtain ⟨U, hU⟩ : ∃ U : World, U = wr := ⟨_, rfl⟩
      go_upto_region 5 with fail
      go_cut [17] (fun tb wx => tb = .bool B ∧ U = wx)
      case first =>
        by_cases hp : 0 < k
        · have hp' : (0 : Int) < (k : Int) := by omega
          by_cases h4 : k % 4 = 0
          · have h4' : (k : Int) % 4 = 0 := by omega
            have h4t : (k : Int).tmod 4 = 0 := by rw [Int.tmod_eq_emod_of_nonneg (by omega)]; exact h4'
            go_wp2_with fail
            go_meet
            exact ⟨by rw [hB, decide_eq_true (by omega)], hU⟩
          · have h4' : ¬ (k : Int) % 4 = 0 := by omega
            have h4t : ¬ (k : Int).tmod 4 = 0 := by rw [Int.tmod_eq_emod_of_nonneg (by omega)]; exact h4'
            go_wp2_with fail
            go_meet
            exact ⟨by rw [hB, decide_eq_false (by omega), beq_false_of_ne h4'], hU⟩
        · have hp' : ¬ (0 : Int) < (k : Int) := by omega
          go_wp2_with fail
          go_meet
          exact ⟨by rw [hB, decide_eq_false (by omega)], hU⟩
      case rest =>
        obtain ⟨rfl, rfl⟩ := hcut
        subst hU
        go_upto_if 17 with fail
        go_cut [3] (fun tv wx => ∃ (zs : List Int) (ao : Option Addr) (cap : Nat), Hid (zs = (txt t).take (at0 k)) ∧ Hid (zs.length ≤ 2000) ∧ tv = .slice ao zs.length cap ∧ Ow wx (w.heap.size + 1) (.slice ao zs.length cap) zs ∧ Below w.heap.size w wx ∧ Hid (w.heap.size + 1 ≤ wx.heap.size))
        case first =>
          cases B with
          | true =>
            have hB2 : 0 < k ∧ k % 4 = 0 := of_decide_eq_true hB.symm
            clear hB
            go_wp2_with (at_builtin; refine wpList_append_bs _ rfl (.tmp 18) (.tmp 19) rfl (w.heap.size + 1) _ ys rfl (by exact ho.alloc' _) _ [45] rfl (by exact Bs_1 _ _) (by simp; omega) (by show _ ≤ (U.alloc _).heap.size; rw [World.size_alloc]; exact Nat.le_succ_of_le HSZ.out) ?_; intro ao5 cap5 W5 ho5 hg5 hn5)
            have hB5 := grown_below hg5 (ho.alloc' _) (by show _ ≤ (U.alloc _).heap.size; rw [World.size_alloc]; exact Nat.le_succ_of_le HSZ.out)
            have hB5' : Below (w.heap.size + 1) U W5 := ((Below.refl _ U).alloc HSZ.out _).trans ⟨hB5.os, hB5.tape, hB5.output, hB5.size, hB5.block⟩
            go_meet
            refine ⟨ys ++ [45], ao5, cap5, ?_, ?_, by simp, by rw [List.length_append]; exact ho5, bel.trans (hB5'.mono (by omega)), ?_⟩
            · show _ = _; rw [HY.out]; exact (pre_bar t hk16 hB2.1 hB2.2).symm
            · show _ ≤ _; simp; omega
            · show _ ≤ _; have := hB5'.size; have := HSZ.out; omega
          | false =>
            have hB2 : ¬ (0 < k ∧ k % 4 = 0) := of_decide_eq_false hB.symm
            clear hB
            go_wp2_with fail
            go_meet
            exact ⟨ys, ao, cap, by show _ = _; rw [HY.out]; exact (pre_none t hB2).symm, by show _ ≤ _; omega, rfl, ho, bel, HSZ⟩
        case rest =>
          clear ho bel HSZ hyl HY hB
          obtain ⟨zs, ao, cap, HZ, HZL, rfl, ho, bel, HSZ⟩ := hcut
          have e1 : bits .and .u8 (X : Int) 15 = ((X % 16 : Nat) : Int) := by
            have := u8_and_nat X 15 (by omega) (by decide)
            rw [nat_mask4] at this; exact this
          have HSUC := hid_into (pre_two t hk16)
          rw [hx0] at HSUC
          have hzl := HZL.out
          obtain ⟨c1, hc1⟩ : ∃ c, c = hx ((X / 16 : Nat) : Int) := ⟨_, rfl⟩
          obtain ⟨c2, hc2⟩ : ∃ c, c = hx ((X % 16 : Nat) : Int) := ⟨_, rfl⟩
          rw [show ((X : Nat) : Int) / 16 = ((X / 16 : Nat) : Int) by omega, show ((X : Nat) : Int) % 16 = ((X % 16 : Nat) : Int) by omega, ← hc1, ← hc2] at HSUC
          have hs1 : ∀ w, (Instr.index 9 (.string hexS) (.int .u8 ((X : Int) / 16))).run Try.prog w = .ok (.int .u8 c1) w := by
            intro w; rw [show (X : Int) / 16 = ((X / 16 : Nat) : Int) by omega, hc1]; exact run_hexd (X / 16) (by omega) w
          have hs2 : ∀ w, (Instr.index 9 (.string hexS) (.int .u8 ((X % 16 : Nat) : Int))).run Try.prog w = .ok (.int .u8 c2) w := by
            intro w; rw [hc2]; exact run_hexd (X % 16) (by omega) w
          replace hs1 := hid_into hs1
          replace hs2 := hid_into hs2
          clear hc1 hc2 hx0
          go_wp2_with fail
          refine wp_region_any (by kernel_rfl) ?_
          change wpAny _ _ _ _ _ _ _ (World.drew _)
          refine wpAny_take (i := 0) (v := .slice ao zs.length cap) rfl (by kernel_rfl) (by kernel_rfl) (by kernel_rfl) (fun _ _ _ h => h) (Or.inl ⟨by rfl, by intro w; go_simp⟩) ?_
          refine wpAny_take (i := 1) (v := .int .u8 (X : Int)) rfl (by kernel_rfl) (by kernel_rfl) (by kernel_rfl) (fun _ _ _ h => h) (Or.inl ⟨by rfl, by intro w; go_simp⟩) ?_
          refine wpAny_take (i := 2) (v := .int .u8 ((X : Int) / 16)) rfl (by kernel_rfl) (by kernel_rfl) (by kernel_rfl) (fun _ _ _ h => h) (Or.inl ⟨by rfl, by intro w; go_simp⟩) ?_
          refine wpAny_take (i := 3) (v := .int .u8 c1) rfl (by kernel_rfl) (by kernel_rfl) (by kernel_rfl) (fun _ _ _ h => h) (Or.inl ⟨by rfl, fun w => exec_index 9 (.const (.string hexS)) (.tmp 23) rfl (.string hexS) (.int .u8 ((X : Int) / 16)) _ rfl rfl hs1.out w⟩) ?_
          refine wpAny_take (i := 4) (v := .int .u8 (X : Int)) rfl (by kernel_rfl) (by kernel_rfl) (by kernel_rfl) (fun _ _ _ h => h) (Or.inl ⟨by rfl, by intro w; go_simp⟩) ?_
          refine wpAny_take (i := 5) (v := .int .u8 ((X % 16 : Nat) : Int)) rfl (by kernel_rfl) (by kernel_rfl) (by kernel_rfl) (fun _ _ _ h => h) (Or.inl ⟨by rfl, by intro w; go_simp⟩) ?_
          refine wpAny_take (i := 6) (v := .int .u8 c2) rfl (by kernel_rfl) (by kernel_rfl) (by kernel_rfl) (fun _ _ _ h => h) (Or.inl ⟨by rfl, fun w => exec_index 9 (.const (.string hexS)) (.tmp 26) rfl (.string hexS) (.int .u8 ((X % 16 : Nat) : Int)) _ rfl rfl hs2.out w⟩) ?_
          refine wpAny_ready (rs := [7]) (by kernel_rfl) (by simp) ?_
          refine AllReady.cons rfl (fun K hK => ?_) AllReady.nil
          go_simp
          refine hK _ _ ?_
          clear hK K
          refine wpAny_ready (rs := [8]) (by kernel_rfl) (by simp) ?_
          refine AllReady.cons rfl (fun K hK => ?_) AllReady.nil
          rw [if_pos (by rfl)]
          refine wp_append_bs _ (.tmp 21) (.tmp 28) rfl (w.heap.size + 1) _ zs rfl (by exact ho.alloc' _) _ [c1, c2] rfl (by exact Bs_two _ _ _) (by simp; omega) (by show _ ≤ (wc.alloc _).heap.size; rw [World.size_alloc]; exact Nat.le_succ_of_le HSZ.out) ?_
          intro ao5 cap5 W5 ho5 hg5
          have hB5 := grown_below hg5 (ho.alloc' _) (by show _ ≤ (wc.alloc _).heap.size; rw [World.size_alloc]; exact Nat.le_succ_of_le HSZ.out)
          refine hK _ _ ?_
          clear hK K
          refine wpAny_ready (rs := [9]) (by kernel_rfl) (by simp) ?_
          refine AllReady.cons rfl (fun K hK => ?_) AllReady.nil
          go_simp
          refine hK _ _ ?_
          clear hK K
          refine wpAny_done (by kernel_rfl) ?_ _
          have hB5' : Below (w.heap.size + 1) wc W5 := ((Below.refl _ wc).alloc HSZ.out _).trans ⟨hB5.os, hB5.tape, hB5.output, hB5.size, hB5.block⟩
          have bel5 : Below w.heap.size w W5 := bel.trans (hB5'.mono (by omega))
          have HSZ5 : Hid (w.heap.size + 1 ≤ W5.heap.size) := by show _ ≤ _; have := hB5'.size; have := HSZ.out; omega
          have ho5' : Ow W5 (w.heap.size + 1) (.slice ao5 (zs ++ [c1, c2]).length cap5) (zs ++ [c1, c2]) := by rw [List.length_append]; exact ho5
          have HY5 : Hid (zs ++ [c1, c2] = pre t (k + 1)) := by show _ = _; rw [HZ.out]; exact HSUC.out.symm
          clear hB5 hB5' ho bel hg5 ho5 HSUC hs1 hs2 hix
          go_wp2_with fail
          go_roundw
          case rel => exact ⟨k + 1, _, ao5, cap5, by omega, by go_num, HY5, by simp, ho5', bel5, HSZ5⟩
          case measure => simp [intOf]; omega
    · have hk2 : k = 16 := by omega
      have hki : ¬ (k : Int) < 16 := by omega
      have HY2 : Hid (ys = txt t) := by
        show _ = _
        rw [HY.out, hk2, pre_all]
      have hne : ys ≠ [] := by
        intro e
        have := txt_len t
        rw [← HY2.out, e] at this; cases this
      obtain ⟨b, off, c, hv, h1, h2, h3⟩ := ho.bs.form hne
      simp only [Value.slice.injEq] at hv
      obtain ⟨rfl, _, rfl⟩ := hv
      have hcv := hid_into (run_convert_bytes_arg wr 22 5 Try.underlying22 Try.underlying5 b off ys.length cap ys rfl h3 9 Try.underlying9)
      clear h3 hne ho
      go_wp2_with fail
      rw [hcv.out]
      go_wp2_with fail
      go_ret
      exact ⟨by rw [HY2.out]; rfl, bel⟩
end Go.Proofs.Ytkfnmdhhiigceaa
