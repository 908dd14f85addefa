/-
  The document's own Text, by contract.
-/
import Derived.Test.YtkfnmdhhiigceaaTkText
import Derived.Deep.RegionHeld3
namespace Go.Proofs.Ytkfnmdhhiigceaa
open Go.RowKit Dg
theorem step_append_eq {a : Act} {w : World} {ops : Array Oper} {o : Oper} {K : Act → World → Prop} {Q : Exit → Act → World → Prop} {E : Prop} {w' : World} (hgd : o.guard = none) (t : TypeId) (s x : Operand) (ho : o.op = .call { callee := .builtin .append, args := #[s, x], argTypes := #[t, t] })
    (v u v' : Value) (hs : a.eval s = v) (hx : a.eval x = u) (hr : ∀ ty, (Builtin.append_ #[t, t] ty #[v, u]).run Try.prog w = .ok v' w') (h : K (a.put o.dst v') w') : if Region.wanted o (yielded ops a.tmps) = true then Oper.wp Try.prog o a w K Q else E := by
  have hw : Region.wanted o (yielded ops a.tmps) = true := by simp [Region.wanted, hgd]
  rw [if_pos hw]
  unfold Oper.wp execOp
  simp only [ho, resolve, invoke, builtin, Sem.run_bind, Sem.run_pure, Result.andThen_ok, List.map_toArray, List.map_cons, List.map_nil, hs, hx, hr]
  exact h
theorem hs27 {t : List Int} (h : Tk t) : Hid ((Try.prog.info? 27).map (·.size) = some (cellsOf t).length) := by
  refine hid_into ?_
  rw [cellsOf_length, h.1]
  kernel_rfl
set_option maxRecDepth 20000 in
set_option maxHeartbeats 1600000 in
theorem rtext_any (t : List Int) (h : Tk t) (w : World) :
    Calls Try.prog 16 #[.agg (cellsOf t).toArray] w fun e w' => e = .returned (.string (strOfNums (txt t))) ∧ Below w.heap.size w w' := by
  have HIh := hs27 h
  have HT := hid_into h
  clear h
  go_enter Try.func16, Try.ntmps16
  go_wp2_with (refine wpList_box_row rfl 27 (.tmp 0) rfl (cellsOf t) rfl ?_; intro W1 hc1 B1 HS1)
  have ho0 : Ow W1 (w.heap.size + 1) (.slice none ([] : List Int).length 0) [] := World.ownsRow_nil _ _ _ _
  have HS2 : Hid (w.heap.size + 1 ≤ W1.heap.size) := by show _ ≤ _; rw [HS1.out]; exact Nat.le_refl _
  clear HS1
  go_loopw [3, 4] (fun tv iv wx => ∃ (k : Nat) (ys : List Int) (ao : Option Addr) (cap : Nat), k ≤ 16 ∧ iv = .int .i64 k ∧ Hid (ys = pre t k) ∧ tv = .slice ao ys.length cap ∧ Ow wx (w.heap.size + 1) (.slice ao ys.length cap) ys ∧ Cw wx w.heap.size (cellsOf t) 27 ∧ Below w.heap.size w wx ∧ Hid (w.heap.size + 1 ≤ wx.heap.size)) (fun _ iv _ => 16 - (intOf iv).toNat)
  case atStart => exact ⟨0, [], none, 0, Nat.zero_le _, rfl, (pre_zero t).symm, rfl, ho0, hc1, B1, HS2⟩
  case round =>
    clear ho0 hc1 B1 HS2
    obtain ⟨k, ys, ao, cap, hk, rfl, HY, rfl, ho, hc, bel, HSZ⟩ := hrel
    by_cases hk16 : k < 16
    · have hki : (k : Int) < 16 := by omega
      have hb := HT.out.get k
      have hyl : ys.length ≤ 1000 := by rw [HY.out, pre_len t (by omega)]; unfold L; omega
      generalize hx0 : t.getD k 0 = x at *
      obtain ⟨X, rfl⟩ := Int.eq_ofNat_of_zero_le hb.1
      have hX : X < 256 := by omega
      obtain ⟨B, hB⟩ : ∃ B : Bool, B = decide (0 < k ∧ k % 4 = 0) := ⟨_, rfl⟩
      obtain ⟨U, hU⟩ : ∃ U : World, U = wr := ⟨_, rfl⟩
      go_upto_region 5 with fail
      go_cut [15] (fun tb wx => tb = .bool B ∧ U = wx)
      case first =>
        by_cases hp : 0 < k
        · have hp' : (0 : Int) < (k : Int) := by omega
          by_cases h4 : k % 4 = 0
          · have h4' : (k : Int) % 4 = 0 := by omega
            have h4t : (k : Int).tmod 4 = 0 := by rw [Int.tmod_eq_emod_of_nonneg (by omega)]; exact h4'
            go_wp2_with fail
            go_meet
            exact ⟨by rw [hB, decide_eq_true (by omega)], hU⟩
          · have h4' : ¬ (k : Int) % 4 = 0 := by omega
            have h4t : ¬ (k : Int).tmod 4 = 0 := by rw [Int.tmod_eq_emod_of_nonneg (by omega)]; exact h4'
            go_wp2_with fail
            go_meet
            exact ⟨by rw [hB, decide_eq_false (by omega), beq_false_of_ne h4'], hU⟩
        · have hp' : ¬ (0 : Int) < (k : Int) := by omega
          go_wp2_with fail
          go_meet
          exact ⟨by rw [hB, decide_eq_false (by omega)], hU⟩
      case rest =>
        obtain ⟨rfl, rfl⟩ := hcut
        subst hU
        go_upto_if 15 with fail
        go_cut [3] (fun tv wx => ∃ (zs : List Int) (ao : Option Addr) (cap : Nat), Hid (zs = (txt t).take (at0 k)) ∧ Hid (zs.length ≤ 2000) ∧ tv = .slice ao zs.length cap ∧ Ow wx (w.heap.size + 1) (.slice ao zs.length cap) zs ∧ Cw wx w.heap.size (cellsOf t) 27 ∧ Below w.heap.size w wx ∧ Hid (w.heap.size + 1 ≤ wx.heap.size))
        case first =>
          cases B with
          | true =>
            have hB2 : 0 < k ∧ k % 4 = 0 := of_decide_eq_true hB.symm
            clear hB
            go_wp2_with (at_builtin; refine wpList_append_bs _ rfl (.tmp 16) (.tmp 17) rfl (w.heap.size + 1) _ ys rfl (by exact ho.alloc' _) _ [45] rfl (by exact Bs_1 _ _) (by simp; omega) (by show _ ≤ (U.alloc _).heap.size; rw [World.size_alloc]; exact Nat.le_succ_of_le HSZ.out) ?_; intro ao5 cap5 W5 ho5 hg5 hn5)
            have hB5 := grown_below hg5 (ho.alloc' _) (by show _ ≤ (U.alloc _).heap.size; rw [World.size_alloc]; exact Nat.le_succ_of_le HSZ.out)
            have hB5' : Below (w.heap.size + 1) U W5 := ((Below.refl _ U).alloc HSZ.out _).trans ⟨hB5.os, hB5.tape, hB5.output, hB5.size, hB5.block⟩
            go_meet
            refine ⟨ys ++ [45], ao5, cap5, ?_, ?_, by simp, by rw [List.length_append]; exact ho5, hc.below hB5' (Nat.lt_succ_self _), bel.trans (hB5'.mono (by omega)), ?_⟩
            · show _ = _; rw [HY.out]; exact (pre_bar t hk16 hB2.1 hB2.2).symm
            · show _ ≤ _; simp; omega
            · show _ ≤ _; have := hB5'.size; have := HSZ.out; omega
          | false =>
            have hB2 : ¬ (0 < k ∧ k % 4 = 0) := of_decide_eq_false hB.symm
            clear hB
            go_wp2_with fail
            go_meet
            exact ⟨ys, ao, cap, by show _ = _; rw [HY.out]; exact (pre_none t hB2).symm, by show _ ≤ _; omega, rfl, ho, hc, bel, HSZ⟩
        case rest =>
          clear ho hc bel HSZ hyl HY hB
          obtain ⟨zs, ao, cap, HZ, HZL, rfl, ho, hc, bel, HSZ⟩ := hcut
          have e1 : bits .and .u8 (X : Int) 15 = ((X % 16 : Nat) : Int) := by
            have := u8_and_nat X 15 (by omega) (by decide)
            rw [nat_mask4] at this; exact this
          have HSUC := hid_into (pre_two t hk16)
          rw [hx0] at HSUC
          have hzl := HZL.out
          obtain ⟨c1, hc1⟩ : ∃ c, c = hx ((X / 16 : Nat) : Int) := ⟨_, rfl⟩
          obtain ⟨c2, hc2⟩ : ∃ c, c = hx ((X % 16 : Nat) : Int) := ⟨_, rfl⟩
          rw [show ((X : Nat) : Int) / 16 = ((X / 16 : Nat) : Int) by omega, show ((X : Nat) : Int) % 16 = ((X % 16 : Nat) : Int) by omega, ← hc1, ← hc2] at HSUC
          have hs1 : ∀ w, (Instr.index 9 (.string ⟨#[48, 49, 50, 51, 52, 53, 54, 55, 56, 57, 97, 98, 99, 100, 101, 102]⟩) (.int .u8 ((X : Int) / 16))).run Try.prog w = .ok (.int .u8 c1) w := by
            intro w; rw [show (X : Int) / 16 = ((X / 16 : Nat) : Int) by omega, hc1]; exact run_hexd (X / 16) (by omega) w
          have hs2 : ∀ w, (Instr.index 9 (.string ⟨#[48, 49, 50, 51, 52, 53, 54, 55, 56, 57, 97, 98, 99, 100, 101, 102]⟩) (.int .u8 ((X % 16 : Nat) : Int))).run Try.prog w = .ok (.int .u8 c2) w := by
            intro w; rw [hc2]; exact run_hexd (X % 16) (by omega) w
          have hs3 : ∀ w, (Instr.index 9 (.string ⟨#[48, 49, 50, 51, 52, 53, 54, 55, 56, 57, 97, 98, 99, 100, 101, 102]⟩) (.int .u8 ((X : Int) % 16))).run Try.prog w = .ok (.int .u8 c2) w := by
            intro w; rw [show (X : Int) % 16 = ((X % 16 : Nat) : Int) by omega]; exact hs2 w
          have ck := hc.byte k (by rw [HT.out.1]; exact hk16)
          rw [hx0] at ck
          have ck2 : wc.drew.cell? ⟨w.heap.size, k, none⟩ = some (.int .u8 (X : Int)) := ck
          have hoD : Ow wc.drew (w.heap.size + 1) (.slice ao zs.length cap) zs := ho
          obtain ⟨ao5, cap5, W5, hr5, ho5, hg5, _⟩ := run_append_bs (wc.drew.alloc (.cells #[.int .u8 c1, .int .u8 c2] 5)) (w.heap.size + 1) 22 _ zs (hoD.alloc' _) _ [c1, c2] (Bs_two wc.drew c1 c2) (by simp; omega) (by rw [World.size_alloc]; exact Nat.le_succ_of_le HSZ.out)
          have HR : Hid (∀ ty, (Builtin.append_ #[22, 22] ty #[.slice ao zs.length cap, .slice (some ⟨wc.heap.size, 0, none⟩) 2 2]).run Try.prog (wc.drew.alloc (.cells #[.int .u8 c1, .int .u8 c2] 5)) = .ok (.slice ao5 (zs.length + 2) cap5) W5) := fun ty => hr5
          have hB5 := grown_below hg5 (hoD.alloc' _) (by rw [World.size_alloc]; exact Nat.le_succ_of_le HSZ.out)
          have hB5' : Below (w.heap.size + 1) wc W5 := ((Below.refl _ wc).drew.alloc HSZ.out _).trans hB5
          have bel5 : Below w.heap.size w W5 := bel.trans (hB5'.mono (by omega))
          have hc5 : Cw W5 w.heap.size (cellsOf t) 27 := hc.below hB5' (Nat.lt_succ_self _)
          have HSZ5 : Hid (w.heap.size + 1 ≤ W5.heap.size) := by show _ ≤ _; have := hB5'.size; have := HSZ.out; omega
          have ho5' : Ow W5 (w.heap.size + 1) (.slice ao5 (zs ++ [c1, c2]).length cap5) (zs ++ [c1, c2]) := by rw [List.length_append]; exact ho5
          have HY5 : Hid (zs ++ [c1, c2] = pre t (k + 1)) := by show _ = _; rw [HZ.out]; exact HSUC.out.symm
          clear hB5 hB5' ho bel hg5 ho5 HSUC hc1 hc2 hx0 hr5 hoD hzl
          go_upto_region 7 with fail
          go_region_law (refine step_append_eq rfl 22 (.tmp 19) (.tmp 30) rfl _ _ _ rfl rfl HR.out ?_)
          all_goals (go_wp2_with fail)
          all_goals (exact ⟨⟨k + 1, _, ao5, cap5, by omega, by go_num, HY5, by simp, ho5', hc5, bel5, HSZ5⟩, by simp [intOf]; omega⟩)
    · have hk2 : k = 16 := by omega
      have hki : ¬ (k : Int) < 16 := by omega
      have HY2 : Hid (ys = txt t) := by
        show _ = _
        rw [HY.out, hk2, pre_all]
      have hne : ys ≠ [] := by
        intro e
        have := txt_len t
        rw [← HY2.out, e] at this; cases this
      obtain ⟨b, off, c, hv, h1, h2, h3⟩ := ho.bs.form hne
      simp only [Value.slice.injEq] at hv
      obtain ⟨rfl, _, rfl⟩ := hv
      have hcv := hid_into (run_convert_bytes_arg wr 22 5 Try.underlying22 Try.underlying5 b off ys.length cap ys rfl h3 9 Try.underlying9)
      clear h3 hne ho
      go_wp2_with fail
      rw [hcv.out]
      go_wp2_with fail
      go_ret
      exact ⟨by rw [HY2.out]; rfl, bel⟩
end Go.Proofs.Ytkfnmdhhiigceaa
