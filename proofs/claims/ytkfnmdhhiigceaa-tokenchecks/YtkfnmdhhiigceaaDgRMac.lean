/-
  The document's own Mac, by contract.
-/
import Derived.Test.YtkfnmdhhiigceaaDgRSum
import Derived.Test.YtkfnmdhhiigceaaDgBKey
import Derived.Deep.DeepCutAuto
namespace Go.Proofs.Ytkfnmdhhiigceaa.Dg
open Go.RowKit
theorem keyN_long {key : List Int} (h : (64 : Int) < (key.length : Int)) : keyN key = shaN key ++ zeroB (64 - (shaN key).length) := by
  rw [keyN, if_pos (by omega), shaN_length]; rfl
theorem keyN_short {key : List Int} (h : ¬ (64 : Int) < (key.length : Int)) : keyN key = key ++ zeroB (64 - key.length) := by
  rw [keyN, if_neg (by omega)]; rfl
theorem wp_make_b {o : Oper} {a : Act} {w : World} {K : Act → World → Prop} {Q : Exit → Act → World → Prop} (l c : Operand) (ho : o.op = .makeSlice 22 l c) (n : Nat) (hl : a.eval l = .int .i64 (n : Int)) (hc : a.eval c = .int .i64 (n : Int)) (hn : n ≤ 1000000)
    (h : ∀ W, Cw W w.heap.size (cellsOf (zeroB n)) 5 → Below w.heap.size w W → Hid (W.heap.size = w.heap.size + 1) → K (a.put o.dst (.slice (some ⟨w.heap.size, 0, none⟩) n n)) W) : Oper.wp Try.prog o a w K Q := by
  have hrun := run_make_row' (P := Try.prog) 22 5 (.int .u8 0) 1 Try.underlying22 Try.info5 rfl .i64 .i64 n (by omega) (by omega) w
  rw [made_zero] at hrun
  unfold Oper.wp execOp
  simp only [ho, hl, hc, hrun, Sem.run_bind, Sem.run_pure, Result.andThen_ok]
  exact h _ (Cw.new w _ 5) ((Below.refl _ _).alloc (Nat.le_refl _) _) (World.size_alloc _ _)
set_option maxRecDepth 20000 in
set_option maxHeartbeats 1600000 in
theorem rmac_any (vk v : Value) (key bs : List Int) (w : World) (hk : Bs w vk key) (hb : Bs w v bs) (hky : Byt key) (hby : Byt bs) (hkn : key.length ≤ 100000) (hn : bs.length ≤ 100000) :
    Calls Try.prog 22 #[vk, v] w fun e w' => e = .returned (.agg (cellsOf (macN key bs)).toArray) ∧ Below w.heap.size w w' := by
  obtain ⟨a1, c1, hv, hm1⟩ := hb.len
  subst hv
  obtain ⟨a0, c0, hv0, hm0⟩ := hk.len
  subst hv0
  unfold maxLen at hm1 hm0
  obtain ⟨fl, hfl⟩ : ∃ fl, fl = cellsOf (macN key bs) := ⟨_, rfl⟩
  obtain ⟨zl, hzl⟩ : ∃ zl, zl = cellsOf (zeroB 32) := ⟨_, rfl⟩
  obtain ⟨K, hK⟩ : ∃ K, K = keyN key := ⟨_, rfl⟩
  rw [← hfl]
  have ZL : Hid ((Try.prog.info? 48).bind (·.zero) = some (.agg zl.toArray)) := by rw [hzl]; exact Try.zero48
  have HIz : Hid ((Try.prog.info? 48).map (·.size) = some zl.length) := by rw [hzl]; exact hsB Try.size48 (zeroB_len 32)
  have HIf : Hid ((Try.prog.info? 48).map (·.size) = some fl.length) := by rw [hfl]; exact hsB Try.size48 (shaN_length _)
  have HLf : Hid (zl.length = fl.length) := by rw [hzl, hfl]; exact hlB (by rw [zeroB_len]; exact (shaN_length _).symm)
  have HCf : Hid (∀ v ∈ fl, v.oneCell' = true) := by rw [hfl]; exact cellsOf_one _
  have HKL : Hid (K.length = 64) := by rw [hK]; exact keyN_len key
  have HKB : Hid (Byt K) := by rw [hK]; exact keyN_byt hky
  have HFL : Hid (fl = cellsOf (shaN (xorL 92 K ++ shaN (xorL 54 K ++ bs)))) := by rw [hfl, hK]; rfl
  have HKE := hid_into hK
  have HZL := hid_into hzl
  clear hfl hzl hK
  go_enter Try.func22, Try.ntmps22
  refine wp_seq (wp_region_lit (wpList_alloc_row rfl 48 rfl zl ZL.out ?_))
  intro W1 hc1 B1 HS1
  refine wpList_nil ?_
  have hk1 := hk.below B1 (Nat.le_refl _)
  clear hk
  go_upto_if 13 with fail
  go_cut [0] (fun kv wx => ∃ (ak : Option Addr) (ck : Nat) (ks : List Int), kv = .slice ak ks.length ck ∧ Bs wx (.slice ak ks.length ck) ks ∧ ks.length ≤ 64 ∧ K = ks ++ zeroB (64 - ks.length) ∧ Cw wx w.heap.size zl 48 ∧ Below w.heap.size w wx ∧ w.heap.size + 1 ≤ wx.heap.size)
  case first =>
    by_cases hk64 : (64 : Int) < (key.length : Int)
    · have HKK : Hid (K = shaN key ++ zeroB (64 - (shaN key).length)) := by rw [HKE.out]; exact keyN_long hk64
      go_wp2_with fail
      refine (rsum_any _ key W1 hk1 hky (by omega)).mono ?_
      rintro e W2 ⟨rfl, B2⟩
      have hl32 := shaN_length key
      generalize shaN key = sh at *
      have HSH := hid_into hl32
      have HIsh := hsB (ws := sh) Try.size48 hl32
      have HLsh : Hid (zl.length = (cellsOf sh).length) := by rw [HZL.out]; exact hlB (by rw [zeroB_len, hl32])
      clear hl32
      go_wp2_with (first
        | (refine wpList_alloc_row rfl 48 rfl zl ZL.out ?_; intro W3 hh3 B3 HS3)
        | (refine wpList_store_rw rfl 48 (.tmp 5) (.tmp 15) rfl W2.heap.size zl (cellsOf sh) 48 rfl rfl hh3 HIz HLsh (cellsOf_one sh) ?_; intro W4 hh4 O4))
      go_meet
      have hbs := hh4.bs (by rw [HSH.out]; unfold maxLen; omega)
      rw [HSH.out] at hbs
      have hs1 := HS1.out
      have hs2 := B2.size
      exact ⟨_, 32, sh, by rw [HSH.out], by rw [HSH.out]; exact hbs, by rw [HSH.out]; omega, HKK.out, O4.cw ((hc1.below B2 hc1.lt).below B3 (by omega)) (by omega), ((B1.trans (B2.mono (by omega))).trans (B3.mono (by omega))).trans (O4.below (by omega)), by rw [O4.size, HS3.out]; omega⟩
    · have HKK : Hid (K = key ++ zeroB (64 - key.length)) := by rw [HKE.out]; exact keyN_short hk64
      go_wp2_with fail
      go_meet
      exact ⟨a0, c0, key, rfl, hk1, by omega, HKK.out, hc1, B1, by rw [HS1.out]; omega⟩
  case rest =>
  clear hk1 hc1 B1 HS1 hm0 hky hkn
  obtain ⟨ak, ck, ks, rfl, hks, hkl, hKe, hcw, bel, hsz⟩ := hcut
  have HKE2 := hid_into hKe
  clear hKe
  have hb2 := hb.below bel (Nat.le_refl _)
  clear hb
  rename World => W4
  go_upto_region 4 with fail
  go_cut [6, 7] (fun av bv wx => ∃ A B : Nat, av = .slice (some ⟨A, 0, none⟩) 64 64 ∧ bv = .slice (some ⟨B, 0, none⟩) 64 64 ∧ Cw wx A (cellsOf (zeroB 64)) 5 ∧ Cw wx B (cellsOf (zeroB 64)) 5 ∧ A ≠ B ∧ W4.heap.size ≤ A ∧ W4.heap.size ≤ B ∧ Below W4.heap.size W4 wx)
  case first =>
    refine wp_region_any (by kernel_rfl) ?_
    change wpAny _ _ _ _ _ _ _ (World.drew _)
    refine wpAny_ready (rs := [0, 1]) (by kernel_rfl) (by simp) ?_
    refine AllReady.cons rfl (fun KK hK => ?_) (AllReady.cons rfl (fun KK hK => ?_) AllReady.nil)
    · rw [if_pos (by rfl)]
      refine wp_make_b _ _ rfl 64 rfl rfl (by omega) ?_
      intro Wa ha Ba HSa
      refine hK _ _ ?_
      clear hK KK
      refine wpAny_take (i := 2) (v := .slice (some ⟨W4.heap.size, 0, none⟩) 64 64) rfl (by kernel_rfl) (by kernel_rfl) (by kernel_rfl) (fun _ _ _ h => h) (Or.inl ⟨by rfl, by intro w; go_simp⟩) ?_
      refine wpAny_ready (rs := [1]) (by kernel_rfl) (by simp) ?_
      refine AllReady.cons rfl (fun KK hK => ?_) AllReady.nil
      rw [if_pos (by rfl)]
      refine wp_make_b _ _ rfl 64 rfl rfl (by omega) ?_
      intro Wb hb Bb HSb
      refine hK _ _ ?_
      clear hK KK
      refine wpAny_take (i := 3) (v := .slice (some ⟨Wa.heap.size, 0, none⟩) 64 64) rfl (by kernel_rfl) (by kernel_rfl) (by kernel_rfl) (fun _ _ _ h => h) (Or.inl ⟨by rfl, by intro w; go_simp⟩) ?_
      refine wpAny_done (by kernel_rfl) ?_ _
      have hsa : Wa.heap.size = W4.heap.size + 1 := HSa.out
      have Ba' : Below W4.heap.size W4 Wa := ⟨Ba.os, Ba.tape, Ba.output, Ba.size, Ba.block⟩
      have ha' : Cw Wa W4.heap.size (cellsOf (zeroB 64)) 5 := ha
      clear ha Ba HSa
      replace hsa := hid_into hsa
      go_wp2_with fail
      go_meet
      have hsa := hsa.out
      exact ⟨_, _, rfl, rfl, ha'.below Bb ha'.lt, hb, by omega, by omega, by omega, Ba'.trans (Bb.mono (by omega))⟩
    · rw [if_pos (by rfl)]
      refine wp_make_b _ _ rfl 64 rfl rfl (by omega) ?_
      intro Wa ha Ba HSa
      refine hK _ _ ?_
      clear hK KK
      refine wpAny_ready (rs := [0]) (by kernel_rfl) (by simp) ?_
      refine AllReady.cons rfl (fun KK hK => ?_) AllReady.nil
      rw [if_pos (by rfl)]
      refine wp_make_b _ _ rfl 64 rfl rfl (by omega) ?_
      intro Wb hb Bb HSb
      refine hK _ _ ?_
      clear hK KK
      refine wpAny_take (i := 2) (v := .slice (some ⟨Wa.heap.size, 0, none⟩) 64 64) rfl (by kernel_rfl) (by kernel_rfl) (by kernel_rfl) (fun _ _ _ h => h) (Or.inl ⟨by rfl, by intro w; go_simp⟩) ?_
      refine wpAny_take (i := 3) (v := .slice (some ⟨W4.heap.size, 0, none⟩) 64 64) rfl (by kernel_rfl) (by kernel_rfl) (by kernel_rfl) (fun _ _ _ h => h) (Or.inl ⟨by rfl, by intro w; go_simp⟩) ?_
      refine wpAny_done (by kernel_rfl) ?_ _
      have hsa : Wa.heap.size = W4.heap.size + 1 := HSa.out
      have Ba' : Below W4.heap.size W4 Wa := ⟨Ba.os, Ba.tape, Ba.output, Ba.size, Ba.block⟩
      have ha' : Cw Wa W4.heap.size (cellsOf (zeroB 64)) 5 := ha
      clear ha Ba HSa
      replace hsa := hid_into hsa
      go_wp2_with fail
      go_meet
      have hsa := hsa.out
      exact ⟨_, _, rfl, rfl, hb, ha'.below Bb ha'.lt, by omega, by omega, by omega, Ba'.trans (Bb.mono (by omega))⟩
  case rest =>
  rename World => W5
  obtain ⟨A, B, rfl, rfl, hA, hB, hAB, hA0, hB0, B5⟩ := hcut
  have HXL : Hid ((xorL 92 K).length = 64) := by show _ = _; rw [xorL_len, HKL.out]
  have HYL : Hid ((xorL 54 K).length = 64) := by show _ = _; rw [xorL_len, HKL.out]
  obtain ⟨Z, hZ⟩ : ∃ Z, Z = zeroB 64 := ⟨_, rfl⟩
  rw [← hZ] at hA hB
  have HZl : Hid (Z.length = 64) := by rw [hZ]; exact zeroB_len 64
  clear hZ
  go_wp2_with fail
  go_loopw [8] (fun iv wx => ∃ i : Nat, i ≤ 64 ∧ iv = .int .i64 (i : Int) ∧ Cw wx A (cellsOf ((xorL 92 K).take i ++ Z.drop i)) 5 ∧ Cw wx B (cellsOf ((xorL 54 K).take i ++ Z.drop i)) 5 ∧ Below W4.heap.size W4 wx) (fun iv _ => 64 - (intOf iv).toNat)
  case atStart => exact ⟨0, Nat.zero_le _, rfl, hA, hB, B5⟩
  case round =>
    obtain ⟨i, hi, rfl, hAr, hBr, belr⟩ := hrel
    clear hA hB B5
    by_cases hi64 : i < 64
    · have hkr := hks.below belr (Nat.le_refl _)
      have hlA : ((xorL 92 K).take i ++ Z.drop i).length = 64 := by rw [List.length_append, List.length_take, List.length_drop, HXL.out, HZl.out]; omega
      have hlB : ((xorL 54 K).take i ++ Z.drop i).length = 64 := by rw [List.length_append, List.length_take, List.length_drop, HYL.out, HZl.out]; omega
      have cA := hAr.byte i (by rw [hlA]; exact hi64)
      have fA := hAr.frozen i
      have hBx : ∀ x, Cw (wr.setCell ⟨A, i, none⟩ x) B (cellsOf ((xorL 54 K).take i ++ Z.drop i)) 5 := fun x => hBr.keep (Below.heap_setCell _ _ _ _ (Ne.symm hAB))
      have cB := fun x => (hBx x).byte i (by rw [hlB]; exact hi64)
      have fB := fun x => (hBx x).frozen i
      have RA : ∀ y, Cw ((wr.setCell ⟨A, i, none⟩ (.int .u8 ((xorL 92 K).getD i 0))).setCell ⟨B, i, none⟩ y) A (cellsOf ((xorL 92 K).take (i + 1) ++ Z.drop (i + 1))) 5 := fun y => by
        have h := hAr.setB i ((xorL 92 K).getD i 0)
        rw [take_setJ _ Z i (by rw [HZl.out]; exact hi64) (by rw [HXL.out, HZl.out])] at h
        exact h.keep (Below.heap_setCell _ _ _ _ hAB)
      have RB : ∀ x, Cw ((wr.setCell ⟨A, i, none⟩ x).setCell ⟨B, i, none⟩ (.int .u8 ((xorL 54 K).getD i 0))) B (cellsOf ((xorL 54 K).take (i + 1) ++ Z.drop (i + 1))) 5 := fun x => by
        have h := (hBx x).setB i ((xorL 54 K).getD i 0)
        rw [take_setJ _ Z i (by rw [HZl.out]; exact hi64) (by rw [HYL.out, HZl.out])] at h
        exact h
      have RL : ∀ x y, Below W4.heap.size W4 ((wr.setCell ⟨A, i, none⟩ x).setCell ⟨B, i, none⟩ y) := fun x y => (belr.setCell (p := ⟨A, i, none⟩) hA0 x).setCell (p := ⟨B, i, none⟩) hB0 y
      rw [xorL_get 92 K i (by rw [HKL.out]; exact hi64)] at RA
      rw [xorL_get 54 K i (by rw [HKL.out]; exact hi64)] at RB
      have hbd := HKB.out.get i
      replace RL := hid_into RL
      have hi' : (i : Int) < 64 := by omega
      clear hBx hAr hBr hlA hlB belr
      by_cases hik : i < ks.length
      · obtain ⟨b, off, c, hv, hc1, hc2, hcell⟩ := hkr.form (by intro e; rw [e] at hik; simp at hik)
        simp only [Value.slice.injEq] at hv
        obtain ⟨rfl, _, rfl⟩ := hv
        have hck := hcell i hik
        have hKi : K.getD i 0 = ks.getD i 0 := by rw [HKE2.out]; simp [List.getD, List.getElem?_append_left hik]
        rw [hKi] at RA RB hbd
        clear hcell hkr hKi hks
        generalize ks.getD i 0 = x at *
        obtain ⟨X, rfl⟩ := Int.eq_ofNat_of_zero_le hbd.1
        rw [Int.toNat_natCast] at RA RB
        have e1 : bits .xor .u8 (X : Int) 92 = ((X ^^^ 92 : Nat) : Int) := u8_xor_nat X 92 (by omega) (by decide)
        have e2 : bits .xor .u8 (X : Int) 54 = ((X ^^^ 54 : Nat) : Int) := u8_xor_nat X 54 (by omega) (by decide)
        replace RA := hid_into RA
        replace RB := hid_into RB
        have hik' : (i : Int) < (ks.length : Int) := by omega
        unfold maxLen at hc2
        go_wp2_with fail
        go_roundw
        case rel => exact ⟨i + 1, by omega, by go_num, RA.out _, RB.out _, RL.out _ _⟩
        case measure => simp [intOf]; omega
      · have hKi : K.getD i 0 = 0 := by rw [HKE2.out]; simp [List.getD, zeroB, List.getElem?_append_right (Nat.le_of_not_lt hik), List.getElem?_replicate]; split <;> rfl
        rw [hKi] at RA RB
        have e1 : bits .xor .u8 0 92 = 92 := by decide
        have e2 : bits .xor .u8 0 54 = 54 := by decide
        have hik' : ¬ (i : Int) < (ks.length : Int) := by omega
        clear hkr hKi hks
        replace RA := hid_into RA
        replace RB := hid_into RB
        go_wp2_with fail
        go_roundw
        case rel => exact ⟨i + 1, by omega, by go_num, RA.out _, RB.out _, RL.out _ _⟩
        case measure => simp [intOf]; omega
    · have eA : (xorL 92 K).take i ++ Z.drop i = xorL 92 K := by
        rw [List.take_of_length_le (by rw [HXL.out]; omega), List.drop_of_length_le (by rw [HZl.out]; omega), List.append_nil]
      have eB : (xorL 54 K).take i ++ Z.drop i = xorL 54 K := by
        rw [List.take_of_length_le (by rw [HYL.out]; omega), List.drop_of_length_le (by rw [HZl.out]; omega), List.append_nil]
      rw [eA] at hAr
      rw [eB] at hBr
      have HXB := hid_into (xorL_byt (m := 92) (by decide) HKB.out)
      have HYB := hid_into (xorL_byt (m := 54) (by decide) HKB.out)
      have hbr := hb2.below belr (Nat.le_refl _)
      have hcr := hcw.below belr hcw.lt
      have BBr := bel.trans (belr.mono (by omega))
      clear eA eB hb2 hcw bel HKE HKE2 hks HZl
      generalize xorL 92 K = O9 at *
      generalize xorL 54 K = I5 at *
      have hoB : Ow wr W4.heap.size (.slice (some ⟨B, 0, none⟩) 64 64) I5 := by
        have h := Ow_of_block hBr (by rw [HYL.out]; unfold maxLen; omega) hB0
        rw [HYL.out] at h; exact h
      have hszr := belr.size
      have HNE : Hid (some A ≠ (Value.slice (some ⟨B, 0, none⟩) 64 64).ownBlock) := by show _ ≠ _; simp [Value.ownBlock]; exact hAB
      have hi' : ¬ (i : Int) < 64 := by omega
      clear hBr belr HKL HKB
      go_wp2_with (at_builtin; refine wpList_append_bs _ rfl (.tmp 41) (.tmp 42) rfl W4.heap.size _ I5 rfl hoB _ bs rfl hbr (by rw [HYL.out]; omega) hszr ?_; intro ao6 cap6 W6 ho6 hg6 hat6; have B6 : Below W4.heap.size wr W6 := grown_below hg6 hoB hszr; have hA6 : Cw W6 A (cellsOf O9) 5 := hAr.keep (hg6.block A hAr.lt HNE.out); have hcr6 : Cw W6 w.heap.size zl 48 := hcr.below B6 (by omega); have BB6 := BBr.trans (B6.mono (by omega)); have hsz6 := B6.size; have hbo : Bs W6 (.slice ao6 (I5.length + bs.length) cap6) (I5 ++ bs) := (by have e := (ow_len ho6).bs; rw [List.length_append] at e; exact e); clear hg6 hat6 B6 hoB ho6 hAr hcr BBr)
      have HN6 : Hid ((I5 ++ bs).length ≤ 1000000) := by show _ ≤ _; rw [List.length_append, HYL.out]; omega
      refine (rsum_any _ (I5 ++ bs) W6 hbo (HYB.out.append hby) HN6.out).mono ?_
      rintro e W7 ⟨rfl, B7⟩
      have hA7 := hA6.below B7 hA6.lt
      have hc7 := hcr6.below B7 hcr6.lt
      have BB7 : Below w.heap.size w W7 := BB6.trans (B7.mono (by omega))
      have hsz7 := B7.size
      have HIL := hid_into (shaN_length (I5 ++ bs))
      have HIB := hid_into (shaN_byt (I5 ++ bs))
      generalize shaN (I5 ++ bs) = I at *
      have HLI : Hid (zl.length = (cellsOf I).length) := by rw [HZL.out]; exact hlB (by rw [zeroB_len, HIL.out])
      have HCI := hid_into (cellsOf_one I)
      clear hA6 hcr6 BB6 B7 hbo
      go_wp2_with (first
        | (refine wpList_alloc_row rfl 48 rfl zl ZL.out ?_; intro W8 hi8 B8 HS8)
        | (refine wpList_store_rw rfl 48 (.tmp 10) (.tmp 44) rfl W7.heap.size zl (cellsOf I) 48 rfl rfl hi8 HIz HLI HCI.out ?_; intro W9 hi9 O9x; have hA9 : Cw W9 A (cellsOf O9) 5 := O9x.cw (hA7.below B8 hA7.lt) (Nat.ne_of_lt hA7.lt); have hc9 : Cw W9 w.heap.size zl 48 := O9x.cw (hc7.below B8 hc7.lt) (Nat.ne_of_lt hc7.lt); have BB9 : Below w.heap.size w W9 := (BB7.trans (B8.mono (by omega))).trans (O9x.below (by omega)); have hsz9 : W7.heap.size ≤ W9.heap.size := (by rw [O9x.size]; exact B8.size); have hbi9 : Bs W9 (.slice (some ⟨W7.heap.size, 0, none⟩) 32 32) I := (by have h := hi9.bs (by rw [HIL.out]; unfold maxLen; omega); rw [HIL.out] at h; exact h); have hoA : Ow W9 W4.heap.size (.slice (some ⟨A, 0, none⟩) 64 64) O9 := (by have h := Ow_of_block hA9 (by rw [HXL.out]; unfold maxLen; omega) hA0; rw [HXL.out] at h; exact h); have hsz10 : W4.heap.size ≤ W9.heap.size := (by omega); clear hA9 hi9 O9x B8 hi8 HS8 hA7 hc7 BB7)
        | (at_builtin; refine wpList_append_bs _ rfl (.tmp 45) (.tmp 46) rfl W4.heap.size _ O9 rfl hoA _ I rfl hbi9 (by rw [HXL.out, HIL.out]; omega) hsz10 ?_; intro aoA capA WA hoA2 hgA hatA; have BA : Below W4.heap.size W9 WA := grown_below hgA hoA hsz10; have hcA : Cw WA w.heap.size zl 48 := hc9.below BA (by omega); have BBA := BB9.trans (BA.mono (by omega)); have hszA := BA.size; have hboA : Bs WA (.slice aoA (O9.length + I.length) capA) (O9 ++ I) := (by have e := (ow_len hoA2).bs; rw [List.length_append] at e; exact e); clear hgA hatA BA hoA hoA2 hc9 BB9 hbi9))
      have HNA : Hid ((O9 ++ I).length ≤ 1000000) := by show _ ≤ _; rw [List.length_append, HXL.out, HIL.out]; omega
      refine (rsum_any _ (O9 ++ I) WA hboA (HXB.out.append HIB.out) HNA.out).mono ?_
      rintro e WB ⟨rfl, BB⟩
      have hcB := hcA.below BB hcA.lt
      have BBB : Below w.heap.size w WB := BBA.trans (BB.mono (by omega))
      rw [show cellsOf (shaN (O9 ++ I)) = fl from HFL.out.symm]
      go_wp2_with (refine wpList_store_rw rfl 48 (.tmp 4) (.tmp 48) rfl w.heap.size zl fl 48 rfl rfl hcB HIz HLf HCf.out ?_; intro WC hcC OC)
      exact ret_row rfl rfl rfl hcC Try.underlying48 rfl HIf ⟨rfl, BBB.trans (OC.below (Nat.le_refl _))⟩
end Go.Proofs.Ytkfnmdhhiigceaa.Dg
