/-
  digest.Mac and Link, by contracts: the digest under a key; the digest of a digest and bytes.
-/
import Derived.Test.YtkfnmdhhiigceaaDgBKey
namespace Go.Proofs.Ytkfnmdhhiigceaa.Dg
open Go.RowKit
theorem Cw_two (w : World) (v1 v2 : Value) : Cw (w.alloc (.cells #[v1, v2] 22)) w.heap.size [v1, v2] 22 := Cw.new w [v1, v2] 22
set_option maxRecDepth 20000 in
set_option maxHeartbeats 800000 in
theorem mac_any (vk v : Value) (key bs : List Int) (w : World) (hk : Bs w vk key) (hb : Bs w v bs) (hky : Byt key) (hby : Byt bs) (hkn : key.length ≤ 100000) (hn : bs.length ≤ 100000) :
    Calls Try.prog 19 #[vk, v] w fun e w' => e = .returned (.agg (cellsOf (macN key bs)).toArray) ∧ Below w.heap.size w w' := by
  obtain ⟨a0, c0, hv, _⟩ := hb.len
  subst hv
  obtain ⟨fl, hfl⟩ : ∃ fl, fl = cellsOf (macN key bs) := ⟨_, rfl⟩
  obtain ⟨zl, hzl⟩ : ∃ zl, zl = cellsOf (zeroB 32) := ⟨_, rfl⟩
  obtain ⟨z64, hz64⟩ : ∃ z64, z64 = cellsOf (zeroB 64) := ⟨_, rfl⟩
  obtain ⟨K, hK⟩ : ∃ K, K = keyN key := ⟨_, rfl⟩
  rw [← hfl]
  have ZL : Hid ((Try.prog.info? 48).bind (·.zero) = some (.agg zl.toArray)) := by rw [hzl]; exact Try.zero48
  have HIz : Hid ((Try.prog.info? 48).map (·.size) = some zl.length) := by rw [hzl]; exact hsB Try.size48 (zeroB_len 32)
  have HIf : Hid ((Try.prog.info? 48).map (·.size) = some fl.length) := by rw [hfl]; exact hsB Try.size48 (shaN_length _)
  have HLf : Hid (zl.length = fl.length) := by rw [hzl, hfl]; exact hlB (by rw [zeroB_len]; exact (shaN_length _).symm)
  have HCf : Hid (∀ v ∈ fl, v.oneCell' = true) := by rw [hfl]; exact cellsOf_one _
  have Z64 : Hid ((Try.prog.info? 58).bind (·.zero) = some (.agg z64.toArray)) := by rw [hz64]; exact Try.zero58
  have HI64 : Hid ((Try.prog.info? 58).map (·.size) = some z64.length) := by rw [hz64]; exact hsB Try.size58 (zeroB_len 64)
  have HKL : Hid (K.length = 64) := by rw [hK]; exact keyN_len key
  have HKB : Hid (Byt K) := by rw [hK]; exact keyN_byt hky
  have HIK := hsB (ws := K) Try.size58 HKL.out
  have HLK : Hid (z64.length = (cellsOf K).length) := by rw [hz64]; exact hlB (by rw [zeroB_len, HKL.out])
  have HCK := hid_into (cellsOf_one K)
  have HFL : Hid (fl = cellsOf (shaN (xorL 92 K ++ shaN (xorL 54 K ++ bs)))) := by rw [hfl, hK]; rfl
  have HKE := hid_into hK
  have HZL := hid_into hzl
  clear hfl hzl hz64 hK
  go_enter Try.func19, Try.ntmps19
  refine wp_seq (wp_region_lit (wpList_alloc_row rfl 48 rfl zl ZL.out ?_))
  intro W1 hc1 B1 HS1
  refine wpList_nil ?_
  have hk1 := hk.below B1 (Nat.le_refl _)
  go_wp2_with fail
  refine (bkey_any vk key W1 hk1 hky (by omega)).mono ?_
  rintro e W2 ⟨rfl, B2⟩
  rw [← HKE.out]
  have hc2 := hc1.below B2 hc1.lt
  have BB2 : Below w.heap.size w W2 := B1.trans (B2.mono (by rw [HS1.out]; omega))
  have HS2 : Hid (w.heap.size + 1 ≤ W2.heap.size) := by show _ ≤ _; have := B2.size; rw [HS1.out] at this; exact this
  clear hc1 B1 B2 HS1 hk1
  go_wp2_with (first
    | (refine wpList_alloc_row rfl 58 rfl z64 Z64.out ?_; intro W3 hk3 B3 HS3)
    | (refine wpList_store_rw rfl 58 (.tmp 5) (.tmp 8) rfl W2.heap.size z64 (cellsOf K) 58 rfl rfl hk3 HI64 HLK HCK.out ?_; intro W4 hk4 O4)
    | (refine wpList_load_rw rfl 58 (.tmp 5) rfl W2.heap.size (cellsOf K) 58 _ rfl hk4 Try.underlying58 rfl HIK ?_))
  obtain ⟨kb, hkb⟩ : ∃ kb, kb = W2.heap.size := ⟨_, rfl⟩
  rw [← hkb] at hk4 HS2 O4
  simp only [← hkb]
  have hc4 : Cw W4 w.heap.size zl 48 := O4.cw (hc2.below B3 hc2.lt) (by have := HS2.out; omega)
  have BB4 : Below w.heap.size w W4 := (BB2.trans (B3.mono (by have := HS2.out; omega))).trans (O4.below (by have := HS2.out; omega))
  have HS4 : Hid (W4.heap.size = kb + 1) := by show _ = _; rw [O4.size, HS3.out, hkb]
  have hb4 := hb.below BB4 (Nat.le_refl _)
  clear hc2 BB2 B3 HS3 hk3 O4 hkb hk
  refine (masked_any K 54 W4 HKL.out HKB.out (by decide)).mono ?_
  rintro e W5 ⟨rfl, hm5, B5⟩
  have hc5 := hc4.below B5 hc4.lt
  have hk5 := hk4.below B5 hk4.lt
  have hb5 := hb4.below B5 (Nat.le_refl _)
  have BB5 : Below w.heap.size w W5 := BB4.trans (B5.mono (by have := HS4.out; have := HS2.out; omega))
  have HS5 : Hid (kb + 1 ≤ W5.heap.size) := by show _ ≤ _; have := B5.size; have := HS4.out; omega
  have HXL : Hid ((xorL 54 K).length = 64) := by show _ = _; rw [xorL_len, HKL.out]
  have HXB := hid_into (xorL_byt (m := 54) (by decide) HKB.out)
  have HYL : Hid ((xorL 92 K).length = 64) := by show _ = _; rw [xorL_len, HKL.out]
  have HYB := hid_into (xorL_byt (m := 92) (by decide) HKB.out)
  have HBYB := hid_into hby
  generalize xorL 54 K = X at *
  obtain ⟨Y, hY⟩ : ∃ Y, Y = xorL 92 K := ⟨_, rfl⟩
  rw [← hY] at HFL HYL HYB
  have HYE := hid_into hY
  clear hc4 hk4 hb4 BB4 B5 hY
  go_wp2_with fail
  refine (concat_two W5.heap.size _ _ X bs _ (Cw_two W5 _ _) (hm5.below ((Below.refl _ _).alloc (Nat.le_refl _) _) (Nat.le_refl _)) (hb5.below ((Below.refl _ _).alloc (Nat.le_refl _) _) (Nat.le_refl _)) (by rw [HXL.out]; omega) (by omega)).mono ?_
  rintro e W6 ⟨ao6, cap6, rfl, ho6, B6⟩
  have B6' : Below W5.heap.size W5 W6 := ((Below.refl _ W5).alloc (Nat.le_refl _) _).trans (B6.mono (by rw [World.size_alloc]; omega))
  have hc6 := hc5.below B6' hc5.lt
  have hk6 := hk5.below B6' hk5.lt
  have BB6 : Below w.heap.size w W6 := BB5.trans (B6'.mono (by have := HS5.out; have := HS2.out; omega))
  have HS6 : Hid (kb + 1 ≤ W6.heap.size) := by show _ ≤ _; have := B6'.size; have := HS5.out; omega
  have hbo6 := ho6.bs
  have HN6 : Hid ((X ++ bs).length ≤ 1000000) := by show _ ≤ _; rw [List.length_append, HXL.out]; omega
  clear hc5 hk5 hb5 BB5 B6 B6' hm5 ho6
  go_wp2_with fail
  refine (sum_any _ (X ++ bs) W6 (by simpa using hbo6) (HXB.out.append HBYB.out) HN6.out).mono ?_
  rintro e W7 ⟨rfl, B7⟩
  have hc7 := hc6.below B7 hc6.lt
  have hk7 := hk6.below B7 hk6.lt
  have BB7 : Below w.heap.size w W7 := BB6.trans (B7.mono (by have := HS6.out; have := HS2.out; omega))
  have HS7 : Hid (kb + 1 ≤ W7.heap.size) := by show _ ≤ _; have := B7.size; have := HS6.out; omega
  have HIL := hid_into (shaN_length (X ++ bs))
  have HIB := hid_into (shaN_byt (X ++ bs))
  generalize shaN (X ++ bs) = I at *
  have HII := hsB (ws := I) Try.size48 HIL.out
  have HLI : Hid (zl.length = (cellsOf I).length) := by rw [HZL.out]; exact hlB (by rw [zeroB_len, HIL.out])
  have HCI := hid_into (cellsOf_one I)
  clear hc6 hk6 BB6 B7 hbo6
  go_wp2_with (first
    | (refine wpList_alloc_row rfl 48 rfl zl ZL.out ?_; intro W8 hi8 B8 HS8)
    | (refine wpList_store_rw rfl 48 (.tmp 6) (.tmp 14) rfl W7.heap.size zl (cellsOf I) 48 rfl rfl hi8 HIz HLI HCI.out ?_; intro W9 hi9 O9))
  obtain ⟨ib, hib⟩ : ∃ ib, ib = W7.heap.size := ⟨_, rfl⟩
  rw [← hib] at hi9 HS7 O9
  simp only [← hib]
  have hc9 : Cw W9 w.heap.size zl 48 := O9.cw (hc7.below B8 hc7.lt) (by have := HS7.out; have := HS2.out; omega)
  have hk9 : Cw W9 kb (cellsOf K) 58 := O9.cw (hk7.below B8 hk7.lt) (by have := HS7.out; omega)
  have BB9 : Below w.heap.size w W9 := (BB7.trans (B8.mono (by have := HS7.out; have := HS2.out; omega))).trans (O9.below (by have := HS7.out; have := HS2.out; omega))
  have HS9 : Hid (W9.heap.size = ib + 1) := by show _ = _; rw [O9.size, HS8.out, hib]
  have hbi9 := hi9.bs (by rw [HIL.out]; unfold maxLen; omega)
  rw [HIL.out] at hbi9
  clear hc7 hk7 BB7 B8 HS8 hi8 O9 hib
  refine wp_region_any (by kernel_rfl) ?_
  change wpAny _ _ _ _ _ _ _ (World.drew _)
  refine wpAny_take (i := 2) (v := .slice (some ⟨ib, 0, none⟩) 32 32) rfl (by kernel_rfl) (by kernel_rfl) (by kernel_rfl) (fun _ _ _ h => h) (Or.inl ⟨by rfl, by intro w; go_simp⟩) ?_
  refine wpAny_ready (rs := [0]) (by kernel_rfl) (by simp) ?_
  refine AllReady.cons rfl (fun KK hK => ?_) AllReady.nil
  rw [if_pos (by rfl)]
  refine wp_load_mid 58 (.tmp 5) rfl kb 0 rfl (cellsOf K) _ (by exact hk9.range) Try.underlying58 rfl HIK.out ?_
  refine hK _ _ ?_
  clear hK KK
  refine wpAny_ready (rs := [1]) (by kernel_rfl) (by simp) ?_
  refine AllReady.cons rfl (fun KK hK => ?_) AllReady.nil
  go_simp
  refine (masked_any K 92 _ HKL.out HKB.out (by decide)).mono ?_
  rintro e WA ⟨rfl, hmA, BA⟩
  dsimp only
  refine hK _ _ ?_
  clear hK KK
  replace BA : Below W9.heap.size W9 WA := ⟨BA.os, BA.tape, BA.output, BA.size, BA.block⟩
  have hcA := hc9.below BA hc9.lt
  have hiA := hbi9.below BA (Nat.le_refl _)
  have BBA : Below w.heap.size w WA := BB9.trans (BA.mono (by have := HS9.out; have := HS7.out; have := HS2.out; omega))
  have HSA : Hid (ib + 1 ≤ WA.heap.size) := by show _ ≤ _; have := BA.size; have := HS9.out; omega
  rw [← HYE.out] at hmA
  refine wpAny_ready (rs := [3]) (by kernel_rfl) (by simp) ?_
  refine AllReady.cons rfl (fun KK hK => ?_) AllReady.nil
  go_simp
  refine hK _ _ ?_
  clear hK KK
  refine wpAny_ready (rs := [4]) (by kernel_rfl) (by simp) ?_
  refine AllReady.cons rfl (fun KK hK => ?_) AllReady.nil
  go_simp
  refine (concat_two WA.heap.size _ _ Y I _ (by exact Cw_two WA _ _) (by exact (hmA.below ((Below.refl _ _).alloc (Nat.le_refl _) _) (Nat.le_refl _))) (by exact (hiA.below ((Below.refl _ _).alloc (Nat.le_refl _) _) (Nat.le_refl _))) (by rw [HYL.out]; omega) (by rw [HIL.out]; omega)).mono ?_
  rintro e WB ⟨aoB, capB, rfl, hoB, BB⟩
  dsimp only
  refine hK _ _ ?_
  clear hK KK
  have BB' : Below WA.heap.size WA WB := ((Below.refl _ WA).alloc (Nat.le_refl _) _).trans ((show Below (WA.alloc _).heap.size (WA.alloc _) WB from ⟨BB.os, BB.tape, BB.output, BB.size, BB.block⟩).mono (by rw [World.size_alloc]; omega))
  have hcB := hcA.below BB' hcA.lt
  have BBB : Below w.heap.size w WB := BBA.trans (BB'.mono (by have := HSA.out; have := HS7.out; have := HS2.out; omega))
  have HSB : Hid (ib + 1 ≤ WB.heap.size) := by show _ ≤ _; have := BB'.size; have := HSA.out; omega
  have hboB := hoB.bs
  have HNB : Hid ((Y ++ I).length ≤ 1000000) := by show _ ≤ _; rw [List.length_append, HYL.out, HIL.out]; omega
  refine wpAny_ready (rs := [5]) (by kernel_rfl) (by simp) ?_
  refine AllReady.cons rfl (fun KK hK => ?_) AllReady.nil
  go_simp
  refine (sum_any _ (Y ++ I) _ (by simpa using hboB) (HYB.out.append HIB.out) HNB.out).mono ?_
  rintro e WC ⟨rfl, BC⟩
  dsimp only
  refine hK _ _ ?_
  clear hK KK
  have hcC := hcB.below BC hcB.lt
  have BBC : Below w.heap.size w WC := BBB.trans (BC.mono (by have := HSB.out; have := HS7.out; have := HS2.out; omega))
  rw [show cellsOf (shaN (Y ++ I)) = fl from HFL.out.symm]
  have hthC : WC.there w.heap.size 0 fl.toArray.size := by have h := hcC.there; rw [HLf.out] at h; simpa using h
  refine wpAny_ready (rs := [6]) (by kernel_rfl) (by simp) ?_
  refine AllReady.cons rfl (fun KK hK => ?_) AllReady.nil
  rw [if_pos (by rfl)]
  refine wp_store_mid 48 (.tmp 4) (.tmp 20) rfl w.heap.size 0 fl.toArray rfl rfl hthC (by rw [List.size_toArray]; exact HIf.out) (all_oneCell_toArray HCf.out) ?_
  refine hK _ _ ?_
  clear hK KK
  refine wpAny_done (by kernel_rfl) ?_ _
  have hcD : Cw (WC.setCells w.heap.size 0 fl) w.heap.size fl 48 := hcC.put HLf.out
  have OD := Only.sets w.heap.size 0 WC fl
  obtain ⟨WD, hWD⟩ : ∃ WD, WD = WC.setCells w.heap.size 0 fl := ⟨_, rfl⟩
  rw [← hWD] at hcD OD
  simp only [← hWD, List.getElem_toArray, List.getElem_cons_succ, List.getElem_cons_zero, Act.put]
  go_wp2_with fail
  exact ret_row rfl rfl rfl hcD Try.underlying48 rfl HIf ⟨rfl, BBC.trans (OD.below (Nat.le_refl _))⟩
end Go.Proofs.Ytkfnmdhhiigceaa.Dg
