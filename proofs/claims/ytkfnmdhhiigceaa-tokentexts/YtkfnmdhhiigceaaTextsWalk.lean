/-
  The law TokenTexts, walked.
-/
import Derived.Test.YtkfnmdhhiigceaaTkKnown
import Derived.Test.YtkfnmdhhiigceaaTkRParse
namespace Go.Proofs.Ytkfnmdhhiigceaa
open Go.RowKit Dg
theorem Try.zero24t : (Try.prog.info? 24).bind (·.zero) = some (.agg (cellsOf (zeroB 16)).toArray) := by kernel_rfl
theorem hs24 {t : List Int} (h : Tk t) : Hid ((Try.prog.info? 24).map (·.size) = some (cellsOf t).length) := by
  refine hid_into ?_
  rw [cellsOf_length, h.1]
  kernel_rfl
/-- What stands in memory while the law answers. -/
structure Sx (a b c d : Nat) (t y : List Int) (V : World) : Prop where
  f1 : Cw V a (cellsOf t) 24
  f2 : Cw V b (cellsOf t) 25
  f3 : Cw V c (cellsOf y) 25
  f4 : Cw V d (cellsOf y) 27
theorem St_below {a b c d : Nat} {t y : List Int} {V V2 : World} (h : Sx a b c d t y V) (hb : Below V.heap.size V V2) : Sx a b c d t y V2 := ⟨h.f1.below hb h.f1.lt, h.f2.below hb h.f2.lt, h.f3.below hb h.f3.lt, h.f4.below hb h.f4.lt⟩
set_option maxRecDepth 20000 in
set_option maxHeartbeats 4000000 in
theorem texts_walk (t xs : List Int) (ht : Tk t) (hby : Byt xs) (w : World) : Calls Try.prog 5 #[.agg (cellsOf t).toArray, .string (strOfNums xs)] w fun e w' => e = .returned (.bool true) ∧ Below w.heap.size w w' := by
  have hsz : (strOfNums xs).size = xs.length := strOfNums_size xs
  by_cases hs : 500 < xs.length
  · have hs1 : (500 : Int) < ((strOfNums xs).size : Int) := by omega
    clear hsz
    generalize strOfNums xs = S at *
    go_enter Try.func5, Try.ntmps5
    refine wp_seq (wp_region_lit ?_)
    refine wpList_box_row rfl 24 (.tmp 0) rfl (cellsOf t) rfl ?_
    intro W1 hc1 B1 HS1
    go_wp2_with fail
    go_ret
    exact ⟨rfl, B1⟩
  have hs1 : ¬ (500 : Int) < ((strOfNums xs).size : Int) := by omega
  have CK := hid_into known_any
  have CT : Hid (∀ W, Calls Try.prog 14 #[.agg (cellsOf t).toArray] W fun e w' => e = .returned (.string (strOfNums (txt t))) ∧ Below W.heap.size W w') := hid_into (fun W => text_any t ht W)
  have CRT : Hid (∀ W, Calls Try.prog 16 #[.agg (cellsOf t).toArray] W fun e w' => e = .returned (.string (strOfNums (txt t))) ∧ Below W.heap.size W w') := hid_into (fun W => rtext_any t ht W)
  have CP1 : Hid (∀ W, Calls Try.prog 13 #[.string (strOfNums (txt t))] W fun e w' => e = .returned (.tuple #[.agg (cellsOf t).toArray, .int .i64 0]) ∧ Below W.heap.size W w') := hid_into (fun W => (parse_any (txt t) (txt_byt ht) (by rw [txt_len]; omega) W).mono (by
    rintro e w' ⟨⟨u, c, rfl, _, h1, _⟩, hb⟩
    obtain ⟨rfl, rfl⟩ := h1 (txt_isT ht)
    rw [unT_txt ht]
    exact ⟨rfl, hb⟩))
  obtain ⟨y, c, hy, CP2, CRP⟩ : ∃ y c, Tk y ∧ Hid (∀ W, Calls Try.prog 13 #[.string (strOfNums xs)] W fun e w' => e = .returned (.tuple #[.agg (cellsOf y).toArray, .int .i64 c]) ∧ Below W.heap.size W w') ∧ Hid (∀ W, Calls Try.prog 15 #[.string (strOfNums xs)] W fun e w' => e = .returned (.tuple #[.agg (cellsOf y).toArray, .int .i64 c]) ∧ Below W.heap.size W w') := by
    by_cases h : isT xs
    · refine ⟨unT xs, 0, unT_tk h, hid_into (fun W => (parse_any xs hby (by omega) W).mono ?_), hid_into (fun W => (rparse_any xs hby W).mono ?_)⟩
      · rintro e w' ⟨⟨u, c, rfl, _, h1, _⟩, hb⟩
        obtain ⟨rfl, rfl⟩ := h1 h
        exact ⟨rfl, hb⟩
      · rintro e w' ⟨⟨u, c, rfl, _, h1, _⟩, hb⟩
        obtain ⟨rfl, rfl⟩ := h1 h
        exact ⟨rfl, hb⟩
    · refine ⟨zeroB 16, 3, zero_tk, hid_into (fun W => (parse_any xs hby (by omega) W).mono ?_), hid_into (fun W => (rparse_any xs hby W).mono ?_)⟩
      · rintro e w' ⟨⟨u, c, rfl, _, _, h1⟩, hb⟩
        obtain ⟨rfl, rfl⟩ := h1 h
        exact ⟨rfl, hb⟩
      · rintro e w' ⟨⟨u, c, rfl, _, _, h1⟩, hb⟩
        obtain ⟨rfl, rfl⟩ := h1 h
        exact ⟨rfl, hb⟩
  clear hsz hs hby
  generalize strOfNums xs = S at *
  generalize strOfNums (txt t) = s0 at *
  have heq1 : ∀ W, (Op.equalIn 10000 25 (.agg (cellsOf t).toArray) (.agg (cellsOf t).toArray)).run Try.prog W = .ok true W := fun W => (run_eq16 25 Try.underlying25 ht ht W).trans (by rw [eqB_true rfl])
  have heq2 : ∀ W, (Op.equalIn 10000 25 (.agg (cellsOf y).toArray) (.agg (cellsOf y).toArray)).run Try.prog W = .ok true W := fun W => (run_eq16 25 Try.underlying25 hy hy W).trans (by rw [eqB_true rfl])
  have H24 := hs24 ht
  have H25 := hs25 ht
  have H25y := hs25 hy
  have H27y := hs27 hy
  have HZ25 := hid_into Try.zero25t
  have HZ27 := hid_into Try.zero27t
  have HI25 := hs25 zero_tk
  have HI27 := hs27 zero_tk
  have HLt : Hid ((cellsOf (zeroB 16)).length = (cellsOf t).length) := hlB (by rw [zeroB_len, ht.1])
  have HLy : Hid ((cellsOf (zeroB 16)).length = (cellsOf y).length) := hlB (by rw [zeroB_len, hy.1])
  go_enter Try.func5, Try.ntmps5
  refine wp_seq (wp_region_lit ?_)
  refine wpList_box_row rfl 24 (.tmp 0) rfl (cellsOf t) rfl ?_
  intro W1 hc1 B1 HS1
  go_upto_region 4 with (first
    | (refine wpList_load_rw rfl 24 (.tmp 2) rfl w.heap.size (cellsOf t) 24 _ rfl hc1 Try.underlying24 rfl H24 ?_)
    | (go_at_call 14; refine (CT.out _).mono ?_; rintro e W2 ⟨rfl, B2⟩; have hc2 := hc1.below B2 hc1.lt; have BB2 := B1.trans (B2.mono B1.size))
    | (go_at_call 13; refine (CP1.out _).mono ?_; rintro e W3 ⟨rfl, B3⟩; have hc3 := hc2.below B3 hc2.lt; have BB3 := BB2.trans (B3.mono BB2.size))
    | (refine wpList_alloc_row rfl 25 rfl (cellsOf (zeroB 16)) HZ25.out ?_; intro W4 hx4 B4 HS4; have hc4 := hc3.below B4 hc3.lt; have BB4 := BB3.trans (B4.mono BB3.size))
    | (refine wpList_store_rw rfl 25 (.tmp 5) (.tmp 18) rfl W3.heap.size (cellsOf (zeroB 16)) (cellsOf t) 25 rfl rfl hx4 HI25 HLt (cellsOf_one _) ?_; intro W5 hx5 O5; have hc5 := O5.cw hc4 (Nat.ne_of_lt hc3.lt); have BB5 := BB4.trans (O5.below BB3.size)))
  go_upto_region 5 with (first
    | (go_at_call 13; refine (CP2.out _).mono ?_; rintro e W6 ⟨rfl, B6⟩; have hc6 := hc5.below B6 hc5.lt; have hx6 := hx5.below B6 hx5.lt; have BB6 := BB5.trans (B6.mono BB5.size))
    | (refine wpList_alloc_row rfl 25 rfl (cellsOf (zeroB 16)) HZ25.out ?_; intro W7 hy7 B7 HS7; have hc7 := hc6.below B7 hc6.lt; have hx7 := hx6.below B7 hx6.lt; have BB7 := BB6.trans (B7.mono BB6.size))
    | (refine wpList_store_rw rfl 25 (.tmp 7) (.tmp 23) rfl W6.heap.size (cellsOf (zeroB 16)) (cellsOf y) 25 rfl rfl hy7 HI25 HLy (cellsOf_one _) ?_; intro W8 hy8 O8; have hc8 := O8.cw hc7 (Nat.ne_of_lt hc6.lt); have hx8 := O8.cw hx7 (Nat.ne_of_lt hx6.lt); have BB8 := BB7.trans (O8.below BB6.size)))
  go_upto_region 6 with (first
    | (go_at_call 15; refine (CRP.out _).mono ?_; rintro e W9 ⟨rfl, B9⟩; have hc9 := hc8.below B9 hc8.lt; have hx9 := hx8.below B9 hx8.lt; have hy9 := hy8.below B9 hy8.lt; have BB9 := BB8.trans (B9.mono BB8.size))
    | (refine wpList_alloc_row rfl 27 rfl (cellsOf (zeroB 16)) HZ27.out ?_; intro WA hza BA HSA; have hca := hc9.below BA hc9.lt; have hxa := hx9.below BA hx9.lt; have hya := hy9.below BA hy9.lt; have BBA := BB9.trans (BA.mono BB9.size))
    | (refine wpList_store_rw rfl 27 (.tmp 9) (.tmp 28) rfl W9.heap.size (cellsOf (zeroB 16)) (cellsOf y) 27 rfl rfl hza HI27 HLy (cellsOf_one _) ?_; intro WB hzb OB; have hcb := OB.cw hca (Nat.ne_of_lt hc9.lt); have hxb := OB.cw hxa (Nat.ne_of_lt hx9.lt); have hyb := OB.cw hya (Nat.ne_of_lt hy9.lt); have BBWB := BBA.trans (OB.below BB9.size)))
  have S0 : Sx w.heap.size W3.heap.size W6.heap.size W9.heap.size t y WB.drew := ⟨hcb, hxb, hyb, hzb⟩
  have BBW0 : Below w.heap.size w WB.drew := BBWB.drew
  refine wp_region_held (S := Sx w.heap.size W3.heap.size W6.heap.size W9.heap.size t y) (by kernel_rfl) ?_
  change wpAnyH _ _ _ _ _ _ _ _ (World.drew _)
  refine wpAnyH_take (i := 0) (v := .agg (cellsOf t).toArray) rfl (by kernel_rfl) (by kernel_rfl) (by kernel_rfl) (fun _ _ _ h => h) (yieldsIf_load_mid (by kernel_rfl) 24 (.tmp 2) rfl w.heap.size 0 (by kernel_rfl) (cellsOf t) _ (fun _ k => Cw.range k.f1) Try.underlying24 rfl H24.out) S0 ?_
  refine wpAnyH_take (i := 2) (v := .agg (cellsOf t).toArray) rfl (by kernel_rfl) (by kernel_rfl) (by kernel_rfl) (fun _ _ _ h => h) (yieldsIf_load_mid (by kernel_rfl) 24 (.tmp 2) rfl w.heap.size 0 (by kernel_rfl) (cellsOf t) _ (fun _ k => Cw.range k.f1) Try.underlying24 rfl H24.out) S0 ?_
  simp only [List.getElem_toArray, List.getElem_cons_zero, List.getElem_cons_succ, Act.put, List.setIfInBounds_toArray, List.set_cons_zero, List.set_cons_succ]
  refine wpAnyH_ready (rs := [1]) (by kernel_rfl) (by simp) ?_
  refine AllReadyH.cons rfl (fun KK hK => ?_) AllReadyH.nil
  go_simp
  refine (CT.out _).mono ?_
  rintro e V1 ⟨rfl, Bn⟩
  dsimp only
  have S1 := St_below S0 Bn
  have BBV1 := BBW0.trans (Bn.mono BBW0.size)
  refine hK.out _ _ (by exact S1) (fun _ => ?_)
  clear hK KK Bn
  refine wpAnyH_ready (rs := [3]) (by kernel_rfl) (by simp) ?_
  refine AllReadyH.cons rfl (fun KK hK => ?_) AllReadyH.nil
  go_simp
  refine (CRT.out _).mono ?_
  rintro e V2 ⟨rfl, Bn⟩
  dsimp only
  have S2 := St_below S1 Bn
  have BBV2 := BBV1.trans (Bn.mono BBV1.size)
  refine hK.out _ _ (by exact S2) (fun _ => ?_)
  clear hK KK Bn
  refine wpAnyH_take (i := 4) (v := .bool true) rfl (by kernel_rfl) (by kernel_rfl) (by kernel_rfl) (fun _ _ _ h => h) (Or.inl ⟨by kernel_rfl, by intro w _; go_simp⟩) S2 ?_
  simp only [List.getElem_toArray, List.getElem_cons_zero, List.getElem_cons_succ, Act.put, List.setIfInBounds_toArray, List.set_cons_zero, List.set_cons_succ]
  refine wpAnyH_take (i := 5) (v := .bool true) rfl (by kernel_rfl) (by kernel_rfl) (by kernel_rfl) (fun _ _ _ h => h) (Or.inl ⟨by kernel_rfl, by intro w _; go_simp⟩) S2 ?_
  simp only [List.getElem_toArray, List.getElem_cons_zero, List.getElem_cons_succ, Act.put, List.setIfInBounds_toArray, List.set_cons_zero, List.set_cons_succ]
  refine wpAnyH_take (i := 6) (v := .agg (cellsOf t).toArray) rfl (by kernel_rfl) (by kernel_rfl) (by kernel_rfl) (fun _ _ _ h => h) (yieldsIf_load_mid (by kernel_rfl) 25 (.tmp 5) rfl W3.heap.size 0 (by kernel_rfl) (cellsOf t) _ (fun _ k => Cw.range k.f2) Try.underlying25 rfl H25.out) S2 ?_
  simp only [List.getElem_toArray, List.getElem_cons_zero, List.getElem_cons_succ, Act.put, List.setIfInBounds_toArray, List.set_cons_zero, List.set_cons_succ]
  refine wpAnyH_take (i := 7) (v := .agg (cellsOf t).toArray) rfl (by kernel_rfl) (by kernel_rfl) (by kernel_rfl) (fun _ _ _ h => h) (yieldsIf_load_mid (by kernel_rfl) 24 (.tmp 2) rfl w.heap.size 0 (by kernel_rfl) (cellsOf t) _ (fun _ k => Cw.range k.f1) Try.underlying24 rfl H24.out) S2 ?_
  simp only [List.getElem_toArray, List.getElem_cons_zero, List.getElem_cons_succ, Act.put, List.setIfInBounds_toArray, List.set_cons_zero, List.set_cons_succ]
  refine wpAnyH_take (i := 8) (v := .bool true) rfl (by kernel_rfl) (by kernel_rfl) (by kernel_rfl) (fun _ _ _ h => h) (Or.inl ⟨by kernel_rfl, by intro w _; go_simp⟩) S2 ?_
  simp only [List.getElem_toArray, List.getElem_cons_zero, List.getElem_cons_succ, Act.put, List.setIfInBounds_toArray, List.set_cons_zero, List.set_cons_succ]
  refine wpAnyH_take (i := 9) (v := .bool true) rfl (by kernel_rfl) (by kernel_rfl) (by kernel_rfl) (fun _ _ _ h => h) (Or.inl ⟨by kernel_rfl, by intro w _; go_simp⟩) S2 ?_
  simp only [List.getElem_toArray, List.getElem_cons_zero, List.getElem_cons_succ, Act.put, List.setIfInBounds_toArray, List.set_cons_zero, List.set_cons_succ]
  refine wpAnyH_take (i := 10) (v := .bool true) rfl (by kernel_rfl) (by kernel_rfl) (by kernel_rfl) (fun _ _ _ h => h) (Or.inl ⟨by kernel_rfl, by intro w _; go_simp⟩) S2 ?_
  simp only [List.getElem_toArray, List.getElem_cons_zero, List.getElem_cons_succ, Act.put, List.setIfInBounds_toArray, List.set_cons_zero, List.set_cons_succ]
  refine wpAnyH_take (i := 11) (v := .int .i64 0) rfl (by kernel_rfl) (by kernel_rfl) (by kernel_rfl) (fun _ _ _ h => h) (Or.inl ⟨by kernel_rfl, by intro w _; go_simp⟩) S2 ?_
  simp only [List.getElem_toArray, List.getElem_cons_zero, List.getElem_cons_succ, Act.put, List.setIfInBounds_toArray, List.set_cons_zero, List.set_cons_succ]
  refine wpAnyH_take (i := 12) (v := .bool true) rfl (by kernel_rfl) (by kernel_rfl) (by kernel_rfl) (fun _ _ _ h => h) (Or.inl ⟨by kernel_rfl, by intro w _; go_simp⟩) S2 ?_
  simp only [List.getElem_toArray, List.getElem_cons_zero, List.getElem_cons_succ, Act.put, List.setIfInBounds_toArray, List.set_cons_zero, List.set_cons_succ]
  refine wpAnyH_take (i := 13) (v := .bool true) rfl (by kernel_rfl) (by kernel_rfl) (by kernel_rfl) (fun _ _ _ h => h) (Or.inl ⟨by kernel_rfl, by intro w _; go_simp⟩) S2 ?_
  simp only [List.getElem_toArray, List.getElem_cons_zero, List.getElem_cons_succ, Act.put, List.setIfInBounds_toArray, List.set_cons_zero, List.set_cons_succ]
  refine wpAnyH_take (i := 14) (v := .bool true) rfl (by kernel_rfl) (by kernel_rfl) (by kernel_rfl) (fun _ _ _ h => h) (Or.inl ⟨by kernel_rfl, by intro w _; go_simp⟩) S2 ?_
  simp only [List.getElem_toArray, List.getElem_cons_zero, List.getElem_cons_succ, Act.put, List.setIfInBounds_toArray, List.set_cons_zero, List.set_cons_succ]
  refine wpAnyH_take (i := 15) (v := .agg (cellsOf y).toArray) rfl (by kernel_rfl) (by kernel_rfl) (by kernel_rfl) (fun _ _ _ h => h) (yieldsIf_load_mid (by kernel_rfl) 25 (.tmp 7) rfl W6.heap.size 0 (by kernel_rfl) (cellsOf y) _ (fun _ k => Cw.range k.f3) Try.underlying25 rfl H25y.out) S2 ?_
  simp only [List.getElem_toArray, List.getElem_cons_zero, List.getElem_cons_succ, Act.put, List.setIfInBounds_toArray, List.set_cons_zero, List.set_cons_succ]
  refine wpAnyH_take (i := 16) (v := .agg (cellsOf y).toArray) rfl (by kernel_rfl) (by kernel_rfl) (by kernel_rfl) (fun _ _ _ h => h) (yieldsIf_load_mid (by kernel_rfl) 27 (.tmp 9) rfl W9.heap.size 0 (by kernel_rfl) (cellsOf y) _ (fun _ k => Cw.range k.f4) Try.underlying27 rfl H27y.out) S2 ?_
  simp only [List.getElem_toArray, List.getElem_cons_zero, List.getElem_cons_succ, Act.put, List.setIfInBounds_toArray, List.set_cons_zero, List.set_cons_succ]
  refine wpAnyH_take (i := 17) (v := .bool true) rfl (by kernel_rfl) (by kernel_rfl) (by kernel_rfl) (fun _ _ _ h => h) (Or.inl ⟨by kernel_rfl, by intro w _; go_simp⟩) S2 ?_
  simp only [List.getElem_toArray, List.getElem_cons_zero, List.getElem_cons_succ, Act.put, List.setIfInBounds_toArray, List.set_cons_zero, List.set_cons_succ]
  refine wpAnyH_take (i := 18) (v := .bool true) rfl (by kernel_rfl) (by kernel_rfl) (by kernel_rfl) (fun _ _ _ h => h) (Or.inl ⟨by kernel_rfl, by intro w _; go_simp⟩) S2 ?_
  simp only [List.getElem_toArray, List.getElem_cons_zero, List.getElem_cons_succ, Act.put, List.setIfInBounds_toArray, List.set_cons_zero, List.set_cons_succ]
  refine wpAnyH_take (i := 19) (v := .bool true) rfl (by kernel_rfl) (by kernel_rfl) (by kernel_rfl) (fun _ _ _ h => h) (Or.inl ⟨by kernel_rfl, by intro w _; go_simp⟩) S2 ?_
  simp only [List.getElem_toArray, List.getElem_cons_zero, List.getElem_cons_succ, Act.put, List.setIfInBounds_toArray, List.set_cons_zero, List.set_cons_succ]
  refine wpAnyH_take (i := 20) (v := .int .i64 c) rfl (by kernel_rfl) (by kernel_rfl) (by kernel_rfl) (fun _ _ _ h => h) (Or.inl ⟨by kernel_rfl, by intro w _; go_simp⟩) S2 ?_
  simp only [List.getElem_toArray, List.getElem_cons_zero, List.getElem_cons_succ, Act.put, List.setIfInBounds_toArray, List.set_cons_zero, List.set_cons_succ]
  refine wpAnyH_take (i := 21) (v := .int .i64 c) rfl (by kernel_rfl) (by kernel_rfl) (by kernel_rfl) (fun _ _ _ h => h) (Or.inl ⟨by kernel_rfl, by intro w _; go_simp⟩) S2 ?_
  simp only [List.getElem_toArray, List.getElem_cons_zero, List.getElem_cons_succ, Act.put, List.setIfInBounds_toArray, List.set_cons_zero, List.set_cons_succ]
  refine wpAnyH_take (i := 22) (v := .bool true) rfl (by kernel_rfl) (by kernel_rfl) (by kernel_rfl) (fun _ _ _ h => h) (Or.inl ⟨by kernel_rfl, by intro w _; go_simp⟩) S2 ?_
  simp only [List.getElem_toArray, List.getElem_cons_zero, List.getElem_cons_succ, Act.put, List.setIfInBounds_toArray, List.set_cons_zero, List.set_cons_succ]
  refine wpAnyH_take (i := 23) (v := .bool true) rfl (by kernel_rfl) (by kernel_rfl) (by kernel_rfl) (fun _ _ _ h => h) (Or.inl ⟨by kernel_rfl, by intro w _; go_simp⟩) S2 ?_
  simp only [List.getElem_toArray, List.getElem_cons_zero, List.getElem_cons_succ, Act.put, List.setIfInBounds_toArray, List.set_cons_zero, List.set_cons_succ]
  refine wpAnyH_take (i := 24) (v := .bool true) rfl (by kernel_rfl) (by kernel_rfl) (by kernel_rfl) (fun _ _ _ h => h) (Or.inl ⟨by kernel_rfl, by intro w _; go_simp⟩) S2 ?_
  simp only [List.getElem_toArray, List.getElem_cons_zero, List.getElem_cons_succ, Act.put, List.setIfInBounds_toArray, List.set_cons_zero, List.set_cons_succ]
  refine wpAnyH_ready (rs := [25]) (by kernel_rfl) (by simp) ?_
  refine AllReadyH.cons rfl (fun KK hK => ?_) AllReadyH.nil
  go_simp
  refine (CK.out _).mono ?_
  rintro e V3 ⟨rfl, Bn⟩
  dsimp only
  have S3 := St_below S2 Bn
  have BBV3 := BBV2.trans (Bn.mono BBV2.size)
  refine hK.out _ _ (by exact S3) (fun _ => ?_)
  clear hK KK Bn
  refine wpAnyH_take (i := 26) (v := .bool true) rfl (by kernel_rfl) (by kernel_rfl) (by kernel_rfl) (fun _ _ _ h => h) (Or.inl ⟨by kernel_rfl, by intro w _; go_simp⟩) S3 ?_
  simp only [List.getElem_toArray, List.getElem_cons_zero, List.getElem_cons_succ, Act.put, List.setIfInBounds_toArray, List.set_cons_zero, List.set_cons_succ]
  refine wpAnyH_take (i := 27) (v := .bool true) rfl (by kernel_rfl) (by kernel_rfl) (by kernel_rfl) (fun _ _ _ h => h) (Or.inl ⟨by kernel_rfl, by intro w _; go_simp⟩) S3 ?_
  simp only [List.getElem_toArray, List.getElem_cons_zero, List.getElem_cons_succ, Act.put, List.setIfInBounds_toArray, List.set_cons_zero, List.set_cons_succ]
  refine wpAnyH_done (by kernel_rfl) ?_ _
  go_wp2_with fail
  go_ret
  exact ⟨rfl, BBV3⟩
end Go.Proofs.Ytkfnmdhhiigceaa
