/-
  The law TokenMakes, walked.
-/
import Derived.Test.YtkfnmdhhiigceaaTkKnown
import Derived.Test.YtkfnmdhhiigceaaTkRMake
import Derived.Test.YtkfnmdhhiigceaaDgRoomy
namespace Go.Proofs.Ytkfnmdhhiigceaa
open Go.RowKit Dg
/-- What stands in memory while the law answers: the word, the key, and the key with room behind it. -/
structure Sk (b : Nat) (T : List Int) (vk : Value) (key : List Int) (ao : Option Addr) (cap : Nat) (V : World) : Prop where
  f1 : Cw V b (cellsOf T) 25
  f2 : Bs V vk key
  f3 : Bs V (.slice ao (key.length + 1) cap) (key ++ [171])
theorem Sk_below {b : Nat} {T : List Int} {vk : Value} {key : List Int} {ao : Option Addr} {cap : Nat} {V V2 : World} (h : Sk b T vk key ao cap V) (hb : Below V.heap.size V V2) : Sk b T vk key ao cap V2 := ⟨h.f1.below hb h.f1.lt, h.f2.below hb (Nat.le_refl _), h.f3.below hb (Nat.le_refl _)⟩
theorem Sk_sm {b : Nat} {T : List Int} {vk : Value} {key : List Int} {ao : Option Addr} {cap : Nat} {V V2 : World} (h : Sk b T vk key ao cap V) (hb : Sm V V2) : Sk b T vk key ao cap V2 := ⟨hb.cw h.f1, hb.bs h.f2, hb.bs h.f3⟩
theorem bs_drew {w : World} {v : Value} {zs : List Int} (h : Bs w v zs) : Bs w.drew v zs := h.keep (fun _ _ _ => rfl)
set_option maxRecDepth 20000 in
set_option maxHeartbeats 4000000 in
theorem makes_walk (vk : Value) (key : List Int) (m p l : Int) (w : World) (hk : Bs w vk key) (hky : Byt key) (hm : I64 m) (hp : I64 p) (hl : I64 l) : Calls Try.prog 3 #[vk, .int .i64 m, .int .i64 p, .int .i64 l] w fun e w' => e = .returned (.bool true) ∧ Below w.heap.size w w' := by
  obtain ⟨ak, ck, hvk, _⟩ := hk.len
  subst hvk
  by_cases hs : 1000 < key.length
  · have hs1 : (1000 : Int) < (key.length : Int) := by omega
    clear hs
    go_enter Try.func3, Try.ntmps3
    go_wp2_with fail
    go_ret
    exact ⟨rfl, Below.refl _ _⟩
  have hs1 : ¬ (1000 : Int) < (key.length : Int) := by omega
  have hkn : key.length ≤ 100000 := by omega
  have CK := hid_into known_any
  have CM := hid_into (fun W v (h : Bs W v key) => make_any v key m p l W h hky hkn hm hp hl)
  have CR := hid_into (fun W v (h : Bs W v key) => rmake_any v key m p l W h hky hkn hm hp hl)
  have hT := mkT_tk key m p l
  have CC : Hid (∀ W v, Bs W v key → Calls Try.prog 10 #[v, .int .i64 m, .int .i64 p, .int .i64 l, .agg (cellsOf (mkT key m p l)).toArray] W fun e w' => e = .returned (.int .i64 0) ∧ Below W.heap.size W w') := hid_into (fun W v h => (check_any v key m p l _ hT W h hky hkn hm hp hl).mono (by rintro e w' ⟨rfl, hb⟩; exact ⟨by rw [if_pos rfl], hb⟩))
  generalize mkT key m p l = T at *
  have heq : ∀ W, (Op.equalIn 10000 25 (.agg (cellsOf T).toArray) (.agg (cellsOf T).toArray)).run Try.prog W = .ok true W := fun W => (run_eq16 25 Try.underlying25 hT hT W).trans (by rw [eqB_true rfl])
  have HT25 := hs25 hT
  have HZ25 := hid_into Try.zero25t
  have HI25 := hs25 zero_tk
  have HLT : Hid ((cellsOf (zeroB 16)).length = (cellsOf T).length) := hlB (by rw [zeroB_len, hT.1])
  obtain ⟨CRo⟩ : Nonempty (Hid (Calls Try.prog 7 #[.slice ak key.length ck] w fun e w' => ∃ ao cap, e = .returned (.slice ao (key.length + 1) cap) ∧ Bs w' (.slice ao (key.length + 1) cap) (key ++ [171]) ∧ Below w.heap.size w w')) := ⟨hid_into (roomy_any _ key w hk (by omega))⟩
  go_enter Try.func3, Try.ntmps3
  go_upto_region 4 with (go_at_call 7; refine CRo.out.mono ?_; rintro e W1 ⟨ao, cap, rfl, hr1, B1⟩; have hk1 := hk.below B1 (Nat.le_refl _))
  have hcap1 : (key.length : Int) ≤ (cap : Int) := by have := cut_cap hr1; omega
  have hcapm1 : (cap : Int) ≤ 9223372036854775807 := by have := cut_max hr1; unfold maxLen at this; omega
  go_upto_region 5 with (first
    | (go_at_call 8; refine (CM.out _ _ (cut_one hr1)).mono ?_; rintro e W2 ⟨rfl, B2⟩; have hk2 := hk1.below B2 (Nat.le_refl _); have hr2 := hr1.below B2 (Nat.le_refl _); have BB2 := B1.trans (B2.mono B1.size))
    | (refine wpList_alloc_row rfl 25 rfl (cellsOf (zeroB 16)) HZ25.out ?_; intro W3 hz3 B3 HS3; have hk3 := hk2.below B3 (Nat.le_refl _); have hr3 := hr2.below B3 (Nat.le_refl _); have BB3 := BB2.trans (B3.mono BB2.size))
    | (refine wpList_store_rw rfl 25 (.tmp 10) (.tmp 23) rfl W2.heap.size (cellsOf (zeroB 16)) (cellsOf T) 25 rfl rfl hz3 HI25 HLT (cellsOf_one _) ?_; intro W4 hz4 O4; have BB4 := BB3.trans (O4.below BB2.size); have hk4 : Bs W4 (.slice ak key.length ck) key := (hk2.below (B3.trans (O4.below (Nat.le_refl _))) (Nat.le_refl _)); have hr4 : Bs W4 (.slice ao (key.length + 1) cap) (key ++ [171]) := (hr2.below (B3.trans (O4.below (Nat.le_refl _))) (Nat.le_refl _))))
  have S0 : Sk W2.heap.size T (.slice ak key.length ck) key ao cap W4.drew := ⟨hz4, bs_drew hk4, bs_drew hr4⟩
  have BBV0 : Below w.heap.size w W4.drew := BB4.drew
  clear hk hk1 hr1 B1 B2 hk2 hr2 BB2 hz3 B3 HS3 hk3 hr3 BB3 hk4 hr4 BB4 O4 hz4 CRo
  refine wp_region_held (S := Sk W2.heap.size T (.slice ak key.length ck) key ao cap) (by kernel_rfl) ?_
  change wpAnyH _ _ _ _ _ _ _ _ (World.drew _)
  refine wpAnyH_take (i := 0) (v := .agg (cellsOf T).toArray) rfl (by kernel_rfl) (by kernel_rfl) (by kernel_rfl) (fun _ _ _ h => h) (yieldsIf_load_mid (by kernel_rfl) 25 (.tmp 10) rfl W2.heap.size 0 (by kernel_rfl) (cellsOf T) _ (fun _ k => Cw.range k.f1) Try.underlying25 rfl HT25.out) S0 ?_
  refine wpAnyH_take (i := 1) (v := .slice ak key.length ck) rfl (by kernel_rfl) (by kernel_rfl) (by kernel_rfl) (fun _ _ _ h => h) (Or.inl ⟨by kernel_rfl, by intro w _; go_simp⟩) S0 ?_
  simp only [List.getElem_toArray, List.getElem_cons_zero, List.getElem_cons_succ, Act.put, List.setIfInBounds_toArray, List.set_cons_zero, List.set_cons_succ]
  refine wpAnyH_take (i := 2) (v := .int .i64 m) rfl (by kernel_rfl) (by kernel_rfl) (by kernel_rfl) (fun _ _ _ h => h) (Or.inl ⟨by kernel_rfl, by intro w _; go_simp⟩) S0 ?_
  simp only [List.getElem_toArray, List.getElem_cons_zero, List.getElem_cons_succ, Act.put, List.setIfInBounds_toArray, List.set_cons_zero, List.set_cons_succ]
  refine wpAnyH_take (i := 3) (v := .int .i64 p) rfl (by kernel_rfl) (by kernel_rfl) (by kernel_rfl) (fun _ _ _ h => h) (Or.inl ⟨by kernel_rfl, by intro w _; go_simp⟩) S0 ?_
  simp only [List.getElem_toArray, List.getElem_cons_zero, List.getElem_cons_succ, Act.put, List.setIfInBounds_toArray, List.set_cons_zero, List.set_cons_succ]
  refine wpAnyH_take (i := 4) (v := .int .i64 l) rfl (by kernel_rfl) (by kernel_rfl) (by kernel_rfl) (fun _ _ _ h => h) (Or.inl ⟨by kernel_rfl, by intro w _; go_simp⟩) S0 ?_
  simp only [List.getElem_toArray, List.getElem_cons_zero, List.getElem_cons_succ, Act.put, List.setIfInBounds_toArray, List.set_cons_zero, List.set_cons_succ]
  refine wpAnyH_ready (rs := [5]) (by kernel_rfl) (by simp) ?_
  refine AllReadyH.cons rfl (fun KK hK => ?_) AllReadyH.nil
  go_simp
  refine (CR.out _ _ S0.f2).mono ?_
  rintro e V1 ⟨rfl, Bn⟩
  dsimp only
  have S1 := Sk_below S0 Bn
  have BBV1 := BBV0.trans (Bn.mono BBV0.size)
  refine hK.out _ _ (by exact S1) (fun _ => ?_)
  clear hK KK Bn
  refine wpAnyH_take (i := 6) (v := .bool true) rfl (by kernel_rfl) (by kernel_rfl) (by kernel_rfl) (fun _ _ _ h => h) (Or.inl ⟨by kernel_rfl, by intro w _; go_simp⟩) S1 ?_
  simp only [List.getElem_toArray, List.getElem_cons_zero, List.getElem_cons_succ, Act.put, List.setIfInBounds_toArray, List.set_cons_zero, List.set_cons_succ]
  refine wpAnyH_take (i := 7) (v := .bool true) rfl (by kernel_rfl) (by kernel_rfl) (by kernel_rfl) (fun _ _ _ h => h) (Or.inl ⟨by kernel_rfl, by intro w _; go_simp⟩) S1 ?_
  simp only [List.getElem_toArray, List.getElem_cons_zero, List.getElem_cons_succ, Act.put, List.setIfInBounds_toArray, List.set_cons_zero, List.set_cons_succ]
  refine wpAnyH_take (i := 8) (v := .slice ao (key.length + 1) cap) rfl (by kernel_rfl) (by kernel_rfl) (by kernel_rfl) (fun _ _ _ h => h) (Or.inl ⟨by kernel_rfl, by intro w _; go_simp⟩) S1 ?_
  simp only [List.getElem_toArray, List.getElem_cons_zero, List.getElem_cons_succ, Act.put, List.setIfInBounds_toArray, List.set_cons_zero, List.set_cons_succ]
  refine wpAnyH_take (i := 9) (v := .slice ak key.length ck) rfl (by kernel_rfl) (by kernel_rfl) (by kernel_rfl) (fun _ _ _ h => h) (Or.inl ⟨by kernel_rfl, by intro w _; go_simp⟩) S1 ?_
  simp only [List.getElem_toArray, List.getElem_cons_zero, List.getElem_cons_succ, Act.put, List.setIfInBounds_toArray, List.set_cons_zero, List.set_cons_succ]
  refine wpAnyH_take (i := 10) (v := .int .i64 key.length) rfl (by kernel_rfl) (by kernel_rfl) (by kernel_rfl) (fun _ _ _ h => h) (Or.inl ⟨by kernel_rfl, by intro w _; go_simp⟩) S1 ?_
  simp only [List.getElem_toArray, List.getElem_cons_zero, List.getElem_cons_succ, Act.put, List.setIfInBounds_toArray, List.set_cons_zero, List.set_cons_succ]
  refine wpAnyH_take (i := 11) (v := .slice ao key.length cap) rfl (by kernel_rfl) (by kernel_rfl) (by kernel_rfl) (fun _ _ _ h => h) (Or.inl ⟨by kernel_rfl, by intro w _; go_simp⟩) S1 ?_
  simp only [List.getElem_toArray, List.getElem_cons_zero, List.getElem_cons_succ, Act.put, List.setIfInBounds_toArray, List.set_cons_zero, List.set_cons_succ]
  refine wpAnyH_take (i := 12) (v := .int .i64 m) rfl (by kernel_rfl) (by kernel_rfl) (by kernel_rfl) (fun _ _ _ h => h) (Or.inl ⟨by kernel_rfl, by intro w _; go_simp⟩) S1 ?_
  simp only [List.getElem_toArray, List.getElem_cons_zero, List.getElem_cons_succ, Act.put, List.setIfInBounds_toArray, List.set_cons_zero, List.set_cons_succ]
  refine wpAnyH_take (i := 13) (v := .int .i64 p) rfl (by kernel_rfl) (by kernel_rfl) (by kernel_rfl) (fun _ _ _ h => h) (Or.inl ⟨by kernel_rfl, by intro w _; go_simp⟩) S1 ?_
  simp only [List.getElem_toArray, List.getElem_cons_zero, List.getElem_cons_succ, Act.put, List.setIfInBounds_toArray, List.set_cons_zero, List.set_cons_succ]
  refine wpAnyH_take (i := 14) (v := .int .i64 l) rfl (by kernel_rfl) (by kernel_rfl) (by kernel_rfl) (fun _ _ _ h => h) (Or.inl ⟨by kernel_rfl, by intro w _; go_simp⟩) S1 ?_
  simp only [List.getElem_toArray, List.getElem_cons_zero, List.getElem_cons_succ, Act.put, List.setIfInBounds_toArray, List.set_cons_zero, List.set_cons_succ]
  refine wpAnyH_take (i := 15) (v := .agg (cellsOf T).toArray) rfl (by kernel_rfl) (by kernel_rfl) (by kernel_rfl) (fun _ _ _ h => h) (yieldsIf_load_mid (by kernel_rfl) 25 (.tmp 10) rfl W2.heap.size 0 (by kernel_rfl) (cellsOf T) _ (fun _ k => Cw.range k.f1) Try.underlying25 rfl HT25.out) S1 ?_
  simp only [List.getElem_toArray, List.getElem_cons_zero, List.getElem_cons_succ, Act.put, List.setIfInBounds_toArray, List.set_cons_zero, List.set_cons_succ]
  refine wpAnyH_ready (rs := [16]) (by kernel_rfl) (by simp) ?_
  refine AllReadyH.cons rfl (fun KK hK => ?_) AllReadyH.nil
  go_simp
  refine (CC.out _ _ (cut_one S1.f3)).mono ?_
  rintro e V2 ⟨rfl, Bn⟩
  dsimp only
  have S2 := Sk_below S1 Bn
  have BBV2 := BBV1.trans (Bn.mono BBV1.size)
  refine hK.out _ _ (by exact S2) (fun _ => ?_)
  clear hK KK Bn
  refine wpAnyH_take (i := 17) (v := .bool true) rfl (by kernel_rfl) (by kernel_rfl) (by kernel_rfl) (fun _ _ _ h => h) (Or.inl ⟨by kernel_rfl, by intro w _; go_simp⟩) S2 ?_
  simp only [List.getElem_toArray, List.getElem_cons_zero, List.getElem_cons_succ, Act.put, List.setIfInBounds_toArray, List.set_cons_zero, List.set_cons_succ]
  refine wpAnyH_take (i := 18) (v := .bool true) rfl (by kernel_rfl) (by kernel_rfl) (by kernel_rfl) (fun _ _ _ h => h) (Or.inl ⟨by kernel_rfl, by intro w _; go_simp⟩) S2 ?_
  simp only [List.getElem_toArray, List.getElem_cons_zero, List.getElem_cons_succ, Act.put, List.setIfInBounds_toArray, List.set_cons_zero, List.set_cons_succ]
  refine wpAnyH_take (i := 19) (v := .bool true) rfl (by kernel_rfl) (by kernel_rfl) (by kernel_rfl) (fun _ _ _ h => h) (Or.inl ⟨by kernel_rfl, by intro w _; go_simp⟩) S2 ?_
  simp only [List.getElem_toArray, List.getElem_cons_zero, List.getElem_cons_succ, Act.put, List.setIfInBounds_toArray, List.set_cons_zero, List.set_cons_succ]
  refine wpAnyH_take (i := 20) (v := .slice ao (key.length + 1) cap) rfl (by kernel_rfl) (by kernel_rfl) (by kernel_rfl) (fun _ _ _ h => h) (Or.inl ⟨by kernel_rfl, by intro w _; go_simp⟩) S2 ?_
  simp only [List.getElem_toArray, List.getElem_cons_zero, List.getElem_cons_succ, Act.put, List.setIfInBounds_toArray, List.set_cons_zero, List.set_cons_succ]
  refine wpAnyH_take (i := 21) (v := .slice ak key.length ck) rfl (by kernel_rfl) (by kernel_rfl) (by kernel_rfl) (fun _ _ _ h => h) (Or.inl ⟨by kernel_rfl, by intro w _; go_simp⟩) S2 ?_
  simp only [List.getElem_toArray, List.getElem_cons_zero, List.getElem_cons_succ, Act.put, List.setIfInBounds_toArray, List.set_cons_zero, List.set_cons_succ]
  refine wpAnyH_ready (rs := [22]) (by kernel_rfl) (by simp) ?_
  refine AllReadyH.cons rfl (fun KK hK => ?_) AllReadyH.nil
  go_simp
  refine (stands_any ao cap _ key _ S2.f3 S2.f2).mono ?_
  rintro e V3 ⟨rfl, Bn⟩
  dsimp only
  have S3 := Sk_sm S2 Bn
  have BBV3 := BBV2.trans (Bn.below _)
  refine hK.out _ _ (by exact S3) (fun _ => ?_)
  clear hK KK Bn
  refine wpAnyH_take (i := 23) (v := .bool true) rfl (by kernel_rfl) (by kernel_rfl) (by kernel_rfl) (fun _ _ _ h => h) (Or.inl ⟨by kernel_rfl, by intro w _; go_simp⟩) S3 ?_
  simp only [List.getElem_toArray, List.getElem_cons_zero, List.getElem_cons_succ, Act.put, List.setIfInBounds_toArray, List.set_cons_zero, List.set_cons_succ]
  refine wpAnyH_take (i := 24) (v := .bool true) rfl (by kernel_rfl) (by kernel_rfl) (by kernel_rfl) (fun _ _ _ h => h) (Or.inl ⟨by kernel_rfl, by intro w _; go_simp⟩) S3 ?_
  simp only [List.getElem_toArray, List.getElem_cons_zero, List.getElem_cons_succ, Act.put, List.setIfInBounds_toArray, List.set_cons_zero, List.set_cons_succ]
  refine wpAnyH_ready (rs := [25]) (by kernel_rfl) (by simp) ?_
  refine AllReadyH.cons rfl (fun KK hK => ?_) AllReadyH.nil
  go_simp
  refine (CK.out _).mono ?_
  rintro e V4 ⟨rfl, Bn⟩
  dsimp only
  have S4 := Sk_below S3 Bn
  have BBV4 := BBV3.trans (Bn.mono BBV3.size)
  refine hK.out _ _ (by exact S4) (fun _ => ?_)
  clear hK KK Bn
  refine wpAnyH_take (i := 26) (v := .bool true) rfl (by kernel_rfl) (by kernel_rfl) (by kernel_rfl) (fun _ _ _ h => h) (Or.inl ⟨by kernel_rfl, by intro w _; go_simp⟩) S4 ?_
  simp only [List.getElem_toArray, List.getElem_cons_zero, List.getElem_cons_succ, Act.put, List.setIfInBounds_toArray, List.set_cons_zero, List.set_cons_succ]
  refine wpAnyH_take (i := 27) (v := .bool true) rfl (by kernel_rfl) (by kernel_rfl) (by kernel_rfl) (fun _ _ _ h => h) (Or.inl ⟨by kernel_rfl, by intro w _; go_simp⟩) S4 ?_
  simp only [List.getElem_toArray, List.getElem_cons_zero, List.getElem_cons_succ, Act.put, List.setIfInBounds_toArray, List.set_cons_zero, List.set_cons_succ]
  refine wpAnyH_done (by kernel_rfl) ?_ _
  go_wp2_with fail
  go_ret
  exact ⟨rfl, BBV4⟩
end Go.Proofs.Ytkfnmdhhiigceaa
