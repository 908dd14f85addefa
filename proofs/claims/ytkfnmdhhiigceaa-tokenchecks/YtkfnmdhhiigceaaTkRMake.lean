/-
  The document's own Make, by contract.
-/
import Derived.Test.YtkfnmdhhiigceaaTkMake
import Derived.Test.YtkfnmdhhiigceaaTkRText
import Derived.Test.YtkfnmdhhiigceaaDgRMac
namespace Go.Proofs.Ytkfnmdhhiigceaa
open Go.RowKit Dg
theorem Ow_below {w w' : World} {base B : Nat} {v : Value} {zs : List Int} (h : Dg.Ow w base v zs) (hb : Below B w w') (hB : w.heap.size ≤ B) : Dg.Ow w' base v zs := by
  refine ⟨h.1, ?_⟩
  rcases h.2 with h2 | ⟨g, cap, cur, h1, h2, h3, h4⟩
  · exact Or.inl h2
  · exact Or.inr ⟨g, cap, cur, h1, h2, by rw [hb.block g (Nat.lt_of_lt_of_le (Array.getElem?_eq_some_iff.1 h3).1 hB)]; exact h3, h4⟩
set_option maxRecDepth 20000 in
set_option maxHeartbeats 2000000 in
theorem rmake_any (vk : Value) (key : List Int) (m p l : Int) (w : World) (hk : Bs w vk key) (hky : Byt key) (hkn : key.length ≤ 100000) (hm : I64 m) (hp : I64 p) (hl : I64 l) :
    Calls Try.prog 9 #[vk, .int .i64 m, .int .i64 p, .int .i64 l] w fun e w' => e = .returned (.agg (cellsOf (mkT key m p l)).toArray) ∧ Below w.heap.size w w' := by
  obtain ⟨ak, ck, hvk, _⟩ := hk.len
  subst hvk
  have HZ : Hid ((Try.prog.info? 27).bind (·.zero) = some (.agg (cellsOf (zeroB 16)).toArray)) := hid_into (by kernel_rfl)
  have ztk : Tk (zeroB 16) := ⟨zeroB_len 16, fun z hz => by rw [zeroB, List.mem_replicate] at hz; omega⟩
  have HI := hs27 ztk
  obtain ⟨T, hT⟩ : ∃ T, T = mkT key m p l := ⟨_, rfl⟩
  have HIT : Hid ((Try.prog.info? 27).map (·.size) = some (cellsOf T).length) := by rw [hT]; exact hs27 (mkT_tk key m p l)
  rw [← hT]
  replace hT := hid_into hT
  have HZ32 := hid_into Dg.Try.zero48
  have HI32 : Hid ((Try.prog.info? 48).map (·.size) = some (cellsOf (zeroB 32)).length) := hsB Dg.Try.size48 (zeroB_len 32)
  have HMB := hid_into (msg_byt hm hp hl)
  have HML := hid_into (msg_len m p l)
  have HNM := hid_into (Oc.numOf_length m)
  have HNP := hid_into (Oc.numOf_length p)
  have HNL := hid_into (Oc.numOf_length l)
  have CM := hid_into (fun W => Oc.refNum_any m W hm.1 hm.2)
  have CP := hid_into (fun W => Oc.refNum_any p W hp.1 hp.2)
  have CL := hid_into (fun W => Oc.refNum_any l W hl.1 hl.2)
  have HMSG : Hid (msg m p l = (([84] ++ Oc.numOf m) ++ Oc.numOf p) ++ Oc.numOf l) := hid_into rfl
  have HTM : Hid (T = (macN key (msg m p l)).take 16) := hid_into hT.out
  clear hT
  generalize Oc.numOf m = nm at *
  generalize Oc.numOf p = np at *
  generalize Oc.numOf l = nl at *
  generalize msg m p l = M at *
  go_enter Try.func9, Try.ntmps9
  refine wp_seq (wp_region_lit (wpList_alloc_row rfl 27 rfl (cellsOf (zeroB 16)) HZ.out ?_))
  intro V1 hq1 Q1 QS1
  have hk1 := hk.below Q1 (Nat.le_refl _)
  have hb1 : Hid (w.heap.size + 1 ≤ V1.heap.size) := hid_into (by rw [QS1.out]; exact Nat.le_refl _)
  have hb2 : Hid (V1.heap.size = w.heap.size + 1) := QS1
  obtain ⟨V2, hV2⟩ : ∃ V2, V2 = V1.alloc (.cells #[.int .u8 84] 5) := ⟨_, rfl⟩
  have ho2 : Dg.Ow V2 (w.heap.size + 1) (.slice (some ⟨V1.heap.size, 0, none⟩) [84].length 1) [84] := by
    rw [hV2]
    exact Ow_of_block (zs := [84]) (heap_alloc_new V1 _) (by simp [maxLen]) hb1.out
  have hs2 : Below (w.heap.size + 1) V1 V2 := by rw [hV2]; exact (Below.refl _ _).alloc hb1.out _
  have HV2 := hid_into hV2
  clear hV2 hk QS1
  go_wp2_with fail
  rw [← HV2.out]
  refine (CM.out V2).mono ?_
  rintro e W3 ⟨a3, c3, rfl, ho3, B3⟩
  have ho2' : Dg.Ow W3 (w.heap.size + 1) (.slice (some ⟨V1.heap.size, 0, none⟩) [84].length 1) [84] := Ow_below ho2 B3 (Nat.le_refl _)
  have hs3 := hs2.trans (B3.mono (Nat.le_trans hb1.out hs2.size))
  have hb3 : Dg.Bs W3 (.slice a3 nm.length c3) nm := ho3.bs
  have HZ3 := hid_into (Nat.le_trans hb1.out hs3.size)
  clear ho2 hs2 B3 ho3 HV2
  go_wp2_with (at_builtin; refine wpList_append_bs _ rfl (.tmp 12) (.tmp 14) rfl (w.heap.size + 1) _ [84] rfl ho2' _ nm rfl hb3 (by have := HNM.out; simp; omega) HZ3.out ?_; intro a4 c4 W4 ho4 hg4 hn4; have hs4 := hs3.trans (grown_below hg4 ho2' HZ3.out); clear hg4 hn4)
  refine (CP.out W4).mono ?_
  rintro e W5 ⟨a5, c5, rfl, ho5, B5⟩
  have ho4' := Ow_below ho4 B5 (Nat.le_refl _)
  have hs5 := hs4.trans (B5.mono (Nat.le_trans hb1.out hs4.size))
  have hb5 : Dg.Bs W5 (.slice a5 np.length c5) np := ho5.bs
  have HZ5 := hid_into (Nat.le_trans hb1.out hs5.size)
  clear ho4 hs4 B5 ho5
  go_wp2_with (at_builtin; refine wpList_append_bs _ rfl (.tmp 16) (.tmp 18) rfl (w.heap.size + 1) _ ([84] ++ nm) rfl ho4' _ np rfl hb5 (by have := HNM.out; have := HNP.out; have := HNL.out; simp; omega) HZ5.out ?_; intro a6 c6 W6 ho6 hg6 hn6; have hs6 := hs5.trans (grown_below hg6 ho4' HZ5.out); clear hg6 hn6)
  refine (CL.out W6).mono ?_
  rintro e W7 ⟨a7, c7, rfl, ho7, B7⟩
  have ho6' := Ow_below ho6 B7 (Nat.le_refl _)
  have hs7 := hs6.trans (B7.mono (Nat.le_trans hb1.out hs6.size))
  have hb7 : Dg.Bs W7 (.slice a7 nl.length c7) nl := ho7.bs
  have HZ7 := hid_into (Nat.le_trans hb1.out hs7.size)
  clear ho6 hs6 B7 ho7
  go_wp2_with (at_builtin; refine wpList_append_bs _ rfl (.tmp 20) (.tmp 22) rfl (w.heap.size + 1) _ ([84] ++ nm ++ np) rfl ho6' _ nl rfl hb7 (by have := HNM.out; have := HNP.out; have := HNL.out; simp; omega) HZ7.out ?_; intro a8 c8 W8 ho8 hg8 hn8; have hs8 := hs7.trans (grown_below hg8 ho6' HZ7.out); clear hg8 hn8)
  have hbm : Dg.Bs W8 (.slice a8 (nm.length + np.length + 1 + nl.length) c8) M := by
    have h := ho8.bs
    rw [show (([84] : List Int) ++ nm ++ np).length + nl.length = nm.length + np.length + 1 + nl.length by simp +arith, ← HMSG.out] at h
    exact h
  have hk8 := hk1.below hs8 (Nat.le_of_eq hb2.out)
  obtain ⟨sh, hsh⟩ : ∃ sh, sh = macN key M := ⟨_, rfl⟩
  have HTK : Hid (T = sh.take 16) := hid_into (by rw [hsh]; exact HTM.out)
  have HSL : Hid (sh.length = 32) := hid_into (by rw [hsh]; exact mac_len _ _)
  have CMac : Hid (Calls Try.prog 22 #[.slice ak key.length ck, .slice a8 (nm.length + np.length + 1 + nl.length) c8] W8 fun e w' => e = .returned (.agg (cellsOf sh).toArray) ∧ Below W8.heap.size W8 w') := hid_into (by rw [hsh]; exact rmac_any _ _ key M W8 hk8 hbm hky HMB.out hkn (by have := HML.out; omega))
  have HCL : Hid ((cellsOf (zeroB 32)).length = (cellsOf sh).length) := hlB (by rw [zeroB_len, HSL.out])
  have HTL : Hid (T.length = 16) := hid_into (by rw [HTK.out, List.length_take, HSL.out]; rfl)
  have hq7 := hq1.below hs8 (Nat.lt_succ_self _)
  have BB7 : Below w.heap.size w W8 := Q1.trans (hs8.mono (Nat.le_succ _))
  have HS7 : Hid (w.heap.size + 1 ≤ W8.heap.size) := hid_into (Nat.le_trans hb1.out hs8.size)
  clear hsh hk8 hbm hk1 ho2' hs3 hb3 ho4' hs5 hb5 ho6' hs7 hb7 ho8 hs8 hq1 Q1 hb1 hb2 HMB HML CM CP CL HTM HMSG HZ3 HZ5 HZ7
  go_wp2_with (first
    | (go_at_call 22; refine CMac.out.mono ?_; rintro e W9 ⟨rfl, B8⟩; have hq8 := hq7.below B8 hq7.lt; have BB8 := BB7.trans (B8.mono BB7.size); have HS8 : Hid (w.heap.size + 1 ≤ W9.heap.size) := hid_into (Nat.le_trans HS7.out B8.size))
    | (refine wpList_alloc_row rfl 48 rfl (cellsOf (zeroB 32)) HZ32.out ?_; intro WB hh9 B9 HS9; have hq9 := hq8.below B9 hq8.lt; have BB9 := BB8.trans (B9.mono BB8.size))
    | (refine wpList_store_rw rfl 48 (.tmp 10) (.tmp 26) rfl W9.heap.size (cellsOf (zeroB 32)) (cellsOf sh) 48 rfl rfl hh9 HI32 HCL (cellsOf_one _) ?_; intro W10 hh10 O10; have hq10 := O10.cw hq9 (by have := HS8.out; omega); have BB10 := BB9.trans (O10.below (by have := HS8.out; omega)); have HS10 : Hid (w.heap.size + 1 ≤ W10.heap.size ∧ W9.heap.size < W10.heap.size) := hid_into ⟨by have := HS8.out; have := B9.size; have := O10.size; omega, hh10.lt⟩)
    | (refine wpList_alloc_row rfl 27 rfl (cellsOf (zeroB 16)) HZ.out ?_; intro W11 ht11 B11 HS11; have hq11 := hq10.below B11 hq10.lt; have hh11 := hh10.below B11 hh10.lt; have BB11 := BB10.trans (B11.mono BB10.size)))
  have HSRC : Hid (∀ j v, (cellsOf T)[j]? = some v → W11.cell? ⟨W9.heap.size, j, none⟩ = some v) := hid_into (fun j v hv => by
    obtain ⟨hj, rfl⟩ := cellsOf_get T j v hv
    rw [hh11.cell, cellsOf_get' sh j (by have := HTL.out; have := HSL.out; omega), HTK.out]
    simp [List.getD, show j < 16 by have := HTL.out; omega])
  have HSP : Hid (splice (cellsOf (zeroB 16)) 0 (cellsOf T) = cellsOf T) := hid_into (by
    rw [splice_front, cellsOf_length, HTL.out, List.drop_of_length_le (by rw [cellsOf_length, zeroB_len]; exact Nat.le_refl _), List.append_nil])
  go_region_law (refine step_copy_splice rfl (.tmp 27) (.tmp 28) 22 22 rfl 5 Try.underlying22 Dg.Try.size5 (some ⟨W10.heap.size, 0, none⟩) (some ⟨W9.heap.size, 0, none⟩) 16 16 16 32 rfl rfl W10.heap.size 0 (cellsOf (zeroB 16)) 27 (by exact ht11) (cellsOf T) (by rw [cellsOf_length, HTL.out]; rfl) (fun _ => ⟨rfl, _, rfl, fun j v hv => by rw [Addr.add_lit, Nat.zero_add]; exact HSRC.out j v hv⟩) (by rw [cellsOf_length, cellsOf_length, HTL.out, zeroB_len]; decide) (cellsOf_one _) (w.heap.size + 1) W11 (by exact (Below.refl _ _).drew) (by exact HS10.out.1) ?_; intro W12 HG12 B12)
  all_goals
    have ht12 : Cw W12 W10.heap.size (cellsOf T) 27 := by
      have h := HG12.out
      rw [HSP.out] at h
      exact h
    have hq12 : Cw W12 w.heap.size (cellsOf (zeroB 16)) 27 := hq11.keep (B12.block _ (Nat.lt_succ_self _))
    have BB12 : Below w.heap.size w W12 := BB11.trans (B12.mono (Nat.le_succ _))
    have HTZ : Hid ((cellsOf (zeroB 16)).length = (cellsOf T).length) := hlB (by rw [zeroB_len, HTL.out])
    go_wp2_with (first
      | (refine wpList_load_rw rfl 27 (.tmp 11) rfl W10.heap.size (cellsOf T) 27 _ rfl ht12 Try.underlying27 rfl HIT ?_)
      | (refine wpList_store_rw rfl 27 (.tmp 8) (.tmp 30) rfl w.heap.size (cellsOf (zeroB 16)) (cellsOf T) 27 rfl rfl hq12 HI HTZ (cellsOf_one _) ?_; intro WA hcA OA))
    exact ret_row rfl rfl rfl hcA Try.underlying27 rfl HIT ⟨rfl, BB12.trans (OA.below (Nat.le_refl _))⟩
end Go.Proofs.Ytkfnmdhhiigceaa
