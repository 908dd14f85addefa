/-
  Make, by contract.
-/
import Derived.Test.YtkfnmdhhiigceaaTkText
import Derived.Test.YtkfnmdhhiigceaaDgMacP
import Derived.Test.YtkfnmdhhiigceaaOcRef
import Derived.Deep.RegionHeld3
namespace Go.Proofs.Ytkfnmdhhiigceaa
open Go.RowKit Dg
/-- A number that an int holds. -/
def I64 (x : Int) : Prop := -9223372036854775808 ≤ x ∧ x ≤ 9223372036854775807
theorem numB_byt {x : Int} (h : I64 x) : Byt (Oc.numOf x) := by
  have hr := Oc.foldI_range x h.1 h.2
  exact Oc.numB_bytes 9 _ (Oc.Fits.start _ hr.1 hr.2)
/-- What the digest under a key is of. -/
def msg (m p l : Int) : List Int := [84] ++ Oc.numOf m ++ Oc.numOf p ++ Oc.numOf l
theorem msg_byt {m p l : Int} (hm : I64 m) (hp : I64 p) (hl : I64 l) : Byt (msg m p l) := by
  unfold msg
  refine (((show Byt [84] from ?_).append (numB_byt hm)).append (numB_byt hp)).append (numB_byt hl)
  intro z hz
  simp at hz
  omega
theorem msg_len (m p l : Int) : (msg m p l).length ≤ 31 := by
  have := Oc.numOf_length m
  have := Oc.numOf_length p
  have := Oc.numOf_length l
  simp [msg]
  omega
/-- A player's word. -/
def mkT (key : List Int) (m p l : Int) : List Int := (macN key (msg m p l)).take 16
theorem mac_len (key bs : List Int) : (macN key bs).length = 32 := shaN_length _
theorem mkT_tk (key : List Int) (m p l : Int) : Tk (mkT key m p l) := by
  refine ⟨by rw [mkT, List.length_take, mac_len]; rfl, fun z hz => ?_⟩
  exact shaN_byt _ z (List.mem_of_mem_take hz)
set_option maxRecDepth 20000 in
set_option maxHeartbeats 2000000 in
theorem make_any (vk : Value) (key : List Int) (m p l : Int) (w : World) (hk : Bs w vk key) (hky : Byt key) (hkn : key.length ≤ 100000) (hm : I64 m) (hp : I64 p) (hl : I64 l) :
    Calls Try.prog 8 #[vk, .int .i64 m, .int .i64 p, .int .i64 l] w fun e w' => e = .returned (.agg (cellsOf (mkT key m p l)).toArray) ∧ Below w.heap.size w w' := by
  obtain ⟨ak, ck, hvk, _⟩ := hk.len
  subst hvk
  have HZ : Hid ((Try.prog.info? 25).bind (·.zero) = some (.agg (cellsOf (zeroB 16)).toArray)) := hid_into (by kernel_rfl)
  have ztk : Tk (zeroB 16) := ⟨zeroB_len 16, fun z hz => by rw [zeroB, List.mem_replicate] at hz; omega⟩
  have HI := hs25 ztk
  obtain ⟨T, hT⟩ : ∃ T, T = mkT key m p l := ⟨_, rfl⟩
  have HIT : Hid ((Try.prog.info? 25).map (·.size) = some (cellsOf T).length) := by rw [hT]; exact hs25 (mkT_tk key m p l)
  rw [← hT]
  replace hT := hid_into hT
  have HZ32 := hid_into Dg.Try.zero48
  have HI32 : Hid ((Try.prog.info? 48).map (·.size) = some (cellsOf (zeroB 32)).length) := hsB Dg.Try.size48 (zeroB_len 32)
  have HMB := hid_into (msg_byt hm hp hl)
  have HML := hid_into (msg_len m p l)
  have HNM := Oc.numOf_length m
  have HNP := Oc.numOf_length p
  have HNL := Oc.numOf_length l
  go_enter Try.func8, Try.ntmps8
  refine wp_seq (wp_region_lit (wpList_alloc_row rfl 25 rfl (cellsOf (zeroB 16)) HZ.out ?_))
  intro V1 hq1 Q1 QS1
  have hk1 := hk.below Q1 (Nat.le_refl _)
  have hw1 := Oc.Wr_new V1
  have hs1 : Below (w.heap.size + 1) V1 (V1.alloc (.cells #[.slice none 0 0] 44)) := (Below.refl _ _).alloc (by rw [QS1.out]; exact Nat.le_refl _) _
  have hb1 : w.heap.size + 1 ≤ V1.heap.size := by rw [QS1.out]; exact Nat.le_refl _
  have hb2 : Hid (V1.heap.size = w.heap.size + 1) := QS1
  clear hk QS1
  generalize hV2 : V1.alloc (.cells #[.slice none 0 0] 44) = V2 at *
  go_wp2_with fail
  refine (Oc.byte_w V1.heap.size _ [] 84 V2 hw1 (by simp)).mono ?_
  rintro e W3 ⟨rfl, u3, hw3, hst3⟩
  have hs3 := hs1.trans (hw1.below hst3 hb1)
  clear hst3
  go_wp2_with fail
  refine (Oc.num_w V1.heap.size _ _ m W3 hw3 (by simp) hm.1 hm.2).mono ?_
  rintro e W4 ⟨rfl, u4, hw4, hst4⟩
  have hs4 := hs3.trans (hw3.below hst4 hb1)
  clear hst4
  go_wp2_with fail
  refine (Oc.num_w V1.heap.size _ _ p W4 hw4 (by simp; omega) hp.1 hp.2).mono ?_
  rintro e W5 ⟨rfl, u5, hw5, hst5⟩
  have hs5 := hs4.trans (hw4.below hst5 hb1)
  clear hst5
  go_wp2_with fail
  refine (Oc.num_w V1.heap.size _ _ l W5 hw5 (by simp; omega) hl.1 hl.2).mono ?_
  rintro e W6 ⟨rfl, u6, hw6, hst6⟩
  have hs6 := hs5.trans (hw5.below hst6 hb1)
  clear hst6
  have hw6' : Oc.Wr W6 V1.heap.size u6 (msg m p l) := hw6
  clear hw1 hw3 hw4 hw5 hw6 hs1 hs3 hs4 hs5
  go_wp2_with fail
  refine (Oc.out_w V1.heap.size u6 (msg m p l) W6 hw6' (by have := HML.out; omega)).mono ?_
  rintro e W7 ⟨ao, cap, rfl, ho7, B7⟩
  have hs7 : Below (w.heap.size + 1) V1 W7 := hs6.trans (B7.mono (Nat.le_trans hb1 hs6.size))
  have hk7 := hk1.below hs7 (Nat.le_of_eq hb2.out)
  have hb7 : Dg.Bs W7 (.slice ao (msg m p l).length cap) (msg m p l) := ho7.bs
  clear hw6' hs6 hk1 ho7 B7
  have hs0 : w.heap.size + 1 ≤ W7.heap.size := Nat.le_trans hb1 hs7.size
  obtain ⟨sh, hsh⟩ : ∃ sh, sh = macN key (msg m p l) := ⟨_, rfl⟩
  have HTK : Hid (T = sh.take 16) := hid_into (by rw [hT.out, hsh]; rfl)
  have HSL : Hid (sh.length = 32) := hid_into (by rw [hsh]; exact mac_len _ _)
  have CM : Hid (Calls Try.prog 19 #[.slice ak key.length ck, .slice ao (msg m p l).length cap] W7 fun e w' => e = .returned (.agg (cellsOf sh).toArray) ∧ Below W7.heap.size W7 w') := hid_into (by rw [hsh]; exact mac_any _ _ key (msg m p l) W7 hk7 hb7 hky HMB.out hkn (by have := HML.out; omega))
  clear hsh hk7 hb7 HNM HNP HNL
  generalize (msg m p l).length = ml at *
  have HCL : Hid ((cellsOf (zeroB 32)).length = (cellsOf sh).length) := hlB (by rw [zeroB_len, HSL.out])
  have HTL : Hid (T.length = 16) := hid_into (by rw [HTK.out, List.length_take, HSL.out]; rfl)
  have hq7 := hq1.below hs7 (Nat.lt_succ_self _)
  have BB7 : Below w.heap.size w W7 := Q1.trans (hs7.mono (Nat.le_succ _))
  have HS7 := hid_into hs0
  clear hs7 hs0 hq1 Q1 hb1 hb2 HMB HML
  go_wp2_with (first
    | (go_at_call 19; refine CM.out.mono ?_; rintro e W8 ⟨rfl, B8⟩; have hq8 := hq7.below B8 hq7.lt; have BB8 := BB7.trans (B8.mono BB7.size); have HS8 : Hid (w.heap.size + 1 ≤ W8.heap.size) := hid_into (Nat.le_trans HS7.out B8.size))
    | (refine wpList_alloc_row rfl 48 rfl (cellsOf (zeroB 32)) HZ32.out ?_; intro W9 hh9 B9 HS9; have hq9 := hq8.below B9 hq8.lt; have BB9 := BB8.trans (B9.mono BB8.size))
    | (refine wpList_store_rw rfl 48 (.tmp 10) (.tmp 21) rfl W8.heap.size (cellsOf (zeroB 32)) (cellsOf sh) 48 rfl rfl hh9 HI32 HCL (cellsOf_one _) ?_; intro W10 hh10 O10; have hq10 := O10.cw hq9 (by have := HS8.out; omega); have BB10 := BB9.trans (O10.below (by have := HS8.out; omega)); have HS10 : Hid (w.heap.size + 1 ≤ W10.heap.size ∧ W8.heap.size < W10.heap.size) := hid_into ⟨by have := HS8.out; have := B9.size; have := O10.size; omega, hh10.lt⟩)
    | (refine wpList_alloc_row rfl 25 rfl (cellsOf (zeroB 16)) HZ.out ?_; intro W11 ht11 B11 HS11; have hq11 := hq10.below B11 hq10.lt; have hh11 := hh10.below B11 hh10.lt; have BB11 := BB10.trans (B11.mono BB10.size)))
  have HSRC : Hid (∀ j v, (cellsOf T)[j]? = some v → W11.cell? ⟨W8.heap.size, j, none⟩ = some v) := hid_into (fun j v hv => by
    obtain ⟨hj, rfl⟩ := cellsOf_get T j v hv
    rw [hh11.cell, cellsOf_get' sh j (by have := HTL.out; have := HSL.out; omega), HTK.out]
    simp [List.getD, show j < 16 by have := HTL.out; omega])
  have HSP : Hid (splice (cellsOf (zeroB 16)) 0 (cellsOf T) = cellsOf T) := hid_into (by
    rw [splice_front, cellsOf_length, HTL.out, List.drop_of_length_le (by rw [cellsOf_length, zeroB_len]; exact Nat.le_refl _), List.append_nil])
  go_region_law (refine step_copy_splice rfl (.tmp 22) (.tmp 23) 22 22 rfl 5 Try.underlying22 Dg.Try.size5 (some ⟨W10.heap.size, 0, none⟩) (some ⟨W8.heap.size, 0, none⟩) 16 16 32 32 rfl rfl W10.heap.size 0 (cellsOf (zeroB 16)) 25 (by exact ht11) (cellsOf T) (by rw [cellsOf_length, HTL.out]; rfl) (fun _ => ⟨rfl, _, rfl, fun j v hv => by rw [Addr.add_lit, Nat.zero_add]; exact HSRC.out j v hv⟩) (by rw [cellsOf_length, cellsOf_length, HTL.out, zeroB_len]; decide) (cellsOf_one _) (w.heap.size + 1) W11 (by exact (Below.refl _ _).drew) (by exact HS10.out.1) ?_; intro W12 HG12 B12)
  all_goals
    have ht12 : Cw W12 W10.heap.size (cellsOf T) 25 := by
      have h := HG12.out
      rw [HSP.out] at h
      exact h
    have hq12 : Cw W12 w.heap.size (cellsOf (zeroB 16)) 25 := hq11.keep (B12.block _ (Nat.lt_succ_self _))
    have BB12 : Below w.heap.size w W12 := BB11.trans (B12.mono (Nat.le_succ _))
    have HTZ : Hid ((cellsOf (zeroB 16)).length = (cellsOf T).length) := hlB (by rw [zeroB_len, HTL.out])
    go_wp2_with (first
      | (refine wpList_load_rw rfl 25 (.tmp 11) rfl W10.heap.size (cellsOf T) 25 _ rfl ht12 Try.underlying25 rfl HIT ?_)
      | (refine wpList_store_rw rfl 25 (.tmp 8) (.tmp 25) rfl w.heap.size (cellsOf (zeroB 16)) (cellsOf T) 25 rfl rfl hq12 HI HTZ (cellsOf_one _) ?_; intro WA hcA OA))
    exact ret_row rfl rfl rfl hcA Try.underlying25 rfl HIT ⟨rfl, BB12.trans (OA.below (Nat.le_refl _))⟩
end Go.Proofs.Ytkfnmdhhiigceaa
