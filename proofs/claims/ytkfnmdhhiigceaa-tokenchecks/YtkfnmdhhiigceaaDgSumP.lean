/-
  digest.Sum, by contract: SHA-256 of any bytes.
-/
import Derived.Test.YtkfnmdhhiigceaaDgEnding
import Derived.Test.YtkfnmdhhiigceaaDgHashS
import Derived.Deep.RegionWith
namespace Go.Proofs.Ytkfnmdhhiigceaa.Dg
open Go.RowKit
theorem Bs.cutL {w : World} {ao : Option Addr} {cap : Nat} {zs : List Int} (h : Bs w (.slice ao zs.length cap) zs) (n : Nat) (hn : n ≤ zs.length) : Bs w (.slice ao n cap) (zs.take n) := by
  by_cases hz : zs = []
  · subst hz
    obtain rfl : n = 0 := by simpa using hn
    exact h
  · obtain ⟨b, off, c, hv, h1, h2, h3⟩ := h.form hz
    simp only [Value.slice.injEq] at hv
    obtain ⟨rfl, _, rfl⟩ := hv
    have := Bs.piece (o := 0) (n := n) (c := cap) rfl h3 (by omega) (by omega) h2
    exact this
/-- 'p[n:]'. -/
theorem Bs.cutR {w : World} {ao : Option Addr} {cap : Nat} {zs : List Int} (h : Bs w (.slice ao zs.length cap) zs) (n : Nat) (hn : n ≤ zs.length) : Bs w (.slice (if cap = n then ao else ao.map fun x => x.add n) (zs.length - n) (cap - n)) (zs.drop n) := by
  by_cases hz : zs = []
  · subst hz
    obtain rfl : n = 0 := by simpa using hn
    rcases h with ⟨_, a1, c1, hv, h1, h2⟩ | ⟨h0, _⟩
    · simp only [Value.slice.injEq] at hv
      obtain ⟨rfl, _, rfl⟩ := hv
      refine Or.inl ⟨rfl, _, _, rfl, h1, fun e => ?_⟩
      cases ao with
      | none => simp [h2 rfl]
      | some a => split at e <;> simp at e
    · exact absurd rfl h0
  · obtain ⟨b, off, c, hv, h1, h2, h3⟩ := h.form hz
    simp only [Value.slice.injEq] at hv
    obtain ⟨rfl, _, rfl⟩ := hv
    by_cases hc : cap = n
    · have hl : zs.length = n := by omega
      rw [if_pos hc]
      refine Or.inl ⟨List.drop_of_length_le (by omega), _, _, by rw [hl, Nat.sub_self], by omega, by intro e; cases e⟩
    · rw [if_neg hc]
      have := Bs.piece (o := n) (n := zs.length - n) (c := cap - n) rfl h3 (by omega) (by omega) (by omega)
      rw [List.take_of_length_le (by rw [List.length_drop]; exact Nat.le_refl _)] at this
      simpa [Addr.add_lit] using this
theorem sha_form (bs : List Int) (wh q m : Nat) (hq : q = bs.length / 64) (hw : wh = 64 * q) (hm : (endOf (bs.drop wh) bs.length).length = 64 * m) :
    shaN bs = (absorb m (absorb q s0N (bs.take wh)) (endOf (bs.drop wh) bs.length)).hash := by
  unfold shaN
  rw [← hq, ← hw, hm, Nat.mul_div_cancel_left m (by decide), absorb_take q wh s0N bs (by omega)]
theorem end_blocks (bs : List Int) (wh : Nat) (hw : wh = 64 * (bs.length / 64)) : ∃ m, (endOf (bs.drop wh) bs.length).length = 64 * m := by
  rw [endOf_length _ _ (by rw [List.length_drop]; omega)]
  split
  · exact ⟨2, rfl⟩
  · exact ⟨1, rfl⟩
set_option maxRecDepth 20000 in
set_option maxHeartbeats 1600000 in
theorem sum_any (v : Value) (bs : List Int) (w : World) (hb : Bs w v bs) (hby : Byt bs) (hn : bs.length ≤ 1000000) :
    Calls Try.prog 28 #[v] w fun e w' => e = .returned (.agg (cellsOf (shaN bs)).toArray) ∧ Below w.heap.size w w' := by
  obtain ⟨ao, cap, hv, _⟩ := hb.len
  subst hv
  obtain ⟨fl, hfl⟩ : ∃ fl, fl = cellsOf (shaN bs) := ⟨_, rfl⟩
  obtain ⟨zl, hzl⟩ : ∃ zl, zl = cellsOf (zeroB 32) := ⟨_, rfl⟩
  obtain ⟨z8, hz8⟩ : ∃ z8, z8 = cellsW (zeroW 8) := ⟨_, rfl⟩
  obtain ⟨sl, hsl⟩ : ∃ sl, sl = cellsW s0N.list := ⟨_, rfl⟩
  rw [← hfl]
  have ZL : Hid ((Try.prog.info? 48).bind (·.zero) = some (.agg zl.toArray)) := by rw [hzl]; exact Try.zero48
  have HIz : Hid ((Try.prog.info? 48).map (·.size) = some zl.length) := by rw [hzl]; exact hsB Try.size48 (zeroB_len 32)
  have HIf : Hid ((Try.prog.info? 48).map (·.size) = some fl.length) := by rw [hfl]; exact hsB Try.size48 rfl
  have HLf : Hid (zl.length = fl.length) := by rw [hzl, hfl]; exact hlB rfl
  have HCf : Hid (∀ v ∈ fl, v.oneCell' = true) := by rw [hfl]; exact cellsOf_one _
  have Z8 : Hid ((Try.prog.info? 66).bind (·.zero) = some (.agg z8.toArray)) := by rw [hz8]; exact Try.zero66
  have HI8 : Hid ((Try.prog.info? 66).map (·.size) = some z8.length) := by rw [hz8]; exact hsW Try.size66 (zeroW_len 8)
  have HL8 : Hid (z8.length = sl.length) := by rw [hz8, hsl]; exact hlW rfl
  have HCs : Hid (∀ v ∈ sl, v.oneCell' = true) := by rw [hsl]; exact cellsW_one _
  have HSL := hid_into hsl
  have HB0 : Hid (#[Value.int .u32 1779033703, .int .u32 3144134277, .int .u32 1013904242, .int .u32 2773480762, .int .u32 1359893119, .int .u32 2600822924, .int .u32 528734635, .int .u32 1541459225] = sl.toArray) := by rw [hsl]; rfl
  have HFL := hid_into hfl
  have HIsl : Hid ((Try.prog.info? 66).map (·.size) = some sl.length) := by rw [hsl]; exact hsW Try.size66 rfl
  clear hfl hzl hz8 hsl
  obtain ⟨q, hq⟩ : ∃ q, q = bs.length / 64 := ⟨_, rfl⟩
  obtain ⟨wh, hwh⟩ : ∃ wh, wh = 64 * q := ⟨_, rfl⟩
  obtain ⟨m, hm⟩ := end_blocks bs wh (by rw [hwh, hq])
  have hwi : (bs.length : Int) - (bs.length : Int) % 64 = (wh : Int) := by omega
  have hwl : (wh : Int) ≤ (bs.length : Int) := by omega
  have hcap : bs.length ≤ cap ∧ cap ≤ maxLen := by
    rcases hb with ⟨h0, a1, c1, h1, h2, h3⟩ | ⟨_, b1, o1, c1, h1, h2, h3, _⟩
    · simp only [Value.slice.injEq] at h1
      obtain ⟨_, h4, rfl⟩ := h1
      exact ⟨by omega, h2⟩
    · simp only [Value.slice.injEq] at h1
      obtain ⟨_, _, rfl⟩ := h1
      exact ⟨h2, h3⟩
  unfold maxLen at hcap
  have hcap1 : (bs.length : Int) ≤ (cap : Int) := by omega
  have hcap2 : (cap : Int) ≤ 9223372036854775807 := by omega
  have hwc : (wh : Int) ≤ (cap : Int) := by omega
  have HBL := hid_into (hb.cutL wh (by omega))
  have HBR := hid_into (hb.cutR wh (by omega))
  have HBYL := hid_into (hby.take wh)
  have HQ : Hid ((bs.take wh).length = 64 * q) := by show _ = _; rw [List.length_take]; omega
  have HM := hid_into hm
  have HDL : Hid ((bs.drop wh).length < 64) := by show _ < _; rw [List.length_drop]; omega
  have HSHA := hid_into (sha_form bs wh q m hq hwh hm)
  clear hq hwh hm hcap
  go_enter Try.func28, Try.ntmps28
  refine wp_seq (wp_region_lit (wpList_alloc_row rfl 48 rfl zl ZL.out ?_))
  intro W1 hc1 B1 HS1
  refine wpList_nil ?_
  go_wp2_with (first
    | (refine wpList_alloc_row rfl 66 rfl z8 Z8.out ?_; intro W2 hc2 B2 HS2; rw [HS1.out] at hc2 B2 ⊢; have hq2 := hc1.below B2 (by omega))
    | (rw [HB0.out]; refine wpList_store_rw rfl 66 (.tmp 3) (.tmp 5) rfl (w.heap.size + 1) z8 sl 66 rfl rfl hc2 HI8 HL8 HCs.out ?_; intro W3 hc3 O3))
  have hbl : Bs W3 (.slice ao wh cap) (bs.take wh) := HBL.out.below ((B1.trans (B2.mono (by omega))).trans (O3.below (by omega))) (Nat.le_refl _)
  refine wp_region_any (by kernel_rfl) ?_
  change wpAny _ _ _ _ _ _ _ (World.drew _)
  refine wpAny_take (i := 1) (v := .slice ao bs.length cap) rfl (by kernel_rfl) (by kernel_rfl) (by kernel_rfl) (fun _ _ _ h => h) (Or.inl ⟨by rfl, by intro w; go_simp⟩) ?_
  refine wpAny_take (i := 2) (v := .int .i64 wh) rfl (by kernel_rfl) (by kernel_rfl) (by kernel_rfl) (fun _ _ _ h => h) (Or.inl ⟨by rfl, by intro w; go_simp⟩) ?_
  refine wpAny_take (i := 3) (v := .slice ao wh cap) rfl (by kernel_rfl) (by kernel_rfl) (by kernel_rfl) (fun _ _ _ h => h) (Or.inl ⟨by rfl, by intro w; go_simp⟩) ?_
  refine wpAny_ready (rs := [0]) (by kernel_rfl) (by simp) ?_
  refine AllReady.cons rfl (fun K hK => ?_) AllReady.nil
  rw [if_pos (by rfl)]
  refine wp_load_mid 66 (.tmp 3) rfl (w.heap.size + 1) 0 rfl sl _ (by exact hc3.range) Try.underlying66 rfl HIsl.out ?_
  refine hK _ _ ?_
  clear hK K
  refine wpAny_ready (rs := [4]) (by kernel_rfl) (by simp) ?_
  refine AllReady.cons rfl (fun K hK => ?_) AllReady.nil
  go_simp
  rw [HSL.out]
  refine (over_any s0N _ (bs.take wh) q _ (by exact hbl) s0N_ok HBYL.out HQ.out).mono ?_
  rintro e W4 ⟨rfl, B4⟩
  dsimp only
  refine hK _ _ ?_
  clear hK K
  replace B4 : Below W3.heap.size W3 W4 := ⟨B4.os, B4.tape, B4.output, B4.size, B4.block⟩
  have hc4 : Cw W4 (w.heap.size + 1) sl 66 := hc3.below B4 hc3.lt
  have hq3 : Cw W3 w.heap.size zl 48 := O3.cw hq2 (by omega)
  have hq4 : Cw W4 w.heap.size zl 48 := hq3.below B4 hq3.lt
  have BB3 : Below w.heap.size w W3 := (B1.trans (B2.mono (by omega))).trans (O3.below (by omega))
  have BB4 : Below w.heap.size w W4 := BB3.trans (B4.mono (by have := hc3.lt; omega))
  have OK1 := hid_into (absorb_ok q (bs.take wh) s0N_ok)
  generalize absorb q s0N (bs.take wh) = t1 at *
  obtain ⟨tl, htl⟩ : ∃ tl, tl = cellsW t1.list := ⟨_, rfl⟩
  rw [← htl]
  have HTL := hid_into htl
  have HItl : Hid ((Try.prog.info? 66).map (·.size) = some tl.length) := by rw [htl]; exact hsW Try.size66 rfl
  have HLtl : Hid (sl.length = tl.length) := by rw [HSL.out, htl]; exact hlW rfl
  have HCtl : Hid (∀ v ∈ tl, v.oneCell' = true) := by rw [htl]; exact cellsW_one _
  clear htl
  have hth4 : W4.there (w.heap.size + 1) 0 tl.toArray.size := by have h := hc4.there; rw [HLtl.out] at h; simpa using h
  refine wpAny_ready (rs := [5]) (by kernel_rfl) (by simp) ?_
  refine AllReady.cons rfl (fun K hK => ?_) AllReady.nil
  rw [if_pos (by rfl)]
  refine wp_store_mid 66 (.tmp 3) (.tmp 16) rfl (w.heap.size + 1) 0 tl.toArray rfl rfl hth4 (by rw [List.size_toArray]; exact HItl.out) (all_oneCell_toArray HCtl.out) ?_
  refine hK _ _ ?_
  clear hK K
  refine wpAny_done (by kernel_rfl) ?_ _
  have hc5 : Cw (W4.setCells (w.heap.size + 1) 0 tl) (w.heap.size + 1) tl 66 := hc4.put HLtl.out
  have O5 := Only.sets (w.heap.size + 1) 0 W4 tl
  obtain ⟨W5, hW5⟩ : ∃ W5, W5 = W4.setCells (w.heap.size + 1) 0 tl := ⟨_, rfl⟩
  rw [← hW5] at hc5 O5
  simp only [← hW5, List.getElem_toArray, List.getElem_cons_succ, List.getElem_cons_zero, Act.put]
  have hq5 : Cw W5 w.heap.size zl 48 := O5.cw hq4 (by omega)
  have BB5 : Below w.heap.size w W5 := BB4.trans (O5.below (by omega))
  clear hc3 hc4 hq3 hq4 B4 O5 hW5 BB3 BB4 hc1 hc2 hq2 B1 B2 HS1 HS2 O3 hbl
  go_wp2_with fail
  obtain ⟨ta, hta⟩ : ∃ ta, (if cap = wh then ao else ao.map fun x => x.add wh) = ta := ⟨_, rfl⟩
  rw [hta] at HBR
  have hbr5 : Bs W5 (.slice ta (bs.length - wh) (cap - wh)) (bs.drop wh) := HBR.out.below BB5 (Nat.le_refl _)
  refine wp_region_any (by kernel_rfl) ?_
  change wpAny _ _ _ _ _ _ _ (World.drew _)
  refine wpAny_take (i := 1) (v := .slice ao bs.length cap) rfl (by kernel_rfl) (by kernel_rfl) (by kernel_rfl) (fun _ _ _ h => h) (Or.inl ⟨by rfl, by intro w; go_simp⟩) ?_
  refine wpAny_take (i := 2) (v := .int .i64 wh) rfl (by kernel_rfl) (by kernel_rfl) (by kernel_rfl) (fun _ _ _ h => h) (Or.inl ⟨by rfl, by intro w; go_simp⟩) ?_
  refine wpAny_take (i := 3) (v := .slice ta (bs.length - wh) (cap - wh)) rfl (by kernel_rfl) (by kernel_rfl) (by kernel_rfl) (fun _ _ _ h => h) (Or.inl ⟨by rfl, by intro w; go_simp⟩) ?_
  refine wpAny_take (i := 4) (v := .slice ao bs.length cap) rfl (by kernel_rfl) (by kernel_rfl) (by kernel_rfl) (fun _ _ _ h => h) (Or.inl ⟨by rfl, by intro w; go_simp⟩) ?_
  refine wpAny_take (i := 5) (v := .int .i64 (bs.length : Int)) rfl (by kernel_rfl) (by kernel_rfl) (by kernel_rfl) (fun _ _ _ h => h) (Or.inl ⟨by rfl, by intro w; go_simp⟩) ?_
  have HEL : Hid ((endOf (bs.drop wh) bs.length).length ≤ 128) := by show _ ≤ _; rw [endOf_length _ _ HDL.out]; split <;> omega
  clear hta
  refine wpAny_ready (rs := [0, 6]) (by kernel_rfl) (by simp) ?_
  refine AllReady.cons rfl (fun K hK => ?_) (AllReady.cons rfl (fun K hK => ?_) AllReady.nil)
  · skip
    rw [if_pos (by rfl)]
    refine wp_load_mid 66 (.tmp 3) rfl (w.heap.size + 1) 0 rfl tl _ (by exact hc5.range) Try.underlying66 rfl HItl.out ?_
    refine hK _ _ ?_
    clear hK K
    refine wpAny_ready (rs := [6]) (by kernel_rfl) (by simp) ?_
    refine AllReady.cons rfl (fun K hK => ?_) AllReady.nil
    go_simp
    refine (ending_any _ (bs.drop wh) bs.length _ (by exact hbr5) HDL.out (by omega)).mono ?_
    rintro e W6 ⟨rfl, he6, B6⟩
    dsimp only
    refine hK _ _ ?_
    clear hK K
    replace B6 : Below W5.heap.size W5 W6 := ⟨B6.os, B6.tape, B6.output, B6.size, B6.block⟩
    replace he6 : Cw W6 W5.heap.size (cellsOf (endOf (bs.drop wh) bs.length)) 5 := he6
    have hc6 : Cw W6 (w.heap.size + 1) tl 66 := hc5.below B6 hc5.lt
    have hq6 : Cw W6 w.heap.size zl 48 := hq5.below B6 hq5.lt
    have BB6 : Below w.heap.size w W6 := BB5.trans (B6.mono (by have := hc5.lt; omega))
    have he7 := he6.bs (by unfold maxLen; have := HEL.out; omega)
    have OK2 := hid_into (absorb_ok m (endOf (bs.drop wh) bs.length) OK1.out)
    have HBYE := hid_into (endOf_byt (hby.drop wh) bs.length)
    have HSH2 := HSHA
    generalize endOf (bs.drop wh) bs.length = ee at *
    refine wpAny_ready (rs := [7]) (by kernel_rfl) (by simp) ?_
    refine AllReady.cons rfl (fun K hK => ?_) AllReady.nil
    go_simp
    rw [HTL.out]
    refine (over_any t1 _ ee m _ (by exact he7) OK1.out HBYE.out HM.out).mono ?_
    rintro e W7 ⟨rfl, B7⟩
    dsimp only
    refine hK _ _ ?_
    clear hK K
    have hc7 : Cw W7 (w.heap.size + 1) tl 66 := hc6.below B7 hc6.lt
    have hq7 : Cw W7 w.heap.size zl 48 := hq6.below B7 hq6.lt
    have BB7 : Below w.heap.size w W7 := BB6.trans (B7.mono (by have := hc6.lt; omega))
    generalize absorb m t1 ee = t2 at *
    obtain ⟨ul, hul⟩ : ∃ ul, ul = cellsW t2.list := ⟨_, rfl⟩
    rw [← hul]
    have HUL := hid_into hul
    have HIul : Hid ((Try.prog.info? 66).map (·.size) = some ul.length) := by rw [hul]; exact hsW Try.size66 rfl
    have HLul : Hid (tl.length = ul.length) := by rw [HTL.out, hul]; exact hlW rfl
    have HCul : Hid (∀ v ∈ ul, v.oneCell' = true) := by rw [hul]; exact cellsW_one _
    clear hul
    have hth7 : W7.there (w.heap.size + 1) 0 ul.toArray.size := by have h := hc7.there; rw [HLul.out] at h; simpa using h
    refine wpAny_ready (rs := [8]) (by kernel_rfl) (by simp) ?_
    refine AllReady.cons rfl (fun K hK => ?_) AllReady.nil
    rw [if_pos (by rfl)]
    refine wp_store_mid 66 (.tmp 3) (.tmp 24) rfl (w.heap.size + 1) 0 ul.toArray rfl rfl hth7 (by rw [List.size_toArray]; exact HIul.out) (all_oneCell_toArray HCul.out) ?_
    refine hK _ _ ?_
    clear hK K
    refine wpAny_done (by kernel_rfl) ?_ _
    have hc8 : Cw (W7.setCells (w.heap.size + 1) 0 ul) (w.heap.size + 1) ul 66 := hc7.put HLul.out
    have O8 := Only.sets (w.heap.size + 1) 0 W7 ul
    obtain ⟨W8, hW8⟩ : ∃ W8, W8 = W7.setCells (w.heap.size + 1) 0 ul := ⟨_, rfl⟩
    rw [← hW8] at hc8 O8
    simp only [← hW8, List.getElem_toArray, List.getElem_cons_succ, List.getElem_cons_zero, Act.put]
    have hq8 : Cw W8 w.heap.size zl 48 := O8.cw hq7 (by omega)
    have BB8 : Below w.heap.size w W8 := BB7.trans (O8.below (by omega))
    have HFH : Hid (fl = cellsOf t2.hash) := by rw [HFL.out, HSH2.out]; rfl
    clear hc5 hc6 hc7 hq5 hq6 hq7 B6 B7 O8 hW8 BB5 BB6 BB7 he6 he7 hbr5 hth7
    go_wp2_with (refine wpList_load_rw rfl 66 (.tmp 3) rfl (w.heap.size + 1) ul 66 _ rfl hc8 Try.underlying66 rfl HIul ?_)
    rw [HUL.out]
    refine (hash_any t2 W8 OK2.out).mono ?_
    rintro e W9 ⟨rfl, B9⟩
    rw [← HFH.out]
    have hq9 := hq8.below B9 hq8.lt
    have BB9 : Below w.heap.size w W9 := BB8.trans (B9.mono (by have := hc8.lt; omega))
    go_wp2_with (refine wpList_store_rw rfl 48 (.tmp 2) (.tmp 26) rfl w.heap.size zl fl 48 rfl rfl hq9 HIz HLf HCf.out ?_; intro WA hcA OA)
    exact ret_row rfl rfl rfl hcA Try.underlying48 rfl HIf ⟨rfl, BB9.trans (OA.below (Nat.le_refl _))⟩
  · skip
    go_simp
    refine (ending_any _ (bs.drop wh) bs.length _ (by exact hbr5) HDL.out (by omega)).mono ?_
    rintro e W6 ⟨rfl, he6, B6⟩
    dsimp only
    refine hK _ _ ?_
    clear hK K
    replace B6 : Below W5.heap.size W5 W6 := ⟨B6.os, B6.tape, B6.output, B6.size, B6.block⟩
    replace he6 : Cw W6 W5.heap.size (cellsOf (endOf (bs.drop wh) bs.length)) 5 := he6
    have hc6 : Cw W6 (w.heap.size + 1) tl 66 := hc5.below B6 hc5.lt
    have hq6 : Cw W6 w.heap.size zl 48 := hq5.below B6 hq5.lt
    have BB6 : Below w.heap.size w W6 := BB5.trans (B6.mono (by have := hc5.lt; omega))
    refine wpAny_ready (rs := [0]) (by kernel_rfl) (by simp) ?_
    refine AllReady.cons rfl (fun K hK => ?_) AllReady.nil
    rw [if_pos (by rfl)]
    refine wp_load_mid 66 (.tmp 3) rfl (w.heap.size + 1) 0 rfl tl _ (by exact hc6.range) Try.underlying66 rfl HItl.out ?_
    refine hK _ _ ?_
    clear hK K
    have he7 := he6.bs (by unfold maxLen; have := HEL.out; omega)
    have OK2 := hid_into (absorb_ok m (endOf (bs.drop wh) bs.length) OK1.out)
    have HBYE := hid_into (endOf_byt (hby.drop wh) bs.length)
    have HSH2 := HSHA
    generalize endOf (bs.drop wh) bs.length = ee at *
    refine wpAny_ready (rs := [7]) (by kernel_rfl) (by simp) ?_
    refine AllReady.cons rfl (fun K hK => ?_) AllReady.nil
    go_simp
    rw [HTL.out]
    refine (over_any t1 _ ee m _ (by exact he7) OK1.out HBYE.out HM.out).mono ?_
    rintro e W7 ⟨rfl, B7⟩
    dsimp only
    refine hK _ _ ?_
    clear hK K
    have hc7 : Cw W7 (w.heap.size + 1) tl 66 := hc6.below B7 hc6.lt
    have hq7 : Cw W7 w.heap.size zl 48 := hq6.below B7 hq6.lt
    have BB7 : Below w.heap.size w W7 := BB6.trans (B7.mono (by have := hc6.lt; omega))
    generalize absorb m t1 ee = t2 at *
    obtain ⟨ul, hul⟩ : ∃ ul, ul = cellsW t2.list := ⟨_, rfl⟩
    rw [← hul]
    have HUL := hid_into hul
    have HIul : Hid ((Try.prog.info? 66).map (·.size) = some ul.length) := by rw [hul]; exact hsW Try.size66 rfl
    have HLul : Hid (tl.length = ul.length) := by rw [HTL.out, hul]; exact hlW rfl
    have HCul : Hid (∀ v ∈ ul, v.oneCell' = true) := by rw [hul]; exact cellsW_one _
    clear hul
    have hth7 : W7.there (w.heap.size + 1) 0 ul.toArray.size := by have h := hc7.there; rw [HLul.out] at h; simpa using h
    refine wpAny_ready (rs := [8]) (by kernel_rfl) (by simp) ?_
    refine AllReady.cons rfl (fun K hK => ?_) AllReady.nil
    rw [if_pos (by rfl)]
    refine wp_store_mid 66 (.tmp 3) (.tmp 24) rfl (w.heap.size + 1) 0 ul.toArray rfl rfl hth7 (by rw [List.size_toArray]; exact HIul.out) (all_oneCell_toArray HCul.out) ?_
    refine hK _ _ ?_
    clear hK K
    refine wpAny_done (by kernel_rfl) ?_ _
    have hc8 : Cw (W7.setCells (w.heap.size + 1) 0 ul) (w.heap.size + 1) ul 66 := hc7.put HLul.out
    have O8 := Only.sets (w.heap.size + 1) 0 W7 ul
    obtain ⟨W8, hW8⟩ : ∃ W8, W8 = W7.setCells (w.heap.size + 1) 0 ul := ⟨_, rfl⟩
    rw [← hW8] at hc8 O8
    simp only [← hW8, List.getElem_toArray, List.getElem_cons_succ, List.getElem_cons_zero, Act.put]
    have hq8 : Cw W8 w.heap.size zl 48 := O8.cw hq7 (by omega)
    have BB8 : Below w.heap.size w W8 := BB7.trans (O8.below (by omega))
    have HFH : Hid (fl = cellsOf t2.hash) := by rw [HFL.out, HSH2.out]; rfl
    clear hc5 hc6 hc7 hq5 hq6 hq7 B6 B7 O8 hW8 BB5 BB6 BB7 he6 he7 hbr5 hth7
    go_wp2_with (refine wpList_load_rw rfl 66 (.tmp 3) rfl (w.heap.size + 1) ul 66 _ rfl hc8 Try.underlying66 rfl HIul ?_)
    rw [HUL.out]
    refine (hash_any t2 W8 OK2.out).mono ?_
    rintro e W9 ⟨rfl, B9⟩
    rw [← HFH.out]
    have hq9 := hq8.below B9 hq8.lt
    have BB9 : Below w.heap.size w W9 := BB8.trans (B9.mono (by have := hc8.lt; omega))
    go_wp2_with (refine wpList_store_rw rfl 48 (.tmp 2) (.tmp 26) rfl w.heap.size zl fl 48 rfl rfl hq9 HIz HLf HCf.out ?_; intro WA hcA OA)
    exact ret_row rfl rfl rfl hcA Try.underlying48 rfl HIf ⟨rfl, BB9.trans (OA.below (Nat.le_refl _))⟩
end Go.Proofs.Ytkfnmdhhiigceaa.Dg
