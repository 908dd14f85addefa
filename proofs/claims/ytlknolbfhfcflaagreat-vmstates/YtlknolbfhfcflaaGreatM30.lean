/-
  Joined from: DgOver, DgHashS.
-/
import Derived.Test.YtlknolbfhfcflaaGreatM29
import Derived.BigRegion
section
/-
  digest.over, by contract: the state behind whole blocks.
-/
namespace Go.Proofs.YtlknolbfhfcflaaGreat.Dg
open Go.RowKit
/-- A piece of bytes. -/
theorem Bs.form {w : World} {v : Value} {zs : List Int} (h : Bs w v zs) (hz : zs ≠ []) : ∃ b off cap, v = .slice (some ⟨b, off, none⟩) zs.length cap ∧ zs.length ≤ cap ∧ cap ≤ maxLen ∧ ∀ i, i < zs.length → w.cell? ⟨b, off + i, none⟩ = some (.int .u8 (zs.getD i 0)) := by
  rcases h with ⟨h0, _⟩ | ⟨_, b, off, cap, hv, h1, h2, h3⟩
  · exact absurd h0 hz
  · exact ⟨b, off, cap, hv, h1, h2, h3⟩
theorem Bs.piece {w : World} {b off len : Nat} {zs : List Int} (hl : zs.length = len) (hc : ∀ i, i < len → w.cell? ⟨b, off + i, none⟩ = some (.int .u8 (zs.getD i 0))) (o n c : Nat) (ho : o + n ≤ len) (hn : n ≤ c) (hm : c ≤ maxLen) :
    Bs w (.slice (some ⟨b, off + o, none⟩) n c) ((zs.drop o).take n) := by
  have hln : ((zs.drop o).take n).length = n := by rw [List.length_take, List.length_drop]; omega
  by_cases h0 : n = 0
  · subst h0
    exact Or.inl ⟨by simp, _, c, rfl, hm, by intro h; cases h⟩
  · refine Or.inr ⟨fun h => h0 (by rw [← hln, h]; rfl), b, off + o, c, by rw [hln], by omega, hm, fun i hi => ?_⟩
    rw [hln] at hi
    have := hc (o + i) (by omega)
    rw [← Nat.add_assoc] at this
    rw [this]
    simp [List.getD, hi]
def sliceLen : Value → Nat
  | .slice _ n _ => n
  | _ => 0
theorem absorb_step (k : Nat) (s : S8) (bs : List Int) : absorb (k + 1) s bs = blockN (absorb k s bs) ((bs.drop (64 * k)).take 64) := rfl
set_option maxRecDepth 20000 in
set_option maxHeartbeats 1600000 in
theorem over_any (s : S8) (v : Value) (bs : List Int) (m : Nat) (w : World) (hb : Bs w v bs) (hok : s.ok) (hby : Byt bs) (hl : bs.length = 64 * m) :
    Calls Tryz.prog 37 #[.agg (cellsW s.list).toArray, v] w fun e w' => e = .returned (.agg (cellsW (absorb m s bs).list).toArray) ∧ Below w.heap.size w w' := by
  obtain ⟨sl, hsl⟩ : ∃ sl, sl = cellsW s.list := ⟨_, rfl⟩
  obtain ⟨fl, hfl⟩ : ∃ fl, fl = cellsW (absorb m s bs).list := ⟨_, rfl⟩
  obtain ⟨kl, hkl⟩ : ∃ kl, kl = cellsW kN := ⟨_, rfl⟩
  obtain ⟨z8, hz8⟩ : ∃ z8, z8 = cellsW (zeroW 8) := ⟨_, rfl⟩
  obtain ⟨z64, hz64⟩ : ∃ z64, z64 = cellsW (zeroW 64) := ⟨_, rfl⟩
  rw [← hsl, ← hfl]
  have Z8 : Hid ((Tryz.prog.info? 75).bind (·.zero) = some (.agg z8.toArray)) := by rw [hz8]; exact Tryz.zero75
  have Z64 : Hid ((Tryz.prog.info? 97).bind (·.zero) = some (.agg z64.toArray)) := by rw [hz64]; exact Tryz.zero97
  have HI8 : Hid ((Tryz.prog.info? 75).map (·.size) = some z8.length) := by rw [hz8]; exact hsW Tryz.size75 (zeroW_len 8)
  have HI64 : Hid ((Tryz.prog.info? 97).map (·.size) = some z64.length) := by rw [hz64]; exact hsW Tryz.size97 (zeroW_len 64)
  have HIf : Hid ((Tryz.prog.info? 75).map (·.size) = some fl.length) := by rw [hfl]; exact hsW Tryz.size75 rfl
  have HLf : Hid (z8.length = fl.length) := by rw [hz8, hfl]; exact hlW rfl
  have HLk : Hid (z64.length = kl.length) := by rw [hz64, hkl]; exact hlW rfl
  have HCf : Hid (∀ v ∈ fl, v.oneCell' = true) := by rw [hfl]; exact cellsW_one _
  have HCk : Hid (∀ v ∈ kl, v.oneCell' = true) := by rw [hkl]; exact cellsW_one _
  have HSL := hid_into hsl
  have HFL := hid_into hfl
  have HKL := hid_into hkl
  have H64 := hid_into hz64
  clear hsl hfl hkl hz8 hz64
  go_enter Tryz.func37, Tryz.ntmps37
  refine wp_seq (wp_region_lit (wpList_box_row rfl 75 (.tmp 0) rfl sl rfl ?_))
  intro W1 hc1 B1 HS1
  refine wpList_alloc_row rfl 75 rfl z8 Z8.out ?_
  intro W2 hc2 B2 HS2
  refine wpList_nil ?_
  have hd2 : Cw W2 w.heap.size sl 75 := hc1.below B2 hc1.lt
  have BB2 : Below w.heap.size w W2 := B1.trans (B2.mono (by rw [HS1.out]; omega))
  rw [HS1.out] at hc2 ⊢
  have HS2' : Hid (W2.heap.size = w.heap.size + 2) := by show _ = _; rw [HS2.out, HS1.out]
  clear hc1 B1 B2 HS1 HS2 W1
  go_wp2_with fail
  refine (rnums W2).mono ?_
  rintro e W3 ⟨rfl, B3⟩
  rw [← HKL.out]
  have hd3 := hd2.below B3 hd2.lt
  have hc3 := hc2.below B3 hc2.lt
  have HSZ3 : Hid (w.heap.size + 2 ≤ W3.heap.size) := by show _ ≤ _; rw [← HS2'.out]; exact B3.size
  have BB3 : Below w.heap.size w W3 := BB2.trans (B3.mono (by rw [HS2'.out]; omega))
  clear hd2 hc2 B3 BB2
  go_wp2_with (first
    | (refine wpList_alloc_row rfl 97 rfl z64 Z64.out ?_; intro W4 hk4 B4 HS4; have hd4 := hd3.below B4 hd3.lt; have hc4 := hc3.below B4 hc3.lt)
    | (refine wpList_store_rw rfl 97 (.tmp 5) (.tmp 7) rfl W3.heap.size z64 kl 97 rfl rfl hk4 HI64 HLk HCk.out ?_; intro W5 hk5 O5))
  simp only [Act.put, List.setIfInBounds_toArray, List.set_cons_zero, List.set_cons_succ]
  have hd5 : Cw W5 w.heap.size sl 75 := O5.cw hd4 (by have := HSZ3.out; omega)
  have hc5 : Cw W5 (w.heap.size + 1) z8 75 := O5.cw hc4 (by have := HSZ3.out; omega)
  have BB5 : Below w.heap.size w W5 := (BB3.trans (B4.mono (by have := HSZ3.out; omega))).trans (O5.below (by have := HSZ3.out; omega))
  rw [HSL.out] at hd5
  obtain ⟨kb, hkb⟩ : ∃ kb, kb = W3.heap.size := ⟨_, rfl⟩
  have HKB : Hid (w.heap.size + 2 ≤ kb) := by rw [hkb]; exact HSZ3
  rw [← hkb] at hk5 ⊢
  clear hkb hd3 hc3 BB3 B4 HS4 hk4 hd4 hc4 O5 HSZ3
  rw [HKL.out] at hk5
  go_loopw [1] (fun bv wx => ∃ k : Nat, k ≤ m ∧ Bs w bv (bs.drop (64 * k)) ∧ Cw wx w.heap.size (cellsW (absorb k s bs).list) 75 ∧ Cw wx kb (cellsW kN) 97 ∧ Cw wx (w.heap.size + 1) z8 75 ∧ Below w.heap.size w wx) (fun bv _ => sliceLen bv)
  case atStart => exact ⟨0, Nat.zero_le _, hb, hd5, hk5, hc5, BB5⟩
  case round =>
    clear hb hd5 hk5 hc5 BB5
    obtain ⟨k, hkm, hbk, hdk, hkk, hck, BBk⟩ := hrel
    have hdl : (bs.drop (64 * k)).length = 64 * (m - k) := by rw [List.length_drop, hl]; omega
    by_cases hlt : k < m
    · obtain ⟨b0, o0, cap, hv, hcap, hcm, hcell⟩ := hbk.form (fun h => by rw [h] at hdl; simp at hdl; omega)
      obtain ⟨len, hlen⟩ : ∃ len, len = (bs.drop (64 * k)).length := ⟨_, rfl⟩
      rw [← hlen] at hv hcap hcell
      have hl64 : 64 ≤ len := by omega
      have hb64 : Bs wr (.slice (some ⟨b0, o0, none⟩) 64 cap) ((bs.drop (64 * k)).take 64) := (Bs.piece (o := 0) (n := 64) (c := cap) hlen.symm hcell (by omega) (by omega) hcm).below BBk (Nat.le_refl _)
      have hbr : Bs w (.slice (some ⟨b0, o0 + 64, none⟩) (len - 64) (cap - 64)) (bs.drop (64 * (k + 1))) := by
        have := Bs.piece (o := 64) (n := len - 64) (c := cap - 64) hlen.symm hcell (by omega) (by omega) (by unfold maxLen at *; omega)
        rw [List.take_of_length_le (by rw [List.length_drop, ← hlen]; exact Nat.le_refl _), List.drop_drop] at this
        exact this
      have HST := hid_into (absorb_step k s bs)
      have OKk := hid_into (absorb_ok k bs hok)
      have HB64 : Hid (((bs.drop (64 * k)).take 64).length = 64) := by show _ = _; rw [List.length_take, ← hlen]; omega
      have HBY := hid_into ((hby.drop (64 * k)).take 64)
      generalize (bs.drop (64 * k)).take 64 = p at *
      generalize absorb k s bs = sk at *
      obtain ⟨sk1, hsk1⟩ : ∃ x, x = absorb (k + 1) s bs := ⟨_, rfl⟩
      have HSK := hid_into hsk1
      replace HST : Hid (sk1 = blockN sk p) := by rw [hsk1]; exact HST
      have HLEN := hid_into hlen
      have HDL := hid_into hdl
      clear hsk1 hlen hdl
      subst hv
      have hcm' := hcm
      unfold maxLen at hcm
      have hl64i : (64 : Int) ≤ (len : Int) := by omega
      have hlc : (len : Int) ≤ (cap : Int) := by omega
      have h64c : 64 ≤ cap := by omega
      clear hcell hbk
      go_wp2_with fail
      refine (stretch_any b0 o0 cap p _ hb64 HB64.out HBY.out h64c hcm').mono ?_
      rintro e W6 ⟨rfl, B6⟩
      have hd6 := hdk.below B6 hdk.lt
      have hk6 := hkk.below B6 hkk.lt
      have hc6 := hck.below B6 hck.lt
      have HZ6 := hid_into (show w.heap.size + 2 ≤ W6.heap.size by have := hk6.lt; have := HKB.out; omega)
      have BB6 : Below w.heap.size w W6 := BBk.trans (B6.mono (by have := hdk.lt; omega))
      have HWl := hid_into (schedN_length p)
      have HWw := hid_into (schedN_wds HBY.out)
      have HLs : Hid (z64.length = (cellsW (schedN p)).length) := by rw [H64.out]; exact hlW (by rw [zeroW_len, schedN_length])
      have HCs := hid_into (cellsW_one (schedN p))
      have HBN : Hid (sk1 = sk.add (roundsN kN (schedN p) 64 sk)) := HST.out
      clear hdk hkk hck BBk B6 hb64 HST HB64 HBY
      generalize schedN p = WS at *
      go_wp2_with (first
        | (refine wpList_alloc_row rfl 97 rfl z64 Z64.out ?_; intro W7 hw7 B7 HS7; have hd7 := hd6.below B7 hd6.lt; have hk7 := hk6.below B7 hk6.lt; have hc7 := hc6.below B7 hc6.lt)
        | (refine wpList_store_rw rfl 97 (.tmp 6) (.tmp 15) rfl W6.heap.size z64 (cellsW WS) 97 rfl rfl hw7 HI64 HLs HCs.out ?_; intro W8 hw8 O8))
      have hd8 : Cw W8 w.heap.size (cellsW sk.list) 75 := O8.cw hd7 (by have := HZ6.out; omega)
      have hk8 : Cw W8 kb (cellsW kN) 97 := O8.cw hk7 (by have := hk6.lt; omega)
      have hc8 : Cw W8 (w.heap.size + 1) z8 75 := O8.cw hc7 (by have := HZ6.out; omega)
      have BB8 : Below w.heap.size w W8 := (BB6.trans (B7.mono (by have := HZ6.out; omega))).trans (O8.below (by have := HZ6.out; omega))
      clear hd6 hk6 hc6 hd7 hk7 hc7 B7 HS7 hw7 O8 BB6
      go_wp2_with fail
      refine (stir_any w.heap.size kb W6.heap.size sk WS 75 W8 hd8 hk8 hw8 OKk.out HWw.out HWl.out).mono ?_
      rintro e W9 ⟨rfl, hd9, O9⟩
      rw [← HBN.out] at hd9
      have hk9 := O9.cw hk8 (by have := HKB.out; omega)
      have hc9 := O9.cw hc8 (by omega)
      have BB9 : Below w.heap.size w W9 := BB8.trans (O9.below (Nat.le_refl _))
      clear hd8 hk8 hc8 O9 BB8 hw8 HBN
      have hin := hid_into (show sliceLen (.slice (some ⟨b0, o0 + 64, none⟩) (len - 64) (cap - 64)) < sliceLen (.slice (some ⟨b0, o0, none⟩) len cap) by simp only [sliceLen]; omega)
      rw [HSK.out] at hd9
      by_cases hc64 : cap = 64
      · have hbr2 : Bs w (.slice (some ⟨b0, o0, none⟩) (len - 64) 0) (bs.drop (64 * (k + 1))) := by
          have h1 := HLEN.out
          have h2 := HDL.out
          refine Or.inl ⟨List.drop_of_length_le (by rw [hl]; omega), _, 0, by rw [show len - 64 = 0 by omega], by unfold maxLen; omega, by intro h; cases h⟩
        have hin2 := hid_into (show sliceLen (.slice (some ⟨b0, o0, none⟩) (len - 64) 0) < sliceLen (.slice (some ⟨b0, o0, none⟩) len cap) by simp only [sliceLen]; omega)
        clear hbr hin
        go_wp2_with fail
        go_roundw
        case rel => exact ⟨k + 1, by omega, hbr2, hd9, hk9, hc9, BB9⟩
        case measure => exact hin2.out
      · go_wp2_with fail
        go_roundw
        case rel => exact ⟨k + 1, by omega, hbr, hd9, hk9, hc9, BB9⟩
        case measure => exact hin.out
    · have hkm : k = m := by omega
      have hdf : Cw wr w.heap.size fl 75 := by rw [HFL.out, ← hkm]; exact hdk
      obtain ⟨ao, cap, hv, _⟩ := hbk.len
      rw [hdl, show m - k = 0 by omega] at hv
      subst hv
      clear hbk hdk hkk hdl
      go_wp2_with (first
        | (refine wpList_load_rw rfl 75 (.tmp 2) rfl w.heap.size fl 75 _ rfl hdf Tryz.underlying75 rfl HIf ?_)
        | (refine wpList_store_rw rfl 75 (.tmp 4) (.tmp 17) rfl (w.heap.size + 1) z8 fl 75 rfl rfl hck HI8 HLf HCf.out ?_; intro WA hcA OA))
      exact ret_row rfl rfl rfl hcA Tryz.underlying75 rfl HIf ⟨rfl, BBk.trans (OA.below (by omega))⟩
end Go.Proofs.YtlknolbfhfcflaaGreat.Dg
end

section
/-
  digest.hash, by contract: the state as a digest.
-/
namespace Go.Proofs.YtlknolbfhfcflaaGreat.Dg
open Go.RowKit
theorem be4_set (A : List Int) (x : Nat) (k : Nat) (hA : A.length = 4 * k) (hk : k < 8) : (((((A ++ zeroB (32 - 4 * k)).set (4 * k) ((x / 16777216 % 256 : Nat) : Int)).set (4 * k + 1) ((x / 65536 % 256 : Nat) : Int)).set (4 * k + 2) ((x / 256 % 256 : Nat) : Int)).set (4 * k + 3) ((x % 256 : Nat) : Int)) = (A ++ be4 x) ++ zeroB (32 - 4 * (k + 1)) := by
  have e : zeroB (32 - 4 * k) = 0 :: 0 :: 0 :: 0 :: zeroB (32 - 4 * (k + 1)) := by
    rw [show 32 - 4 * k = (32 - 4 * (k + 1)) + 4 by omega]; rfl
  rw [e]
  simp only [List.set_append_right _ _ (show A.length ≤ 4 * k by omega), List.set_append_right _ _ (show A.length ≤ 4 * k + 1 by omega), List.set_append_right _ _ (show A.length ≤ 4 * k + 2 by omega), List.set_append_right _ _ (show A.length ≤ 4 * k + 3 by omega)]
  rw [hA, Nat.sub_self, show 4 * k + 1 - 4 * k = 1 by omega, show 4 * k + 2 - 4 * k = 2 by omega, show 4 * k + 3 - 4 * k = 3 by omega, List.append_assoc]
  rfl
def hashK (ws : List Nat) (k : Nat) : List Int := (ws.take k).flatMap be4
theorem hashK_len (ws : List Nat) (k : Nat) (h : k ≤ ws.length) : (hashK ws k).length = 4 * k := by
  induction k with
  | zero => rfl
  | succ k ih =>
    unfold hashK at *
    rw [List.take_succ_eq_append_getElem (by omega), List.flatMap_append, List.length_append, ih (by omega)]
    simp [be4]; omega
theorem hashK_succ (ws : List Nat) (k : Nat) (h : k < ws.length) : hashK ws (k + 1) = hashK ws k ++ be4 (ws.getD k 0) := by
  unfold hashK
  rw [List.take_succ_eq_append_getElem h, List.flatMap_append]
  simp [List.getD, h]
set_option maxRecDepth 20000 in
set_option maxHeartbeats 1600000 in
theorem hash_any (s : S8) (w : World) (hok : s.ok) :
    Calls Tryz.prog 39 #[.agg (cellsW s.list).toArray] w fun e w' => e = .returned (.agg (cellsOf s.hash).toArray) ∧ Below w.heap.size w w' := by
  obtain ⟨ws, hws⟩ : ∃ ws, ws = s.list := ⟨_, rfl⟩
  obtain ⟨fl, hfl⟩ : ∃ fl, fl = cellsOf s.hash := ⟨_, rfl⟩
  obtain ⟨zl, hzl⟩ : ∃ zl, zl = cellsOf (zeroB 32) := ⟨_, rfl⟩
  rw [← hws, ← hfl]
  have HWL : Hid (ws.length = 8) := by rw [hws]; rfl
  have HWW : Hid (Wds ws) := by rw [hws]; exact hok.wds
  have HFL : Hid (fl = cellsOf (hashK ws 8)) := by rw [hfl, hws]; rfl
  have ZL : Hid ((Tryz.prog.info? 30).bind (·.zero) = some (.agg zl.toArray)) := by rw [hzl]; exact Tryz.zero30
  have HIz : Hid ((Tryz.prog.info? 30).map (·.size) = some zl.length) := by rw [hzl]; exact hsB Tryz.size30 (zeroB_len 32)
  have HIf : Hid ((Tryz.prog.info? 30).map (·.size) = some fl.length) := by rw [hfl]; exact hsB Tryz.size30 rfl
  have HLf : Hid (zl.length = fl.length) := by rw [hzl, hfl]; exact hlB rfl
  have HCf : Hid (∀ v ∈ fl, v.oneCell' = true) := by rw [hfl]; exact cellsOf_one _
  have HI8 : Hid ((Tryz.prog.info? 75).map (·.size) = some (cellsW ws).length) := by rw [hws]; exact hsW Tryz.size75 rfl
  have HZL := hid_into hzl
  clear hws hfl hzl
  go_enter Tryz.func39, Tryz.ntmps39
  refine wp_seq (wp_region_lit (wpList_box_row rfl 75 (.tmp 0) rfl (cellsW ws) rfl ?_))
  intro W1 hc1 B1 HS1
  refine wpList_alloc_row rfl 30 rfl zl ZL.out ?_
  intro W2 hc2 B2 HS2
  refine wpList_nil ?_
  have hd2 : Cw W2 w.heap.size (cellsW ws) 75 := hc1.below B2 hc1.lt
  have BB2 : Below w.heap.size w W2 := B1.trans (B2.mono (by rw [HS1.out]; omega))
  rw [HS1.out] at hc2 ⊢
  have HS2' : W2.heap.size = w.heap.size + 2 := by rw [HS2.out, HS1.out]
  clear hc1 B1 B2 HS1 HS2 W1
  refine wp_seq (wp_region_lit (wpList_alloc_row rfl 30 rfl zl ZL.out ?_))
  intro W3 hc3 B3 HS3
  refine wpList_nil ?_
  rw [HS2'] at hc3 B3 ⊢
  have hd3 := hd2.below B3 (by omega)
  have hq3 := hc2.below B3 (by omega)
  have BB3 : Below w.heap.size w W3 := BB2.trans (B3.mono (by omega))
  clear hd2 hc2 BB2 B3 HS3 HS2'
  rw [HZL.out] at hc3
  go_wp2_with (refine wpList_load_rw rfl 75 (.tmp 1) rfl w.heap.size (cellsW ws) 75 _ rfl hd3 Tryz.underlying75 rfl HI8 ?_)
  go_loopw [7] (fun iv wx => ∃ k : Nat, k ≤ 8 ∧ iv = .int .i64 k ∧ Cw wx (w.heap.size + 2) (cellsOf (hashK ws k ++ zeroB (32 - 4 * k))) 30 ∧ Only (w.heap.size + 2) W3 wx) (fun iv _ => 8 - (intOf iv).toNat)
  case atStart => exact ⟨0, Nat.zero_le _, rfl, hc3, Only.refl _ _⟩
  case round =>
    clear hc3
    obtain ⟨k, hk, rfl, hcw, hon⟩ := hrel
    by_cases hk8 : k < 8
    · have hAl := hashK_len ws k (by rw [HWL.out]; omega)
      have hll : (hashK ws k ++ zeroB (32 - 4 * k)).length = 32 := by rw [List.length_append, hAl, zeroB_len]; omega
      have hix := fun W => run_index_w W ws k 8 75 Tryz.underlying75 hk8 HWL.out
      have hxl := HWW.out.get k
      have HSUC := hid_into (hashK_succ ws k (by rw [HWL.out]; exact hk8))
      have HSET := hid_into (be4_set (hashK ws k) (ws.getD k 0) k hAl hk8)
      have c0 := hcw.byte (4 * k) (by rw [hll]; omega)
      have c1 := hcw.byte (4 * k + 1) (by rw [hll]; omega)
      have c2 := hcw.byte (4 * k + 2) (by rw [hll]; omega)
      have c3 := hcw.byte (4 * k + 3) (by rw [hll]; omega)
      have f0 := hcw.frozen (4 * k)
      have f1 := hcw.frozen (4 * k + 1)
      have f2 := hcw.frozen (4 * k + 2)
      have f3 := hcw.frozen (4 * k + 3)
      have i0 : (4 * k : Int) < 32 := by omega
      have i3 : (4 * (k : Int) + 3) < 32 := by omega
      have hcw' := (((hcw.setB (4 * k) ((ws.getD k 0 / 16777216 % 256 : Nat) : Int)).setB (4 * k + 1) ((ws.getD k 0 / 65536 % 256 : Nat) : Int)).setB (4 * k + 2) ((ws.getD k 0 / 256 % 256 : Nat) : Int)).setB (4 * k + 3) ((ws.getD k 0 % 256 : Nat) : Int)
      rw [HSET.out, ← HSUC.out] at hcw'
      have HCW := hid_into hcw'
      have HON := hid_into (fun a b c d => (((hon.trans (Only.set (w.heap.size + 2) (4 * k) wr a)).trans (Only.set (w.heap.size + 2) (4 * k + 1) _ b)).trans (Only.set (w.heap.size + 2) (4 * k + 2) _ c)).trans (Only.set (w.heap.size + 2) (4 * k + 3) _ d))
      generalize ws.getD k 0 = x at *
      clear hcw hon hAl hll HSET HSUC hcw'
      go_wp2_with fail
      go_roundw
      case rel =>
        refine ⟨k + 1, by omega, by go_num, ?_, HON.out _ _ _ _⟩
        have h := HCW.out
        have e0 : ((x / 16777216 % 256 : Nat) : Int) = (x : Int) / 16777216 := by omega
        have e1 : ((x / 65536 % 256 : Nat) : Int) = (x : Int) / 65536 % 256 := by omega
        have e2 : ((x / 256 % 256 : Nat) : Int) = (x : Int) / 256 % 256 := by omega
        have e3 : ((x % 256 : Nat) : Int) = (x : Int) % 256 := by omega
        rw [e0, e1, e2, e3] at h
        exact h
      case measure => simp [intOf]; omega
    · have hcf : Cw wr (w.heap.size + 2) fl 30 := by
        rw [HFL.out]
        have e : hashK ws k ++ zeroB (32 - 4 * k) = hashK ws 8 := by
          obtain rfl : k = 8 := by omega
          simp [zeroB]
        rw [e] at hcw; exact hcw
      have hqf : Cw wr (w.heap.size + 1) zl 30 := hon.cw hq3 (by omega)
      have BBf : Below w.heap.size w wr := BB3.trans (hon.below (by omega))
      clear hcw hq3 hd3
      go_wp2_with (first
        | (refine wpList_load_rw rfl 30 (.tmp 3) rfl (w.heap.size + 2) fl 30 _ rfl hcf Tryz.underlying30 rfl HIf ?_)
        | (refine wpList_store_rw rfl 30 (.tmp 2) (.tmp 38) rfl (w.heap.size + 1) zl fl 30 rfl rfl hqf HIz HLf HCf.out ?_; intro WA hcA OA))
      exact ret_row rfl rfl rfl hcA Tryz.underlying30 rfl HIf ⟨rfl, BBf.trans (OA.below (by omega))⟩
end Go.Proofs.YtlknolbfhfcflaaGreat.Dg
end
