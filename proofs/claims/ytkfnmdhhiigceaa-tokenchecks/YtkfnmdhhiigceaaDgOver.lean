/-
  digest.over, by contract: the state behind whole blocks.
-/
import Derived.Test.YtkfnmdhhiigceaaDgStir
namespace Go.Proofs.Ytkfnmdhhiigceaa.Dg
open Go.RowKit
/-- A piece of bytes. -/
theorem Bs.form {w : World} {v : Value} {zs : List Int} (h : Bs w v zs) (hz : zs ≠ []) : ∃ b off cap, v = .slice (some ⟨b, off, none⟩) zs.length cap ∧ zs.length ≤ cap ∧ cap ≤ maxLen ∧ ∀ i, i < zs.length → w.cell? ⟨b, off + i, none⟩ = some (.int .u8 (zs.getD i 0)) := by
  rcases h with ⟨h0, _⟩ | ⟨_, b, off, cap, hv, h1, h2, h3⟩
  · exact absurd h0 hz
  · exact ⟨b, off, cap, hv, h1, h2, h3⟩
theorem Bs.piece {w : World} {b off len : Nat} {zs : List Int} (hl : zs.length = len) (hc : ∀ i, i < len → w.cell? ⟨b, off + i, none⟩ = some (.int .u8 (zs.getD i 0))) (o n c : Nat) (ho : o + n ≤ len) (hn : n ≤ c) (hm : c ≤ maxLen) :
    Bs w (.slice (some ⟨b, off + o, none⟩) n c) ((zs.drop o).take n) := by
  have hln : ((zs.drop o).take n).length = n := by rw [List.length_take, List.length_drop]; omega
  by_cases h0 : n = 0
  · subst h0
    exact Or.inl ⟨by simp, _, c, rfl, hm, by intro h; cases h⟩
  · refine Or.inr ⟨fun h => h0 (by rw [← hln, h]; rfl), b, off + o, c, by rw [hln], by omega, hm, fun i hi => ?_⟩
    rw [hln] at hi
    have := hc (o + i) (by omega)
    rw [← Nat.add_assoc] at this
    rw [this]
    simp [List.getD, hi]
def sliceLen : Value → Nat
  | .slice _ n _ => n
  | _ => 0
theorem absorb_step (k : Nat) (s : S8) (bs : List Int) : absorb (k + 1) s bs = blockN (absorb k s bs) ((bs.drop (64 * k)).take 64) := rfl
set_option maxRecDepth 20000 in
set_option maxHeartbeats 1600000 in
theorem over_any (s : S8) (v : Value) (bs : List Int) (m : Nat) (w : World) (hb : Bs w v bs) (hok : s.ok) (hby : Byt bs) (hl : bs.length = 64 * m) :
    Calls Try.prog 34 #[.agg (cellsW s.list).toArray, v] w fun e w' => e = .returned (.agg (cellsW (absorb m s bs).list).toArray) ∧ Below w.heap.size w w' := by
  obtain ⟨sl, hsl⟩ : ∃ sl, sl = cellsW s.list := ⟨_, rfl⟩
  obtain ⟨fl, hfl⟩ : ∃ fl, fl = cellsW (absorb m s bs).list := ⟨_, rfl⟩
  obtain ⟨kl, hkl⟩ : ∃ kl, kl = cellsW kN := ⟨_, rfl⟩
  obtain ⟨z8, hz8⟩ : ∃ z8, z8 = cellsW (zeroW 8) := ⟨_, rfl⟩
  obtain ⟨z64, hz64⟩ : ∃ z64, z64 = cellsW (zeroW 64) := ⟨_, rfl⟩
  rw [← hsl, ← hfl]
  have Z8 : Hid ((Try.prog.info? 66).bind (·.zero) = some (.agg z8.toArray)) := by rw [hz8]; exact Try.zero66
  have Z64 : Hid ((Try.prog.info? 76).bind (·.zero) = some (.agg z64.toArray)) := by rw [hz64]; exact Try.zero76
  have HI8 : Hid ((Try.prog.info? 66).map (·.size) = some z8.length) := by rw [hz8]; exact hsW Try.size66 (zeroW_len 8)
  have HI64 : Hid ((Try.prog.info? 76).map (·.size) = some z64.length) := by rw [hz64]; exact hsW Try.size76 (zeroW_len 64)
  have HIf : Hid ((Try.prog.info? 66).map (·.size) = some fl.length) := by rw [hfl]; exact hsW Try.size66 rfl
  have HLf : Hid (z8.length = fl.length) := by rw [hz8, hfl]; exact hlW rfl
  have HLk : Hid (z64.length = kl.length) := by rw [hz64, hkl]; exact hlW rfl
  have HCf : Hid (∀ v ∈ fl, v.oneCell' = true) := by rw [hfl]; exact cellsW_one _
  have HCk : Hid (∀ v ∈ kl, v.oneCell' = true) := by rw [hkl]; exact cellsW_one _
  have HSL := hid_into hsl
  have HFL := hid_into hfl
  have HKL := hid_into hkl
  have H64 := hid_into hz64
  clear hsl hfl hkl hz8 hz64
  go_enter Try.func34, Try.ntmps34
  refine wp_seq (wp_region_lit (wpList_box_row rfl 66 (.tmp 0) rfl sl rfl ?_))
  intro W1 hc1 B1 HS1
  refine wpList_alloc_row rfl 66 rfl z8 Z8.out ?_
  intro W2 hc2 B2 HS2
  refine wpList_nil ?_
  have hd2 : Cw W2 w.heap.size sl 66 := hc1.below B2 hc1.lt
  have BB2 : Below w.heap.size w W2 := B1.trans (B2.mono (by rw [HS1.out]; omega))
  rw [HS1.out] at hc2 ⊢
  have HS2' : Hid (W2.heap.size = w.heap.size + 2) := by show _ = _; rw [HS2.out, HS1.out]
  clear hc1 B1 B2 HS1 HS2 W1
  go_wp2_with fail
  refine (rnums W2).mono ?_
  rintro e W3 ⟨rfl, B3⟩
  rw [← HKL.out]
  have hd3 := hd2.below B3 hd2.lt
  have hc3 := hc2.below B3 hc2.lt
  have HSZ3 : Hid (w.heap.size + 2 ≤ W3.heap.size) := by show _ ≤ _; rw [← HS2'.out]; exact B3.size
  have BB3 : Below w.heap.size w W3 := BB2.trans (B3.mono (by rw [HS2'.out]; omega))
  clear hd2 hc2 B3 BB2
  go_wp2_with (first
    | (refine wpList_alloc_row rfl 76 rfl z64 Z64.out ?_; intro W4 hk4 B4 HS4; have hd4 := hd3.below B4 hd3.lt; have hc4 := hc3.below B4 hc3.lt)
    | (refine wpList_store_rw rfl 76 (.tmp 5) (.tmp 7) rfl W3.heap.size z64 kl 76 rfl rfl hk4 HI64 HLk HCk.out ?_; intro W5 hk5 O5))
  simp only [Act.put, List.setIfInBounds_toArray, List.set_cons_zero, List.set_cons_succ]
  have hd5 : Cw W5 w.heap.size sl 66 := O5.cw hd4 (by have := HSZ3.out; omega)
  have hc5 : Cw W5 (w.heap.size + 1) z8 66 := O5.cw hc4 (by have := HSZ3.out; omega)
  have BB5 : Below w.heap.size w W5 := (BB3.trans (B4.mono (by have := HSZ3.out; omega))).trans (O5.below (by have := HSZ3.out; omega))
  rw [HSL.out] at hd5
  obtain ⟨kb, hkb⟩ : ∃ kb, kb = W3.heap.size := ⟨_, rfl⟩
  have HKB : Hid (w.heap.size + 2 ≤ kb) := by rw [hkb]; exact HSZ3
  rw [← hkb] at hk5 ⊢
  clear hkb hd3 hc3 BB3 B4 HS4 hk4 hd4 hc4 O5 HSZ3
  rw [HKL.out] at hk5
  go_loopw [1] (fun bv wx => ∃ k : Nat, k ≤ m ∧ Bs w bv (bs.drop (64 * k)) ∧ Cw wx w.heap.size (cellsW (absorb k s bs).list) 66 ∧ Cw wx kb (cellsW kN) 76 ∧ Cw wx (w.heap.size + 1) z8 66 ∧ Below w.heap.size w wx) (fun bv _ => sliceLen bv)
  case atStart => exact ⟨0, Nat.zero_le _, hb, hd5, hk5, hc5, BB5⟩
  case round =>
    clear hb hd5 hk5 hc5 BB5
    obtain ⟨k, hkm, hbk, hdk, hkk, hck, BBk⟩ := hrel
    have hdl : (bs.drop (64 * k)).length = 64 * (m - k) := by rw [List.length_drop, hl]; omega
    by_cases hlt : k < m
    · obtain ⟨b0, o0, cap, hv, hcap, hcm, hcell⟩ := hbk.form (fun h => by rw [h] at hdl; simp at hdl; omega)
      obtain ⟨len, hlen⟩ : ∃ len, len = (bs.drop (64 * k)).length := ⟨_, rfl⟩
      rw [← hlen] at hv hcap hcell
      have hl64 : 64 ≤ len := by omega
      have hb64 : Bs wr (.slice (some ⟨b0, o0, none⟩) 64 cap) ((bs.drop (64 * k)).take 64) := (Bs.piece (o := 0) (n := 64) (c := cap) hlen.symm hcell (by omega) (by omega) hcm).below BBk (Nat.le_refl _)
      have hbr : Bs w (.slice (some ⟨b0, o0 + 64, none⟩) (len - 64) (cap - 64)) (bs.drop (64 * (k + 1))) := by
        have := Bs.piece (o := 64) (n := len - 64) (c := cap - 64) hlen.symm hcell (by omega) (by omega) (by unfold maxLen at *; omega)
        rw [List.take_of_length_le (by rw [List.length_drop, ← hlen]; exact Nat.le_refl _), List.drop_drop] at this
        exact this
      have HST := hid_into (absorb_step k s bs)
      have OKk := hid_into (absorb_ok k bs hok)
      have HB64 : Hid (((bs.drop (64 * k)).take 64).length = 64) := by show _ = _; rw [List.length_take, ← hlen]; omega
      have HBY := hid_into ((hby.drop (64 * k)).take 64)
      generalize (bs.drop (64 * k)).take 64 = p at *
      generalize absorb k s bs = sk at *
      obtain ⟨sk1, hsk1⟩ : ∃ x, x = absorb (k + 1) s bs := ⟨_, rfl⟩
      have HSK := hid_into hsk1
      replace HST : Hid (sk1 = blockN sk p) := by rw [hsk1]; exact HST
      have HLEN := hid_into hlen
      have HDL := hid_into hdl
      clear hsk1 hlen hdl
      subst hv
      have hcm' := hcm
      unfold maxLen at hcm
      have hl64i : (64 : Int) ≤ (len : Int) := by omega
      have hlc : (len : Int) ≤ (cap : Int) := by omega
      have h64c : 64 ≤ cap := by omega
      clear hcell hbk
      go_wp2_with fail
      refine (stretch_any b0 o0 cap p _ hb64 HB64.out HBY.out h64c hcm').mono ?_
      rintro e W6 ⟨rfl, B6⟩
      have hd6 := hdk.below B6 hdk.lt
      have hk6 := hkk.below B6 hkk.lt
      have hc6 := hck.below B6 hck.lt
      have HZ6 := hid_into (show w.heap.size + 2 ≤ W6.heap.size by have := hk6.lt; have := HKB.out; omega)
      have BB6 : Below w.heap.size w W6 := BBk.trans (B6.mono (by have := hdk.lt; omega))
      have HWl := hid_into (schedN_length p)
      have HWw := hid_into (schedN_wds HBY.out)
      have HLs : Hid (z64.length = (cellsW (schedN p)).length) := by rw [H64.out]; exact hlW (by rw [zeroW_len, schedN_length])
      have HCs := hid_into (cellsW_one (schedN p))
      have HBN : Hid (sk1 = sk.add (roundsN kN (schedN p) 64 sk)) := HST.out
      clear hdk hkk hck BBk B6 hb64 HST HB64 HBY
      generalize schedN p = WS at *
      go_wp2_with (first
        | (refine wpList_alloc_row rfl 76 rfl z64 Z64.out ?_; intro W7 hw7 B7 HS7; have hd7 := hd6.below B7 hd6.lt; have hk7 := hk6.below B7 hk6.lt; have hc7 := hc6.below B7 hc6.lt)
        | (refine wpList_store_rw rfl 76 (.tmp 6) (.tmp 15) rfl W6.heap.size z64 (cellsW WS) 76 rfl rfl hw7 HI64 HLs HCs.out ?_; intro W8 hw8 O8))
      have hd8 : Cw W8 w.heap.size (cellsW sk.list) 66 := O8.cw hd7 (by have := HZ6.out; omega)
      have hk8 : Cw W8 kb (cellsW kN) 76 := O8.cw hk7 (by have := hk6.lt; omega)
      have hc8 : Cw W8 (w.heap.size + 1) z8 66 := O8.cw hc7 (by have := HZ6.out; omega)
      have BB8 : Below w.heap.size w W8 := (BB6.trans (B7.mono (by have := HZ6.out; omega))).trans (O8.below (by have := HZ6.out; omega))
      clear hd6 hk6 hc6 hd7 hk7 hc7 B7 HS7 hw7 O8 BB6
      go_wp2_with fail
      refine (stir_any w.heap.size kb W6.heap.size sk WS 66 W8 hd8 hk8 hw8 OKk.out HWw.out HWl.out).mono ?_
      rintro e W9 ⟨rfl, hd9, O9⟩
      rw [← HBN.out] at hd9
      have hk9 := O9.cw hk8 (by have := HKB.out; omega)
      have hc9 := O9.cw hc8 (by omega)
      have BB9 : Below w.heap.size w W9 := BB8.trans (O9.below (Nat.le_refl _))
      clear hd8 hk8 hc8 O9 BB8 hw8 HBN
      have hin := hid_into (show sliceLen (.slice (some ⟨b0, o0 + 64, none⟩) (len - 64) (cap - 64)) < sliceLen (.slice (some ⟨b0, o0, none⟩) len cap) by simp only [sliceLen]; omega)
      rw [HSK.out] at hd9
      by_cases hc64 : cap = 64
      · have hbr2 : Bs w (.slice (some ⟨b0, o0, none⟩) (len - 64) 0) (bs.drop (64 * (k + 1))) := by
          have h1 := HLEN.out
          have h2 := HDL.out
          refine Or.inl ⟨List.drop_of_length_le (by rw [hl]; omega), _, 0, by rw [show len - 64 = 0 by omega], by unfold maxLen; omega, by intro h; cases h⟩
        have hin2 := hid_into (show sliceLen (.slice (some ⟨b0, o0, none⟩) (len - 64) 0) < sliceLen (.slice (some ⟨b0, o0, none⟩) len cap) by simp only [sliceLen]; omega)
        clear hbr hin
        go_wp2_with fail
        go_roundw
        case rel => exact ⟨k + 1, by omega, hbr2, hd9, hk9, hc9, BB9⟩
        case measure => exact hin2.out
      · go_wp2_with fail
        go_roundw
        case rel => exact ⟨k + 1, by omega, hbr, hd9, hk9, hc9, BB9⟩
        case measure => exact hin.out
    · have hkm : k = m := by omega
      have hdf : Cw wr w.heap.size fl 66 := by rw [HFL.out, ← hkm]; exact hdk
      obtain ⟨ao, cap, hv, _⟩ := hbk.len
      rw [hdl, show m - k = 0 by omega] at hv
      subst hv
      clear hbk hdk hkk hdl
      go_wp2_with (first
        | (refine wpList_load_rw rfl 66 (.tmp 2) rfl w.heap.size fl 66 _ rfl hdf Try.underlying66 rfl HIf ?_)
        | (refine wpList_store_rw rfl 66 (.tmp 4) (.tmp 17) rfl (w.heap.size + 1) z8 fl 66 rfl rfl hck HI8 HLf HCf.out ?_; intro WA hcA OA))
      exact ret_row rfl rfl rfl hcA Try.underlying66 rfl HIf ⟨rfl, BBk.trans (OA.below (by omega))⟩
end Go.Proofs.Ytkfnmdhhiigceaa.Dg
