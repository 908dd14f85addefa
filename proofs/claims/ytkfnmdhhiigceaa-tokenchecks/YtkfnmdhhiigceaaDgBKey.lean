/-
  digest.blockKey, Mac, Link and the law's known, by contracts.
-/
import Derived.Test.YtkfnmdhhiigceaaDgConcat
import Derived.Test.YtkfnmdhhiigceaaDgComp
import Derived.Lib.SlBytesConst
namespace Go.Proofs.Ytkfnmdhhiigceaa.Dg
open Go.RowKit
theorem keyN_len (key : List Int) : (keyN key).length = 64 := by
  unfold keyN
  split
  · rw [List.length_append, shaN_length, List.length_replicate]
  · rw [List.length_append, List.length_replicate]; omega
theorem keyN_byt {key : List Int} (h : Byt key) : Byt (keyN key) := by
  have hz : ∀ n, Byt (List.replicate n (0 : Int)) := fun n z hz => by have := (List.mem_replicate.1 hz).2; omega
  unfold keyN
  split
  · exact (shaN_byt key).append (hz _)
  · exact h.append (hz _)
theorem xorL_len (m : Nat) (k : List Int) : (xorL m k).length = k.length := by simp [xorL]
theorem xorL_byt {m : Nat} {k : List Int} (hm : m < 256) (h : Byt k) : Byt (xorL m k) := by
  intro z hz
  obtain ⟨x, hx, rfl⟩ := List.mem_map.1 hz
  have := h x hx
  have : x.toNat ^^^ m < 256 := Nat.xor_lt_two_pow (n := 8) (by omega) hm
  omega
set_option maxRecDepth 20000 in
set_option maxHeartbeats 800000 in
theorem bkey_any (v : Value) (key : List Int) (w : World) (hb : Bs w v key) (hby : Byt key) (hn : key.length ≤ 1000000) :
    Calls Try.prog 27 #[v] w fun e w' => e = .returned (.agg (cellsOf (keyN key)).toArray) ∧ Below w.heap.size w w' := by
  obtain ⟨ao, cap, hv, hsrc⟩ := hb.src
  subst hv
  obtain ⟨fl, hfl⟩ : ∃ fl, fl = cellsOf (keyN key) := ⟨_, rfl⟩
  obtain ⟨zl, hzl⟩ : ∃ zl, zl = cellsOf (zeroB 64) := ⟨_, rfl⟩
  obtain ⟨z32, hz32⟩ : ∃ z32, z32 = cellsOf (zeroB 32) := ⟨_, rfl⟩
  rw [← hfl]
  have ZL : Hid ((Try.prog.info? 58).bind (·.zero) = some (.agg zl.toArray)) := by rw [hzl]; exact Try.zero58
  have HIz : Hid ((Try.prog.info? 58).map (·.size) = some zl.length) := by rw [hzl]; exact hsB Try.size58 (zeroB_len 64)
  have HIf : Hid ((Try.prog.info? 58).map (·.size) = some fl.length) := by rw [hfl]; exact hsB Try.size58 (keyN_len key)
  have HLf : Hid (zl.length = fl.length) := by rw [hzl, hfl]; exact hlB (by rw [zeroB_len, keyN_len])
  have HCf : Hid (∀ v ∈ fl, v.oneCell' = true) := by rw [hfl]; exact cellsOf_one _
  have Z32 : Hid ((Try.prog.info? 48).bind (·.zero) = some (.agg z32.toArray)) := by rw [hz32]; exact Try.zero48
  have HI32 : Hid ((Try.prog.info? 48).map (·.size) = some z32.length) := by rw [hz32]; exact hsB Try.size48 (zeroB_len 32)
  have HZL := hid_into hzl
  have HZL64 : Hid (zl.length = 64) := by show _ = _; rw [hzl, cellsOf_length, zeroB_len]
  have HFL := hid_into hfl
  have HZ32 := hid_into hz32
  have HSRC := hid_into hsrc
  have HBY := hid_into hby
  have HB := hid_into hb
  clear hfl hzl hz32 hsrc hby hb
  go_enter Try.func27, Try.ntmps27
  refine wp_seq (wp_region_lit (wpList_alloc_row rfl 58 rfl zl ZL.out ?_))
  intro W1 hc1 B1 HS1
  refine wpList_nil ?_
  refine wp_seq (wp_region_lit (wpList_alloc_row rfl 58 rfl zl ZL.out ?_))
  intro W2 hc2 B2 HS2
  refine wpList_nil ?_
  have hs1 := HS1.out
  rw [hs1] at hc2 B2 ⊢
  have hq2 : Cw W2 w.heap.size zl 58 := hc1.below B2 (by omega)
  have BB2 : Below w.heap.size w W2 := B1.trans (B2.mono (by omega))
  have HS2' : Hid (W2.heap.size = w.heap.size + 2) := by show _ = _; rw [HS2.out, hs1]
  clear hc1 B1 B2 HS1 HS2 hs1 W1
  by_cases hk : 64 < key.length
  · have hki : (64 : Int) < (key.length : Int) := by omega
    have hb2 : Bs W2 (.slice ao key.length cap) key := HB.out.below BB2 (Nat.le_refl _)
    go_wp2_with fail
    refine (sum_any _ key W2 hb2 HBY.out hn).mono ?_
    rintro e W3 ⟨rfl, B3⟩
    have hl32 := shaN_length key
    have HKN : Hid (fl = cellsOf (shaN key ++ zeroB 32)) := by rw [HFL.out, keyN, if_pos hk]; rfl
    generalize shaN key = sh at *
    have HSH := hid_into hl32
    have HIsh := hsB (ws := sh) Try.size48 hl32
    have HLsh : Hid (z32.length = (cellsOf sh).length) := by rw [HZ32.out]; exact hlB (by rw [zeroB_len, hl32])
    have hc3 := hc2.below B3 hc2.lt
    have hq3 := hq2.below B3 hq2.lt
    have BB3 : Below w.heap.size w W3 := BB2.trans (B3.mono (by have := HS2'.out; omega))
    have HS3 : Hid (w.heap.size + 2 ≤ W3.heap.size) := by show _ ≤ _; have := B3.size; have := HS2'.out; omega
    clear hc2 hq2 B3 hb2 hl32 BB2
    have HSP : Hid (splice zl 0 (cellsOf sh) = fl) := by show _ = _; rw [splice_front, HZL.out, cells_zero_drop, HKN.out, HSH.out]
    clear HFL
    go_wp2_with (first
      | (refine wpList_alloc_row rfl 48 rfl z32 Z32.out ?_; intro W4 hh4 B4 HS4)
      | (refine wpList_store_rw rfl 48 (.tmp 4) (.tmp 9) rfl W3.heap.size z32 (cellsOf sh) 48 rfl rfl hh4 HI32 HLsh (cellsOf_one sh) ?_; intro W5 hh5 O5; have hcq : Cw W5 (w.heap.size + 1) zl 58 := O5.cw (hc3.below B4 hc3.lt) (by have := HS3.out; omega); have hqq : Cw W5 w.heap.size zl 58 := O5.cw (hq3.below B4 hq3.lt) (by have := HS3.out; omega); have BBq : Below w.heap.size w W5 := (BB3.trans (B4.mono (by have := HS3.out; omega))).trans (O5.below (by have := HS3.out; omega)))
      | (refine wpList_copy_splice rfl (.tmp 11) (.tmp 12) 22 22 rfl 5 Try.underlying22 Try.size5 (some ⟨w.heap.size + 1, 0, none⟩) (some ⟨W3.heap.size, 0, none⟩) 64 64 32 32 rfl rfl (w.heap.size + 1) 0 zl 58 hcq (cellsOf sh) (by rw [cellsOf_length, HSH.out]; rfl) (fun _ => ⟨rfl, _, rfl, fun j v hv => by rw [Addr.add_lit, Nat.zero_add, hh5.cell]; exact hv⟩) (by rw [cellsOf_length, HSH.out, HZL64.out]; decide) (cellsOf_one sh) (w.heap.size + 1) W5 (Below.refl _ _) (Nat.le_refl _) ?_; intro W9 HG9 B9; have hc9 : Cw W9 (w.heap.size + 1) fl 58 := (by have h := HG9.out; rw [HSP.out] at h; exact h); have hq9 : Cw W9 w.heap.size zl 58 := hqq.keep (B9.block w.heap.size (by omega)); have BB9 : Below w.heap.size w W9 := BBq.trans (B9.mono (by omega)); clear HG9 B9)
      | (refine wpList_load_rw rfl 58 (.tmp 3) rfl (w.heap.size + 1) fl 58 _ rfl hc9 Try.underlying58 rfl HIf ?_)
      | (refine wpList_store_rw rfl 58 (.tmp 2) (.tmp 14) rfl w.heap.size zl fl 58 rfl rfl hq9 HIz HLf HCf.out ?_; intro WA hcA OA))
    exact ret_row rfl rfl rfl hcA Try.underlying58 rfl HIf ⟨rfl, BB9.trans (OA.below (Nat.le_refl _))⟩
  · have hki : ¬ (64 : Int) < (key.length : Int) := by omega
    have HKN : Hid (fl = cellsOf (key ++ zeroB (64 - key.length))) := by rw [HFL.out, keyN, if_neg hk]; rfl
    have hcq := hc2
    have hqq := hq2
    have BBq := BB2
    have HSP : Hid (splice zl 0 (cellsOf key) = fl) := by show _ = _; rw [splice_front, HZL.out, cells_zero_drop, HKN.out]
    have HPOS : Hid (0 < (cellsOf key).length → ∃ ad, ao = some ad ∧ ∀ j v, (cellsOf key)[j]? = some v → W2.cell? (ad.add j) = some v) := fun hp => by
      obtain ⟨ad, h1, h2⟩ := HSRC.out (by rw [← cellsOf_length]; exact hp)
      exact ⟨ad, h1, fun j v hv => by have h3 := h2 j v hv; exact (BB2.cell (World.block_lt_of_cell? w _ h3)).trans h3⟩
    clear HFL hc2 hq2
    go_wp2_with (first
      | (refine wpList_copy_splice rfl (.tmp 11) (.tmp 12) 22 22 rfl 5 Try.underlying22 Try.size5 (some ⟨w.heap.size + 1, 0, none⟩) ao 64 64 key.length cap rfl rfl (w.heap.size + 1) 0 zl 58 hcq (cellsOf key) (by rw [cellsOf_length]; exact (Nat.min_eq_left (by omega)).symm) (fun hp => ⟨rfl, HPOS.out hp⟩) (by rw [cellsOf_length, HZL64.out]; omega) (cellsOf_one key) (w.heap.size + 1) W2 (Below.refl _ _) (Nat.le_refl _) ?_; intro W9 HG9 B9; have hc9 : Cw W9 (w.heap.size + 1) fl 58 := (by have h := HG9.out; rw [HSP.out] at h; exact h); have hq9 : Cw W9 w.heap.size zl 58 := hqq.keep (B9.block w.heap.size (by omega)); have BB9 : Below w.heap.size w W9 := BBq.trans (B9.mono (by omega)); clear HG9 B9)
      | (refine wpList_load_rw rfl 58 (.tmp 3) rfl (w.heap.size + 1) fl 58 _ rfl hc9 Try.underlying58 rfl HIf ?_)
      | (refine wpList_store_rw rfl 58 (.tmp 2) (.tmp 14) rfl w.heap.size zl fl 58 rfl rfl hq9 HIz HLf HCf.out ?_; intro WA hcA OA))
    exact ret_row rfl rfl rfl hcA Try.underlying58 rfl HIf ⟨rfl, BB9.trans (OA.below (Nat.le_refl _))⟩
end Go.Proofs.Ytkfnmdhhiigceaa.Dg
