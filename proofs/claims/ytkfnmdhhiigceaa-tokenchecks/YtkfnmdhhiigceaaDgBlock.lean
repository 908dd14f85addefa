/-
  The document's own block, by contract: sixty-four bytes into the state.
-/
import Derived.Test.YtkfnmdhhiigceaaDgOver
import Derived.StillTailTactics
import Derived.BigRegion
namespace Go.Proofs.Ytkfnmdhhiigceaa.Dg
open Go.RowKit
theorem sg0_val (x : Nat) (hx : x < 4294967296) : bits .xor .u32 (bits .xor .u32 ((rotr x 7 : Nat) : Int) ((rotr x 18 : Nat) : Int)) ((x : Int) / 8) = ((sg0 x : Nat) : Int) := by
  rw [u32_xor_nat _ _ (rotr_lt 7 hx) (rotr_lt 18 hx)]
  exact u32_xor_nat _ (x / 8) (xor32 (rotr_lt 7 hx) (rotr_lt 18 hx)) (by omega)
theorem sg1_val (x : Nat) (hx : x < 4294967296) : bits .xor .u32 (bits .xor .u32 ((rotr x 17 : Nat) : Int) ((rotr x 19 : Nat) : Int)) ((x : Int) / 1024) = ((sg1 x : Nat) : Int) := by
  rw [u32_xor_nat _ _ (rotr_lt 17 hx) (rotr_lt 19 hx)]
  exact u32_xor_nat _ (x / 1024) (xor32 (rotr_lt 17 hx) (rotr_lt 19 hx)) (by omega)
theorem big1_val (x : Nat) (hx : x < 4294967296) : bits .xor .u32 (bits .xor .u32 ((rotr x 6 : Nat) : Int) ((rotr x 11 : Nat) : Int)) ((rotr x 25 : Nat) : Int) = ((big1 x : Nat) : Int) := by
  rw [u32_xor_nat _ _ (rotr_lt 6 hx) (rotr_lt 11 hx)]
  exact u32_xor_nat _ _ (xor32 (rotr_lt 6 hx) (rotr_lt 11 hx)) (rotr_lt 25 hx)
theorem big0_val (x : Nat) (hx : x < 4294967296) : bits .xor .u32 (bits .xor .u32 ((rotr x 2 : Nat) : Int) ((rotr x 13 : Nat) : Int)) ((rotr x 22 : Nat) : Int) = ((big0 x : Nat) : Int) := by
  rw [u32_xor_nat _ _ (rotr_lt 2 hx) (rotr_lt 13 hx)]
  exact u32_xor_nat _ _ (xor32 (rotr_lt 2 hx) (rotr_lt 13 hx)) (rotr_lt 22 hx)
theorem cw_list {w : World} {g : Nat} {cs ds : List Value} {t : TypeId} (h : Cw w g cs t) (e : cs = ds) : Cw w g ds t := e ▸ h
theorem list_len (s : S8) : s.list.length = 8 := rfl
theorem Cw.drew {w : World} {g : Nat} {cs : List Value} {t : TypeId} (h : Cw w g cs t) : Cw w.drew g cs t := h
theorem cw_w {w : World} {b i : Nat} {x y : Int} {cs : List Value} {t : TypeId} (h : Cw (w.setCell ⟨b, i, none⟩ (.int .u32 x)) b cs t) (e : x = y) : Cw (w.setCell ⟨b, i, none⟩ (.int .u32 y)) b cs t := e ▸ h
set_option maxRecDepth 20000 in
set_option maxRecDepth 20000 in
set_option maxHeartbeats 4000000 in
theorem block_any (s : S8) (b0 o0 cap kb : Nat) (bs : List Int) (w : World) (hb : Bs w (.slice (some ⟨b0, o0, none⟩) 64 cap) bs) (hl : bs.length = 64) (hby : Byt bs) (hok : s.ok) (hk : Cw w kb (cellsW kN) 71) :
    Calls Try.prog 39 #[.agg (cellsW s.list).toArray, .slice (some ⟨b0, o0, none⟩) 64 cap, .pointer (some ⟨kb, 0, none⟩)] w fun e w' => e = .returned (.agg (cellsW (blockN s bs).list).toArray) ∧ Below w.heap.size w w' := by
  have hcell : ∀ i, i < 64 → w.cell? ⟨b0, o0 + i, none⟩ = some (.int .u8 (bs.getD i 0)) := by
    obtain ⟨b1, o1, d1, he1, _, _, hc⟩ := hb.form (fun h => by rw [h] at hl; cases hl)
    simp only [Value.slice.injEq, Option.some.injEq, Addr.mk.injEq] at he1
    obtain ⟨⟨rfl, rfl, _⟩, _, rfl⟩ := he1
    exact fun i hi => hc i (by omega)
  have hlt : b0 < w.heap.size := World.block_lt_of_cell? w _ (hcell 0 (by omega))
  have hltk := hk.lt
  have HB := hid_into hcell
  have HBY := hid_into hby
  have HK := hid_into hk
  clear hcell hb hl hby hk
  obtain ⟨sl, hsl⟩ : ∃ sl, sl = cellsW s.list := ⟨_, rfl⟩
  obtain ⟨fl, hfl⟩ : ∃ fl, fl = cellsW (blockN s bs).list := ⟨_, rfl⟩
  obtain ⟨z8, hz8⟩ : ∃ z8, z8 = cellsW (zeroW 8) := ⟨_, rfl⟩
  obtain ⟨z64, hz64⟩ : ∃ z64, z64 = cellsW (zeroW 64) := ⟨_, rfl⟩
  rw [← hsl, ← hfl]
  have Z8 : Hid ((Try.prog.info? 65).bind (·.zero) = some (.agg z8.toArray)) := by rw [hz8]; exact Try.zero65
  have Z64 : Hid ((Try.prog.info? 71).bind (·.zero) = some (.agg z64.toArray)) := by rw [hz64]; exact Try.zero71
  have HI8 : Hid ((Try.prog.info? 65).map (·.size) = some z8.length) := by rw [hz8]; exact hsW Try.size65 (zeroW_len 8)
  have HIs : Hid ((Try.prog.info? 65).map (·.size) = some sl.length) := by rw [hsl]; exact hsW Try.size65 (list_len _)
  have HIf : Hid ((Try.prog.info? 65).map (·.size) = some fl.length) := by rw [hfl]; exact hsW Try.size65 (list_len _)
  have HLf : Hid (z8.length = fl.length) := by rw [hz8, hfl]; exact hlW (list_len _).symm
  have HLs : Hid (z8.length = sl.length) := by rw [hz8, hsl]; exact hlW (list_len _).symm
  have HCs : Hid (∀ v ∈ sl, v.oneCell' = true) := by rw [hsl]; exact cellsW_one _
  have HCf : Hid (∀ v ∈ fl, v.oneCell' = true) := by rw [hfl]; exact cellsW_one _
  have HSL := hid_into hsl
  have HFL := hid_into hfl
  have H64 := hid_into hz64
  have OKS := hid_into hok
  clear hsl hfl hz8 hz64 hok
  go_enter Try.func39, Try.ntmps39
  refine wp_seq (wp_region_lit (wpList_box_row rfl 65 (.tmp 0) rfl sl rfl ?_))
  intro W1 hc1 B1 HS1
  refine wpList_alloc_row rfl 65 rfl z8 Z8.out ?_
  intro W2 hc2 B2 HS2
  refine wpList_nil ?_
  rw [HS1.out] at hc2 B2 ⊢
  have hs2 : Cw W2 w.heap.size sl 65 := hc1.below B2 (by omega)
  have BB2 : Below w.heap.size w W2 := B1.trans (B2.mono (by omega))
  have HS2' : W2.heap.size = w.heap.size + 2 := by rw [HS2.out, HS1.out]
  clear hc1 B1 B2 HS1 HS2 W1
  refine wp_seq (wp_region_lit (wpList_alloc_row rfl 71 rfl z64 Z64.out ?_))
  intro W3 hc3 B3 HS3
  refine wpList_nil ?_
  rw [HS2'] at hc3 B3 HS3 ⊢
  have hs3 : Cw W3 w.heap.size sl 65 := hs2.below B3 (by omega)
  have hq3 : Cw W3 (w.heap.size + 1) z8 65 := hc2.below B3 (by omega)
  have BB3 : Below w.heap.size w W3 := BB2.trans (B3.mono (by omega))
  clear hs2 hc2 BB2 B3 HS2'
  rw [H64.out] at hc3
  go_wp2_with fail
  go_loopw [8] (fun iv wx => ∃ k : Nat, k ≤ 16 ∧ iv = .int .i64 k ∧ Cw wx (w.heap.size + 2) (cellsW (wordsN bs k ++ zeroW (64 - k))) 71 ∧ Only (w.heap.size + 2) W3 wx) (fun iv _ => 16 - (intOf iv).toNat)
  case atStart => exact ⟨0, Nat.zero_le _, rfl, hc3, Only.refl _ _⟩
  case round =>
    clear hc3
    obtain ⟨k, hk, rfl, hcw, hon⟩ := hrel
    by_cases hlt16 : k < 16
    · have hwl : (wordsN bs k ++ zeroW (64 - k)).length = 64 := by rw [List.length_append, wordsN_length, zeroW_len]; omega
      have cellk : ∀ j, j < 64 → wr.cell? ⟨b0, o0 + j, none⟩ = some (.int .u8 (bs.getD j 0)) := fun j hj => by
        rw [World.cell?_of_block (w := w) ((hon.block b0 (by omega)).trans (BB3.block b0 hlt))]; exact HB.out j hj
      have hx0 := cellk (4 * k) (by omega)
      have hx1 := cellk (4 * k + 1) (by omega)
      have hx2 := cellk (4 * k + 2) (by omega)
      have hx3 := cellk (4 * k + 3) (by omega)
      have HS : Hid ((wordsN bs k ++ zeroW (64 - k)).set k (beW (bs.getD (4 * k) 0) (bs.getD (4 * k + 1) 0) (bs.getD (4 * k + 2) 0) (bs.getD (4 * k + 3) 0)) = wordsN bs (k + 1) ++ zeroW (64 - (k + 1))) := set_words bs k (by omega) _
      have r0 := HBY.out.get (4 * k)
      have r1 := HBY.out.get (4 * k + 1)
      have r2 := HBY.out.get (4 * k + 2)
      have r3 := HBY.out.get (4 * k + 3)
      clear cellk
      generalize bs.getD (4 * k) 0 = x0 at *
      generalize bs.getD (4 * k + 1) 0 = x1 at *
      generalize bs.getD (4 * k + 2) 0 = x2 at *
      generalize bs.getD (4 * k + 3) 0 = x3 at *
      obtain ⟨y0, rfl⟩ := Int.eq_ofNat_of_zero_le r0.1
      obtain ⟨y1, rfl⟩ := Int.eq_ofNat_of_zero_le r1.1
      obtain ⟨y2, rfl⟩ := Int.eq_ofNat_of_zero_le r2.1
      obtain ⟨y3, rfl⟩ := Int.eq_ofNat_of_zero_le r3.1
      have q0 : IntKind.u32.wrap (y0 : Int) = y0 := by rw [IntKind.wrap_u32']; omega
      have q1 : IntKind.u32.wrap (y1 : Int) = y1 := by rw [IntKind.wrap_u32']; omega
      have q2 : IntKind.u32.wrap (y2 : Int) = y2 := by rw [IntKind.wrap_u32']; omega
      have q3 : IntKind.u32.wrap (y3 : Int) = y3 := by rw [IntKind.wrap_u32']; omega
      have p0 : IntKind.u32.wrap ((y0 : Int) * 16777216) = y0 * 16777216 := by rw [IntKind.wrap_u32']; omega
      have p1 : IntKind.u32.wrap ((y1 : Int) * 65536) = y1 * 65536 := by rw [IntKind.wrap_u32']; omega
      have p2 : IntKind.u32.wrap ((y2 : Int) * 256) = y2 * 256 := by rw [IntKind.wrap_u32']; omega
      have hck := hcw.word k (by rw [hwl]; omega)
      have hfk := hcw.frozen k
      have hk64 : (k : Int) < 64 := by omega
      obtain ⟨j0, h0⟩ : ∃ j, j = 4 * k := ⟨_, rfl⟩
      obtain ⟨j1, h1⟩ : ∃ j, j = 4 * k + 1 := ⟨_, rfl⟩
      obtain ⟨j2, h2⟩ : ∃ j, j = 4 * k + 2 := ⟨_, rfl⟩
      obtain ⟨j3, h3⟩ : ∃ j, j = 4 * k + 3 := ⟨_, rfl⟩
      rw [← h0] at hx0
      rw [← h1] at hx1
      rw [← h2] at hx2
      rw [← h3] at hx3
      have u0 : IntKind.i64.wrap (4 * (k : Int)) = (j0 : Int) := by rw [wrap64_small _ (by omega) (by omega)]; omega
      have u1 : IntKind.i64.wrap ((j0 : Int) + 1) = (j1 : Int) := by rw [wrap64_small _ (by omega) (by omega)]; omega
      have u2 : IntKind.i64.wrap ((j0 : Int) + 2) = (j2 : Int) := by rw [wrap64_small _ (by omega) (by omega)]; omega
      have u3 : IntKind.i64.wrap ((j0 : Int) + 3) = (j3 : Int) := by rw [wrap64_small _ (by omega) (by omega)]; omega
      have v0 : (j0 : Int) < 64 := by omega
      have v1 : (j1 : Int) < 64 := by omega
      have v2 : (j2 : Int) < 64 := by omega
      have v3 : (j3 : Int) < 64 := by omega
      have HV := be_or y0 y1 y2 y3 (by omega) (by omega) (by omega) (by omega)
      have hcw2 := hcw.setW k (beW y0 y1 y2 y3)
      rw [HS.out, ← HV] at hcw2
      have hon2 := hon.trans (Only.set (w.heap.size + 2) k wr (.int .u32 (beW y0 y1 y2 y3 : Nat)))
      rw [← HV] at hon2
      replace hcw2 := hid_into hcw2
      replace hon2 := hid_into hon2
      have hne : b0 ≠ w.heap.size + 2 := by omega
      have HNE := hid_into hne
      clear HV HS hcw hon h0 h1 h2 h3 hne hwl
      go_wp2_with fail
      refine wp_region_still_tail 35 (by kernel_rfl) (by kernel_rfl) ?_
      change wpStill _ _ (World.drew _) _ _ _
      simp only [List.take_succ_cons, List.take_zero, List.drop_succ_cons, List.drop_zero]
      repeat still_step
      refine wpStill_nil ?_
      go_wp2_with fail
      go_roundw
      case rel => exact ⟨k + 1, by omega, by go_num, hcw2.out, hon2.out.drew⟩
      case measure => simp [intOf]; omega
    · have hcw0 : Cw wr (w.heap.size + 2) (cellsW (growW (wordsN bs 16) 0 ++ zeroW (48 - 0))) 71 := by
        obtain rfl : k = 16 := by omega
        exact hcw
      have hw16 := wordsN_wds HBY.out 16
      have hl16 := wordsN_length bs 16
      obtain ⟨WS, hWS⟩ : ∃ WS, WS = wordsN bs 16 := ⟨_, rfl⟩
      rw [← hWS] at hcw0 hw16 hl16
      have HWS := hid_into hWS
      clear hWS hcw
      go_wp2_with fail
      go_loopw [9] (fun iv wx => ∃ n i : Nat, n ≤ 48 ∧ Hid (i = n + 16) ∧ iv = .int .i64 (i : Int) ∧ Cw wx (w.heap.size + 2) (cellsW (growW WS n ++ zeroW (48 - n))) 71 ∧ Only (w.heap.size + 2) W3 wx) (fun iv _ => 64 - (intOf iv).toNat)
      case atStart => exact ⟨0, 16, Nat.zero_le _, rfl, rfl, hcw0, hon⟩
      case round =>
        clear hcw0 hon
        obtain ⟨n, i, hn, HI2, rfl, hcw, hon⟩ := hrel
        by_cases hn48 : n < 48
        · have hgl := growW_length WS n
          have hgw := growW_wds hw16 n
          have hwl : (growW WS n ++ zeroW (48 - n)).length = 64 := by rw [List.length_append, hgl, zeroW_len]; omega
          have gd : ∀ j, j < n + 16 → wr.cell? ⟨w.heap.size + 2, j, none⟩ = some (.int .u32 ((growW WS n).getD j 0 : Nat)) := fun j hj => by
            rw [hcw.word j (by rw [hwl]; omega)]
            simp only [List.getD]
            rw [List.getElem?_append_left (by omega)]
          have hx15 := gd (n + 1) (by omega)
          have hx16 := gd n (by omega)
          have hx2 := gd (n + 14) (by omega)
          have hx7 := gd (n + 9) (by omega)
          have HN : Hid (nextW (growW WS n) (n + 16) = ((growW WS n).getD n 0 + sg0 ((growW WS n).getD (n + 1) 0) + (growW WS n).getD (n + 9) 0 + sg1 ((growW WS n).getD (n + 14) 0)) % 4294967296) := rfl
          have HS : Hid ((growW WS n ++ zeroW (48 - n)).set (n + 16) (nextW (growW WS n) (n + 16)) = growW WS (n + 1) ++ zeroW (48 - (n + 1))) := set_grow WS n hl16 hn48
          have l15 := hgw.get (n + 1)
          have l16 := hgw.get n
          have l2 := hgw.get (n + 14)
          have l7 := hgw.get (n + 9)
          clear gd
          generalize (growW WS n).getD (n + 1) 0 = y15 at *
          generalize (growW WS n).getD n 0 = y16 at *
          generalize (growW WS n).getD (n + 14) 0 = y2 at *
          generalize (growW WS n).getD (n + 9) 0 = y7 at *
          have hck := hcw.word (n + 16) (by rw [hwl]; omega)
          have hfk := hcw.frozen (n + 16)
          have hcw2 := hcw.setW (n + 16) (nextW (growW WS n) (n + 16))
          have hon2 := hid_into (fun x => hon.trans (Only.set (w.heap.size + 2) (n + 16) wr x))
          rw [HS.out, HN.out] at hcw2
          replace hcw2 := hid_into hcw2
          have hi := HI2.out
          obtain ⟨j15, h15⟩ : ∃ j, j = n + 1 := ⟨_, rfl⟩
          obtain ⟨j16, h16⟩ : ∃ j, j = n := ⟨_, rfl⟩
          obtain ⟨j2, h2⟩ : ∃ j, j = n + 14 := ⟨_, rfl⟩
          obtain ⟨j7, h7⟩ : ∃ j, j = n + 9 := ⟨_, rfl⟩
          have u15 : IntKind.i64.wrap ((i : Int) - 15) = (j15 : Int) := by rw [wrap64_small _ (by omega) (by omega)]; omega
          have u16 : IntKind.i64.wrap ((i : Int) - 16) = (j16 : Int) := by rw [wrap64_small _ (by omega) (by omega)]; omega
          have u2 : IntKind.i64.wrap ((i : Int) - 2) = (j2 : Int) := by rw [wrap64_small _ (by omega) (by omega)]; omega
          have u7 : IntKind.i64.wrap ((i : Int) - 7) = (j7 : Int) := by rw [wrap64_small _ (by omega) (by omega)]; omega
          have t15 : (i : Int) - 15 = (j15 : Int) := by omega
          have t2 : (i : Int) - 2 = (j2 : Int) := by omega
          have v15 : (j15 : Int) < 64 := by omega
          have v16 : (j16 : Int) < 64 := by omega
          have v2 : (j2 : Int) < 64 := by omega
          have v7 : (j7 : Int) < 64 := by omega
          have vi : (i : Int) < 64 := by omega
          have e0 := sg0_val y15 l15
          have e1 := sg1_val y2 l2
          rw [← h15] at hx15
          rw [← h2] at hx2
          rw [← h7] at hx7
          replace hx16 : wr.cell? ⟨w.heap.size + 2, j16, none⟩ = some (.int .u32 (y16 : Nat)) := by rw [h16]; exact hx16
          rw [← hi] at hck hfk hcw2 hon2
          clear HN HS hwl hgl h15 h16 h2 h7 hi hcw hon
          go_wp2_with fail
          refine wp_region_still_tail 29 (by kernel_rfl) (by kernel_rfl) ?_
          change wpStill _ _ (World.drew _) _ _ _
          simp only [List.take_succ_cons, List.take_zero, List.drop_succ_cons, List.drop_zero]
          repeat still_step
          still_call ((r_7 y15 _ l15).mono fun _ _ h => ⟨h.1, h.2.symm⟩)
          repeat still_step
          still_call ((r_18 y15 _ l15).mono fun _ _ h => ⟨h.1, h.2.symm⟩)
          repeat still_step
          still_call ((r_17 y2 _ l2).mono fun _ _ h => ⟨h.1, h.2.symm⟩)
          repeat still_step
          still_call ((r_19 y2 _ l2).mono fun _ _ h => ⟨h.1, h.2.symm⟩)
          repeat still_step
          refine wpStill_nil ?_
          go_wp2_with fail
          go_roundw
          case rel =>
            refine ⟨n + 1, i + 1, by omega, by have e := HI2.out; show _ = _; omega, by go_num, cw_w hcw2.out ?_, (hon2.out _).drew⟩
            omega
          case measure => simp [intOf]; omega
        · have hi64 : ¬ i < 64 := by have e := HI2.out; omega
          have hcs : Cw wr (w.heap.size + 2) (cellsW (schedN bs)) 71 := by
            obtain rfl : n = 48 := by omega
            have e : growW WS 48 ++ zeroW (48 - 48) = schedN bs := by rw [HWS.out]; simp [zeroW, schedN]
            rw [e] at hcw; exact hcw
          have HWL := hid_into (schedN_length bs)
          have HWW := hid_into (schedN_wds HBY.out)
          have HFB : Hid (fl = cellsW (s.add (roundsN kN (schedN bs) 64 s)).list) := HFL
          generalize schedN bs = W at *
          have hs4 : Cw wr w.heap.size sl 65 := hon.cw hs3 (by omega)
          have hq4 : Cw wr (w.heap.size + 1) z8 65 := hon.cw hq3 (by omega)
          have BB4 : Below w.heap.size w wr := BB3.trans (hon.below (by omega))
          have hsz4 : wr.heap.size = w.heap.size + 3 := by rw [hon.size, HS3.out]
          clear hcw hon
          go_wp2_with (first
            | (refine wpList_load_rw rfl 65 (.tmp 3) rfl w.heap.size sl 65 _ rfl hs4 Try.underlying65 rfl HIs ?_)
            | (refine wpList_alloc_row rfl 65 rfl z8 Z8.out ?_; intro W5 hc5 B5 HS5)
            | (refine wpList_store_rw rfl 65 (.tmp 12) (.tmp 99) rfl wr.heap.size z8 sl 65 rfl rfl hc5 HI8 HLs HCs.out ?_; intro W6 hv6 O6))
          rw [hsz4] at hv6 O6 hc5 B5
          have hs6 : Cw W6 w.heap.size sl 65 := O6.cw (hs4.below B5 (by omega)) (by omega)
          have hq6 : Cw W6 (w.heap.size + 1) z8 65 := O6.cw (hq4.below B5 (by omega)) (by omega)
          have hw6 : Cw W6 (w.heap.size + 2) (cellsW W) 71 := O6.cw (hcs.below B5 (by omega)) (by omega)
          have BB6 : Below w.heap.size w W6 := (BB4.trans (B5.mono (by omega))).trans (O6.below (by omega))
          have hk6 : Cw W6 kb (cellsW kN) 71 := HK.out.below BB6 hltk
          rw [HSL.out] at hv6
          clear hs4 hq4 hcs BB4 B5 HS5 O6 hc5 hsz4 hi64
          obtain ⟨KN, hKN⟩ : ∃ KN, KN = kN := ⟨_, rfl⟩
          rw [← hKN] at hk6 HFB
          have HKW : Hid (Wds KN) := by rw [hKN]; exact kN_wds
          have HKL : Hid (KN.length = 64) := by rw [hKN]; rfl
          clear hKN
          go_wp2_with fail
          go_loopw [13] (fun iv wx => ∃ (n : Nat) (v : S8), n ≤ 64 ∧ iv = .int .i64 n ∧ Cw wx (w.heap.size + 3) (cellsW v.list) 65 ∧ Hid v.ok ∧ Hid (v = roundsN KN W n s) ∧ Only (w.heap.size + 3) W6 wx) (fun iv _ => 64 - (intOf iv).toNat)
          case atStart => exact ⟨0, s, Nat.zero_le _, rfl, hv6, OKS, rfl, Only.refl _ _⟩
          case round =>
            clear hv6
            obtain ⟨n, ⟨va, vb, vc, vd, ve, vf, vg, vh⟩, hn, rfl, hv, OK, HV, hon⟩ := hrel
            by_cases hn64 : n < 64
            · have ck : wr.cell? ⟨kb, n, none⟩ = some (.int .u32 (KN.getD n 0 : Nat)) := (hon.cw hk6 (by omega)).word n (by rw [HKL.out]; exact hn64)
              have cw : wr.cell? ⟨w.heap.size + 2, n, none⟩ = some (.int .u32 (W.getD n 0 : Nat)) := (hon.cw hw6 (by omega)).word n (by rw [HWL.out]; exact hn64)
              have lk := HKW.out.get n
              have lw := HWW.out.get n
              have HR : Hid (roundsN KN W (n + 1) s = roundN ⟨va, vb, vc, vd, ve, vf, vg, vh⟩ (KN.getD n 0) (W.getD n 0)) := by
                show _ = _
                rw [HV.out]; rfl
              have OK2 := hid_into (roundN_ok OK.out (KN.getD n 0) (W.getD n 0))
              obtain ⟨la, lb, lc, ld, le, lf, lg, lh⟩ := OK.out
              dsimp only at la lb lc ld le lf lg lh
              generalize KN.getD n 0 = kk at *
              generalize W.getD n 0 = ww at *
              have c0 : wr.cell? ⟨w.heap.size + 3, 0, none⟩ = some (.int .u32 (va : Nat)) := hv.word 0 (show 0 < 8 by decide)
              have c1 : wr.cell? ⟨w.heap.size + 3, 1, none⟩ = some (.int .u32 (vb : Nat)) := hv.word 1 (show 1 < 8 by decide)
              have c2 : wr.cell? ⟨w.heap.size + 3, 2, none⟩ = some (.int .u32 (vc : Nat)) := hv.word 2 (show 2 < 8 by decide)
              have c3 : wr.cell? ⟨w.heap.size + 3, 3, none⟩ = some (.int .u32 (vd : Nat)) := hv.word 3 (show 3 < 8 by decide)
              have c4 : wr.cell? ⟨w.heap.size + 3, 4, none⟩ = some (.int .u32 (ve : Nat)) := hv.word 4 (show 4 < 8 by decide)
              have c5 : wr.cell? ⟨w.heap.size + 3, 5, none⟩ = some (.int .u32 (vf : Nat)) := hv.word 5 (show 5 < 8 by decide)
              have c6 : wr.cell? ⟨w.heap.size + 3, 6, none⟩ = some (.int .u32 (vg : Nat)) := hv.word 6 (show 6 < 8 by decide)
              have c7 : wr.cell? ⟨w.heap.size + 3, 7, none⟩ = some (.int .u32 (vh : Nat)) := hv.word 7 (show 7 < 8 by decide)
              have f0 := hv.frozen 0
              have f1 := hv.frozen 1
              have f2 := hv.frozen 2
              have f3 := hv.frozen 3
              have f4 := hv.frozen 4
              have f5 := hv.frozen 5
              have f6 := hv.frozen 6
              have f7 := hv.frozen 7
              have hn64' : (n : Int) < 64 := by omega
              have e1 := big1_val ve le
              have e2 := ch_val ve vf vg le lf lg
              have e3 := big0_val va la
              have e4 := maj_val va vb vc la lb lc
              have HV8 := hid_into hv
              have HON := hid_into hon
              clear OK HV hv hon
              go_wp2_with fail
              go_quiet (fail)
              go_wp2_with fail
              refine wp_region_still_lit (by kernel_rfl) (by kernel_rfl) ?_
              change wpStill _ _ (World.drew _) _ _ _
              repeat still_step
              still_call ((r_6 ve _ le).mono fun _ _ h => ⟨h.1, h.2.symm⟩)
              repeat still_step
              still_call ((r_11 ve _ le).mono fun _ _ h => ⟨h.1, h.2.symm⟩)
              repeat still_step
              still_call ((r_25 ve _ le).mono fun _ _ h => ⟨h.1, h.2.symm⟩)
              repeat still_step
              refine wpStill_nil ?_
              change Exit.then _ _ _ _ (World.drew _)
              go_wp2_with fail
              refine wp_region_still_lit (by kernel_rfl) (by kernel_rfl) ?_
              change wpStill _ _ (World.drew _) _ _ _
              repeat still_step
              still_call ((r_2 va _ la).mono fun _ _ h => ⟨h.1, h.2.symm⟩)
              repeat still_step
              still_call ((r_13 va _ la).mono fun _ _ h => ⟨h.1, h.2.symm⟩)
              repeat still_step
              still_call ((r_22 va _ la).mono fun _ _ h => ⟨h.1, h.2.symm⟩)
              repeat still_step
              refine wpStill_nil ?_
              change Exit.then _ _ _ _ (World.drew _)
              go_wp2_with fail
              go_roundw
              case rel =>
                have hvd : Cw (wr.drewN (nq + 1 + 1)) (w.heap.size + 3) (cellsW (S8.list ⟨va, vb, vc, vd, ve, vf, vg, vh⟩)) 65 := HV8.out
                refine ⟨n + 1, roundN ⟨va, vb, vc, vd, ve, vf, vg, vh⟩ kk ww, by omega, by go_num, cw_list ((((((((hvd.set 0 _).set 1 _).set 2 _).set 3 _).set 4 _).set 5 _).set 6 _).set 7 _) ?_, OK2, HR.out.symm, ((((((((HON.out.drewN (nq + 1 + 1)).trans (Only.set (w.heap.size + 3) 0 _ _)).trans (Only.set (w.heap.size + 3) 1 _ _)).trans (Only.set (w.heap.size + 3) 2 _ _)).trans (Only.set (w.heap.size + 3) 3 _ _)).trans (Only.set (w.heap.size + 3) 4 _ _)).trans (Only.set (w.heap.size + 3) 5 _ _)).trans (Only.set (w.heap.size + 3) 6 _ _)).trans (Only.set (w.heap.size + 3) 7 _ _)⟩
                simp only [cellsW, S8.list, roundN, t1N, t2N, List.map_cons, List.map_nil, List.set_cons_zero, List.set_cons_succ, List.cons.injEq, Value.int.injEq, true_and, and_true]
                constructor <;> omega
              case measure => simp [intOf]; omega
            · have hn6 : n = 64 := by omega
              have hs7 : Cw wr w.heap.size sl 65 := hon.cw hs6 (by omega)
              have hq7 : Cw wr (w.heap.size + 1) z8 65 := hon.cw hq6 (by omega)
              have BB7 : Below w.heap.size w wr := BB6.trans (hon.below (by omega))
              obtain ⟨vl, hvl⟩ : ∃ vl, vl = S8.list ⟨va, vb, vc, vd, ve, vf, vg, vh⟩ := ⟨_, rfl⟩
              rw [← hvl] at hv
              have HVW : Hid (Wds vl) := by rw [hvl]; exact OK.out.wds
              obtain ⟨A, hA⟩ : ∃ A, A = (s.add (roundsN KN W 64 s)).list := ⟨_, rfl⟩
              obtain ⟨S, hS⟩ : ∃ S, S = s.list := ⟨_, rfl⟩
              have HA : Hid (∀ k, k < 8 → A.getD k 0 = (S.getD k 0 + vl.getD k 0) % 4294967296) := fun k hk => by
                rw [hA, hS, hvl, HV.out, hn6]; exact add_get s _ k hk
              have HAL : Hid (A.length = 8) := by rw [hA]; exact list_len _
              have HSL8 : Hid (S.length = 8) := by rw [hS]; exact list_len _
              have HVL8 : Hid (vl.length = 8) := by rw [hvl]; exact list_len _
              have HSW : Hid (Wds S) := by rw [hS]; exact OKS.out.wds
              have HFA : Hid (fl = cellsW A) := by rw [hA]; exact HFB
              rw [HSL.out, ← hS] at hs7
              clear hvl hA hS OK HV hn6 hon HFB hs6 hq6 hw6 hk6 BB6
              go_wp2_with fail
              go_loopw [18] (fun iv wx => ∃ k : Nat, k ≤ 8 ∧ iv = .int .i64 k ∧ Cw wx w.heap.size (cellsW (A.take k ++ S.drop k)) 65 ∧ Cw wx (w.heap.size + 3) (cellsW vl) 65 ∧ Cw wx (w.heap.size + 1) z8 65 ∧ Below w.heap.size w wx) (fun iv _ => 8 - (intOf iv).toNat)
              case atStart => exact ⟨0, Nat.zero_le _, rfl, hs7, hv, hq7, BB7⟩
              case round =>
                clear hs7 hv hq7 BB7
                obtain ⟨k, hk, rfl, hcw, hv, hq, bel⟩ := hrel
                by_cases hk8 : k < 8
                · have hcl : (A.take k ++ S.drop k).length = 8 := by rw [List.length_append, List.length_take, List.length_drop, HAL.out, HSL8.out]; omega
                  have hck := hcw.word k (by rw [hcl]; exact hk8)
                  rw [take_get A S k (by rw [HAL.out, HSL8.out]) (by rw [HSL8.out]; exact hk8)] at hck
                  have hfk := hcw.frozen k
                  have hvk := hv.word k (by rw [HVL8.out]; exact hk8)
                  have hcw2 := hcw.setW k (A.getD k 0)
                  rw [take_set A S k (by rw [HSL8.out]; exact hk8) (by rw [HAL.out, HSL8.out])] at hcw2
                  have HO := hid_into (fun x => Only.set w.heap.size k wr x)
                  have hAk := HA.out k hk8
                  have hxs := HSW.out.get k
                  have hxv := HVW.out.get k
                  generalize A.getD k 0 = x at *
                  generalize S.getD k 0 = y at *
                  generalize vl.getD k 0 = z at *
                  have hk8' : (k : Int) < 8 := by omega
                  replace hcw2 := hid_into hcw2
                  have HX : Hid ((x : Int) = ((y : Int) + (z : Int)) % 4294967296) := by show _ = _; omega
                  have HVV := hid_into hv
                  have HQQ := hid_into hq
                  have HBB := hid_into bel
                  clear hcw hv hq bel hAk hcl
                  go_wp2_with fail
                  refine wp_region_still_tail 9 (by kernel_rfl) (by kernel_rfl) ?_
                  change wpStill _ _ (World.drew _) _ _ _
                  simp only [List.take_succ_cons, List.take_zero, List.drop_succ_cons, List.drop_zero]
                  repeat still_step
                  refine wpStill_nil ?_
                  go_wp2_with fail
                  go_roundw
                  case rel =>
                    refine ⟨k + 1, by omega, by go_num, cw_w hcw2.out HX.out, (HO.out _).cw HVV.out (by omega), (HO.out _).cw HQQ.out (by omega), HBB.out.trans ((HO.out _).drew.below (Nat.le_refl _))⟩
                  case measure => simp [intOf]; omega
                · have hfin : Cw wr w.heap.size fl 65 := by
                    have e : A.take k ++ S.drop k = A := by
                      obtain rfl : k = 8 := by omega
                      rw [List.take_of_length_le (by rw [HAL.out]; exact Nat.le_refl _), List.drop_of_length_le (by rw [HSL8.out]; exact Nat.le_refl _), List.append_nil]
                    rw [HFA.out, ← e]; exact hcw
                  clear hcw
                  go_wp2_with (first
                    | (refine wpList_load_rw rfl 65 (.tmp 3) rfl w.heap.size fl 65 _ rfl hfin Try.underlying65 rfl HIf ?_)
                    | (refine wpList_store_rw rfl 65 (.tmp 6) (.tmp 195) rfl (w.heap.size + 1) z8 fl 65 rfl rfl hq HI8 HLf HCf.out ?_; intro WA hcA OA))
                  exact ret_row rfl rfl rfl hcA Try.underlying65 rfl HIf ⟨rfl, bel.trans (OA.below (by omega))⟩
end Go.Proofs.Ytkfnmdhhiigceaa.Dg
