/-
  digest.stretch, by contract: the sixty-four words of a block.
-/
import Derived.Test.YtkfnmdhhiigceaaDgArr
import Derived.Deep.RegionHeld3
namespace Go.Proofs.Ytkfnmdhhiigceaa.Dg
open Go.RowKit
theorem cell_far {w : World} {g i b o : Nat} {v u : Value} (h : w.cell? ⟨b, o, none⟩ = some u) (hne : b ≠ g) : (w.setCell ⟨g, i, none⟩ v).drew.cell? ⟨b, o, none⟩ = some u := by
  show (w.setCell ⟨g, i, none⟩ v).cell? ⟨b, o, none⟩ = some u
  rw [World.cell?_setCell_other _ _ _ _ (fun e => hne (by injection e with e1; exact e1.symm))]; exact h
theorem cell_near {w : World} {g i b o : Nat} {v u : Value} (h : w.cell? ⟨b, o, none⟩ = some u) (hne : o ≠ i) : (w.setCell ⟨g, i, none⟩ v).drew.cell? ⟨b, o, none⟩ = some u := by
  show (w.setCell ⟨g, i, none⟩ v).cell? ⟨b, o, none⟩ = some u
  rw [World.cell?_setCell_other _ _ _ _ (fun e => hne (by injection e with e1 e2; exact e2.symm))]; exact h
theorem set_grow (W : List Nat) (n : Nat) (hW : W.length = 16) (h : n < 48) : (growW W n ++ zeroW (48 - n)).set (n + 16) (nextW (growW W n) (n + 16)) = growW W (n + 1) ++ zeroW (48 - (n + 1)) := by
  have hl := growW_length W n
  rw [List.set_append_right _ _ (by omega), hl, hW, show n + 16 - (16 + n) = 0 by omega, show 48 - n = (48 - (n + 1)) + 1 by omega]
  show growW W n ++ (nextW (growW W n) (n + 16) :: zeroW (48 - (n + 1))) = _
  simp [growW]
theorem wrap64_small (x : Int) (h0 : -9223372036854775808 ≤ x) (h1 : x ≤ 9223372036854775807) : IntKind.i64.wrap x = x := by
  simp [IntKind.wrap, IntKind.bits, IntKind.signed]; omega
theorem be_or (a b c d : Nat) (ha : a < 256) (hb : b < 256) (hc : c < 256) (hd : d < 256) :
    bits .or .u32 (bits .or .u32 (bits .or .u32 ((a : Int) * 16777216) ((b : Int) * 65536)) ((c : Int) * 256)) (d : Int) = ((beW a b c d : Nat) : Int) := by
  have h1 := u32_or_nat (a * 16777216) (b * 65536) (by omega) (by omega)
  rw [nat_join 24 _ _ (by omega) (by omega)] at h1
  have h2 := u32_or_nat (a * 16777216 + b * 65536) (c * 256) (by omega) (by omega)
  rw [nat_join 16 _ _ (by omega) (by omega)] at h2
  have h3 := u32_or_nat (a * 16777216 + b * 65536 + c * 256) d (by omega) (by omega)
  rw [nat_join 8 _ _ (by omega) (by omega)] at h3
  have e1 : ((a : Int) * 16777216) = ((a * 16777216 : Nat) : Int) := by omega
  have e2 : ((b : Int) * 65536) = ((b * 65536 : Nat) : Int) := by omega
  have e3 : ((c : Int) * 256) = ((c * 256 : Nat) : Int) := by omega
  rw [e1, e2, h1, e3, h2, h3]
  unfold beW; simp
theorem set_words (bs : List Int) (k : Nat) (h : k < 64) (x : Nat) : (wordsN bs k ++ zeroW (64 - k)).set k x = (wordsN bs k ++ [x]) ++ zeroW (64 - (k + 1)) := by
  rw [List.set_append, wordsN_length]
  simp only [Nat.lt_irrefl, if_false, Nat.sub_self]
  rw [show 64 - k = (64 - (k + 1)) + 1 by omega, List.append_assoc]
  rfl
theorem beW_nat (a b c d : Nat) : beW (a : Int) b c d = a * 16777216 + b * 65536 + c * 256 + d := by unfold beW; simp
set_option maxRecDepth 20000 in
set_option maxHeartbeats 1600000 in
theorem stretch_any (b0 o0 cap : Nat) (bs : List Int) (w : World) (hb : Bs w (.slice (some ⟨b0, o0, none⟩) 64 cap) bs) (hl : bs.length = 64) (hby : Byt bs) (hcap : 64 ≤ cap) (hcm : cap ≤ maxLen) :
    Calls Try.prog 42 #[.slice (some ⟨b0, o0, none⟩) 64 cap] w fun e w' => e = .returned (.agg (cellsW (schedN bs)).toArray) ∧ Below w.heap.size w w' := by
  unfold maxLen at hcm
  have hcell : ∀ i, i < 64 → w.cell? ⟨b0, o0 + i, none⟩ = some (.int .u8 (bs.getD i 0)) := by
    rcases hb with ⟨h0, _⟩ | ⟨_, b1, o1, d1, he1, hc1, hc2, hcell1⟩
    · rw [h0] at hl; cases hl
    · simp only [Value.slice.injEq, Option.some.injEq, Addr.mk.injEq] at he1
      obtain ⟨⟨rfl, rfl, _⟩, _, rfl⟩ := he1
      exact fun i hi => hcell1 i (by omega)
  have hlt : b0 < w.heap.size := World.block_lt_of_cell? w _ (hcell 0 (by omega))
  have HB := hid_into hcell
  clear hcell hb
  obtain ⟨os, hos⟩ : ∃ os, os = cellsW (zeroW 64) := ⟨_, rfl⟩
  have HO : Hid ((Try.prog.info? 76).bind (·.zero) = some (.agg os.toArray)) := by rw [hos]; exact Try.zero76
  have HI : Hid ((Try.prog.info? 76).map (·.size) = some os.length) := by rw [hos]; exact hsW Try.size76 (zeroW_len 64)
  have HOS : Hid (os = cellsW (zeroW 64)) := hos
  clear hos
  obtain ⟨cs, hcs⟩ : ∃ cs, cs = cellsW (schedN bs) := ⟨_, rfl⟩
  rw [← hcs]
  have HIs : Hid ((Try.prog.info? 76).map (·.size) = some cs.length) := by rw [hcs]; exact hsW Try.size76 (schedN_length bs)
  have HL : Hid (os.length = cs.length) := by rw [HOS.out, hcs]; exact hlW (by rw [zeroW_len, schedN_length])
  have HCs : Hid (∀ v ∈ cs, v.oneCell' = true) := by rw [hcs]; exact cellsW_one _
  have HCS := hid_into hcs
  clear hcs
  go_enter Try.func42, Try.ntmps42
  refine wp_seq (wp_region_lit (wpList_alloc_row rfl 76 rfl os HO.out ?_))
  intro W1 hc1 B1 HS1
  refine wpList_nil ?_
  refine wp_seq (wp_region_lit (wpList_alloc_row rfl 76 rfl os HO.out ?_))
  intro W2 hc2' B2' HS2'
  refine wpList_nil ?_
  have hc2 : Cw W2 (w.heap.size + 1) os 76 := by rw [← HS1.out]; exact hc2'
  have hq2 : Cw W2 w.heap.size os 76 := hc1.below B2' hc1.lt
  have B2 : Below w.heap.size w W2 := B1.trans (B2'.mono (by rw [HS1.out]; omega))
  have hg : W1.heap.size = w.heap.size + 1 := HS1.out
  rw [hg]
  clear hg HS2' B2' hc2' hc1 B1 HS1
  rw [HOS.out] at hc2
  go_wp2_with fail
  go_loopw [7] (fun i wr => ∃ k : Nat, k ≤ 16 ∧ i = .int .i64 k ∧ Cw wr (w.heap.size + 1) (cellsW (wordsN bs k ++ zeroW (64 - k))) 76 ∧ Only (w.heap.size + 1) W2 wr) (fun i _ => 16 - (intOf i).toNat)
  case atStart => exact ⟨0, Nat.zero_le _, rfl, hc2, Only.refl _ _⟩
  case round =>
    obtain ⟨k, hk, rfl, hcw, hon⟩ := hrel
    by_cases hlt16 : k < 16
    · have hwl : (wordsN bs k ++ zeroW (64 - k)).length = 64 := by rw [List.length_append, wordsN_length, zeroW_len]; omega
      have cellk : ∀ j, j < 64 → wr.cell? ⟨b0, o0 + j, none⟩ = some (.int .u8 (bs.getD j 0)) := fun j hj => by
        rw [World.cell?_of_block (w := w) ((hon.block b0 (by omega)).trans (B2.block b0 hlt))]; exact HB.out j hj
      have hx0 := cellk (4 * k) (by omega)
      have hx1 := cellk (4 * k + 1) (by omega)
      have hx2 := cellk (4 * k + 2) (by omega)
      have hx3 := cellk (4 * k + 3) (by omega)
      rw [← Nat.add_assoc] at hx1 hx2 hx3
      have HS : Hid ((wordsN bs k ++ zeroW (64 - k)).set k (beW (bs.getD (4 * k) 0) (bs.getD (4 * k + 1) 0) (bs.getD (4 * k + 2) 0) (bs.getD (4 * k + 3) 0)) = wordsN bs (k + 1) ++ zeroW (64 - (k + 1))) := set_words bs k (by omega) _
      have r0 := hby.get (4 * k)
      have r1 := hby.get (4 * k + 1)
      have r2 := hby.get (4 * k + 2)
      have r3 := hby.get (4 * k + 3)
      clear cellk
      generalize bs.getD (4 * k) 0 = x0 at *
      generalize bs.getD (4 * k + 1) 0 = x1 at *
      generalize bs.getD (4 * k + 2) 0 = x2 at *
      generalize bs.getD (4 * k + 3) 0 = x3 at *
      obtain ⟨y0, rfl⟩ := Int.eq_ofNat_of_zero_le r0.1
      obtain ⟨y1, rfl⟩ := Int.eq_ofNat_of_zero_le r1.1
      obtain ⟨y2, rfl⟩ := Int.eq_ofNat_of_zero_le r2.1
      obtain ⟨y3, rfl⟩ := Int.eq_ofNat_of_zero_le r3.1
      have h4 : 4 * k + 4 - 4 * k = 4 := by omega
      have q0 : IntKind.u32.wrap (y0 : Int) = y0 := by rw [IntKind.wrap_u32']; omega
      have q1 : IntKind.u32.wrap (y1 : Int) = y1 := by rw [IntKind.wrap_u32']; omega
      have q2 : IntKind.u32.wrap (y2 : Int) = y2 := by rw [IntKind.wrap_u32']; omega
      have q3 : IntKind.u32.wrap (y3 : Int) = y3 := by rw [IntKind.wrap_u32']; omega
      have p0 : IntKind.u32.wrap ((y0 : Int) * 16777216) = y0 * 16777216 := by rw [IntKind.wrap_u32']; omega
      have p1 : IntKind.u32.wrap ((y1 : Int) * 65536) = y1 * 65536 := by rw [IntKind.wrap_u32']; omega
      have p2 : IntKind.u32.wrap ((y2 : Int) * 256) = y2 * 256 := by rw [IntKind.wrap_u32']; omega
      have m0 : ((y0 : Int) % 4294967296) = y0 := by omega
      have m1 : ((y1 : Int) % 4294967296) = y1 := by omega
      have m2 : ((y2 : Int) % 4294967296) = y2 := by omega
      have m3 : ((y3 : Int) % 4294967296) = y3 := by omega
      have hck := hcw.word k (by rw [hwl]; omega)
      have hfk := hcw.frozen k
      have hk64 : (k : Int) < 64 := by omega
      have HV := be_or y0 y1 y2 y3 (by omega) (by omega) (by omega) (by omega)
      have hcw2 := hcw.setW k (beW y0 y1 y2 y3)
      rw [HS.out, ← HV] at hcw2
      have hon2 := hon.trans (Only.set (w.heap.size + 1) k wr (.int .u32 (beW y0 y1 y2 y3 : Nat)))
      rw [← HV] at hon2
      replace hcw2 := hid_into hcw2
      replace hon2 := hid_into hon2
      clear HV HS
      go_wp2_with fail
      go_region_held3 (fun w' => w'.cell? ⟨b0, o0 + 4 * k, none⟩ = some (.int .u8 y0) ∧ w'.cell? ⟨b0, o0 + 4 * k + 1, none⟩ = some (.int .u8 y1) ∧ w'.cell? ⟨b0, o0 + 4 * k + 2, none⟩ = some (.int .u8 y2) ∧ w'.cell? ⟨b0, o0 + 4 * k + 3, none⟩ = some (.int .u8 y3)) (first | exact ⟨hx0, hx1, hx2, hx3⟩ | (exact ⟨cell_far hx0 (by omega), cell_far hx1 (by omega), cell_far hx2 (by omega), cell_far hx3 (by omega)⟩)) (fail)
      go_wp2_with fail
      go_roundw
      case rel => exact ⟨k + 1, by omega, by go_num, hcw2.out, hon2.out.drew⟩
      case measure => simp [intOf]; omega
    · have hcw0 : Cw wr (w.heap.size + 1) (cellsW (growW (wordsN bs 16) 0 ++ zeroW (48 - 0))) 76 := by
        obtain rfl : k = 16 := by omega
        exact hcw
      have hw16 := wordsN_wds hby 16
      have hl16 := wordsN_length bs 16
      obtain ⟨WS, hWS⟩ : ∃ WS, WS = wordsN bs 16 := ⟨_, rfl⟩
      rw [← hWS] at hcw0 hw16 hl16
      have HWS := hid_into hWS
      clear hWS
      clear hcw
      go_wp2_with fail
      go_loopw [6] (fun iv wx => ∃ n i : Nat, n ≤ 48 ∧ Hid (i = n + 16) ∧ iv = .int .i64 (i : Int) ∧ Cw wx (w.heap.size + 1) (cellsW (growW WS n ++ zeroW (48 - n))) 76 ∧ Only (w.heap.size + 1) W2 wx) (fun i _ => 64 - (intOf i).toNat)
      case atStart => exact ⟨0, 16, Nat.zero_le _, rfl, rfl, hcw0, hon⟩
      case round =>
        clear hcw0 hon
        obtain ⟨n, i, hn, HI2, rfl, hcw, hon⟩ := hrel
        by_cases hn48 : n < 48
        · have hgl := growW_length WS n
          have hgw := growW_wds hw16 n
          have hwl : (growW WS n ++ zeroW (48 - n)).length = 64 := by rw [List.length_append, hgl, zeroW_len]; omega
          have gd : ∀ j, j < n + 16 → wr.cell? ⟨w.heap.size + 1, j, none⟩ = some (.int .u32 ((growW WS n).getD j 0 : Nat)) := fun j hj => by
            rw [hcw.word j (by rw [hwl]; omega)]
            simp only [List.getD]
            rw [List.getElem?_append_left (by omega)]
          have hx15 := gd (n + 1) (by omega)
          have hx16 := gd n (by omega)
          have hx2 := gd (n + 14) (by omega)
          have hx7 := gd (n + 9) (by omega)
          have HN : Hid (nextW (growW WS n) (n + 16) = ((growW WS n).getD n 0 + sg0 ((growW WS n).getD (n + 1) 0) + (growW WS n).getD (n + 9) 0 + sg1 ((growW WS n).getD (n + 14) 0)) % 4294967296) := rfl
          have HS : Hid ((growW WS n ++ zeroW (48 - n)).set (n + 16) (nextW (growW WS n) (n + 16)) = growW WS (n + 1) ++ zeroW (48 - (n + 1))) := set_grow WS n hl16 hn48
          have l15 := hgw.get (n + 1)
          have l16 := hgw.get n
          have l2 := hgw.get (n + 14)
          have l7 := hgw.get (n + 9)
          clear gd
          generalize (growW WS n).getD (n + 1) 0 = y15 at *
          generalize (growW WS n).getD n 0 = y16 at *
          generalize (growW WS n).getD (n + 14) 0 = y2 at *
          generalize (growW WS n).getD (n + 9) 0 = y7 at *
          have hck := hcw.word (n + 16) (by rw [hwl]; omega)
          have hfk := hcw.frozen (n + 16)
          have HV : ((((sg0 y15 + y16) % 4294967296 : Nat) : Int) + (((sg1 y2 + y7) % 4294967296 : Nat) : Int)) % 4294967296 = ((nextW (growW WS n) (n + 16) : Nat) : Int) := by rw [HN.out]; omega
          have hcw2 := hcw.setW (n + 16) (nextW (growW WS n) (n + 16))
          have hon2 := hon.trans (Only.set (w.heap.size + 1) (n + 16) wr (.int .u32 (nextW (growW WS n) (n + 16) : Nat)))
          rw [HS.out] at hcw2
          replace hcw2 := hid_into hcw2
          replace hon2 := hid_into hon2
          replace HV := hid_into HV
          have hi := HI2.out
          obtain ⟨j15, h15⟩ : ∃ j, j = n + 1 := ⟨_, rfl⟩
          obtain ⟨j16, h16⟩ : ∃ j, j = n := ⟨_, rfl⟩
          obtain ⟨j2, h2⟩ : ∃ j, j = n + 14 := ⟨_, rfl⟩
          obtain ⟨j7, h7⟩ : ∃ j, j = n + 9 := ⟨_, rfl⟩
          have u15 : IntKind.i64.wrap ((i : Int) - 15) = (j15 : Int) := by rw [wrap64_small _ (by omega) (by omega)]; omega
          have u16 : IntKind.i64.wrap ((i : Int) - 16) = (j16 : Int) := by rw [wrap64_small _ (by omega) (by omega)]; omega
          have u2 : IntKind.i64.wrap ((i : Int) - 2) = (j2 : Int) := by rw [wrap64_small _ (by omega) (by omega)]; omega
          have u7 : IntKind.i64.wrap ((i : Int) - 7) = (j7 : Int) := by rw [wrap64_small _ (by omega) (by omega)]; omega
          have v15 : (j15 : Int) < 64 := by omega
          have v16 : (j16 : Int) < 64 := by omega
          have v2 : (j2 : Int) < 64 := by omega
          have v7 : (j7 : Int) < 64 := by omega
          have vi : (i : Int) < 64 := by omega
          have ne15 := hid_into (show j15 ≠ i by omega)
          have ne16 := hid_into (show j16 ≠ i by omega)
          have ne2 := hid_into (show j2 ≠ i by omega)
          have ne7 := hid_into (show j7 ≠ i by omega)
          rw [← h15] at hx15
          rw [← h2] at hx2
          rw [← h7] at hx7
          replace hx16 : wr.cell? ⟨w.heap.size + 1, j16, none⟩ = some (.int .u32 (y16 : Nat)) := by rw [h16]; exact hx16
          rw [← hi] at hck hfk
          clear HN HS hwl hgl h15 h16 h2 h7 hi hcw hon
          go_wp2_with fail
          go_region_held3 (fun w' => w'.cell? ⟨w.heap.size + 1, j15, none⟩ = some (.int .u32 y15) ∧ w'.cell? ⟨w.heap.size + 1, j16, none⟩ = some (.int .u32 y16) ∧ w'.cell? ⟨w.heap.size + 1, j2, none⟩ = some (.int .u32 y2) ∧ w'.cell? ⟨w.heap.size + 1, j7, none⟩ = some (.int .u32 y7))
            (first | exact ⟨hx15, hx16, hx2, hx7⟩ | exact ⟨cell_near hx15 ne15.out, cell_near hx16 ne16.out, cell_near hx2 ne2.out, cell_near hx7 ne7.out⟩)
            (first
              | (go_at_call_of 46 y15; refine (later_old _ _ _ l15).mono ?_; rintro e w' ⟨rfl, rfl⟩)
              | (go_at_call_of 46 y2; refine (later_new _ _ _ l2).mono ?_; rintro e w' ⟨rfl, rfl⟩))
          go_wp2_with fail
          go_roundw
          case rel =>
            refine ⟨n + 1, i + 1, by omega, by have e := HI2.out; show _ = _; omega, by go_num, ?_, ?_⟩
            · have h := hcw2.out
              rw [← HV.out, ← HI2.out] at h
              exact h
            · have h := hon2.out
              rw [← HV.out, ← HI2.out] at h
              exact h.drew
          case measure => simp [intOf]; omega
        · obtain rfl : n = 48 := by omega
          have hi := HI2.out
          have hi64 : ¬ i < 64 := by omega
          clear hi
          have hcf : Cw wr (w.heap.size + 1) cs 76 := by
            rw [HCS.out]
            have e : growW WS 48 ++ zeroW (48 - 48) = schedN bs := by rw [HWS.out]; simp [zeroW, schedN]
            rw [e] at hcw; exact hcw
          have hqf : Cw wr w.heap.size os 76 := hon.cw hq2 (by omega)
          have B3 : Below w.heap.size w wr := B2.trans (hon.below (by omega))
          clear hcw hon
          go_wp2_with (first
            | (refine wpList_load_rw rfl 76 (.tmp 3) rfl (w.heap.size + 1) cs 76 _ rfl hcf Try.underlying76 rfl HIs ?_)
            | (refine wpList_store_rw rfl 76 (.tmp 2) (.tmp 67) rfl w.heap.size os cs 76 rfl rfl hqf HI HL HCs.out ?_; intro W3 hc3 O3))
          exact ret_row rfl rfl rfl hc3 Try.underlying76 rfl HIs ⟨rfl, B3.trans (O3.below (Nat.le_refl _))⟩
end Go.Proofs.Ytkfnmdhhiigceaa.Dg
