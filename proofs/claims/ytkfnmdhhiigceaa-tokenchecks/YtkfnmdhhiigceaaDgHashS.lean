/-
  digest.hash, by contract: the state as a digest.
-/
import Derived.Test.YtkfnmdhhiigceaaDgStir
import Derived.BigRegion
namespace Go.Proofs.Ytkfnmdhhiigceaa.Dg
open Go.RowKit
theorem be4_set (A : List Int) (x : Nat) (k : Nat) (hA : A.length = 4 * k) (hk : k < 8) : (((((A ++ zeroB (32 - 4 * k)).set (4 * k) ((x / 16777216 % 256 : Nat) : Int)).set (4 * k + 1) ((x / 65536 % 256 : Nat) : Int)).set (4 * k + 2) ((x / 256 % 256 : Nat) : Int)).set (4 * k + 3) ((x % 256 : Nat) : Int)) = (A ++ be4 x) ++ zeroB (32 - 4 * (k + 1)) := by
  have e : zeroB (32 - 4 * k) = 0 :: 0 :: 0 :: 0 :: zeroB (32 - 4 * (k + 1)) := by
    rw [show 32 - 4 * k = (32 - 4 * (k + 1)) + 4 by omega]; rfl
  rw [e]
  simp only [List.set_append_right _ _ (show A.length ≤ 4 * k by omega), List.set_append_right _ _ (show A.length ≤ 4 * k + 1 by omega), List.set_append_right _ _ (show A.length ≤ 4 * k + 2 by omega), List.set_append_right _ _ (show A.length ≤ 4 * k + 3 by omega)]
  rw [hA, Nat.sub_self, show 4 * k + 1 - 4 * k = 1 by omega, show 4 * k + 2 - 4 * k = 2 by omega, show 4 * k + 3 - 4 * k = 3 by omega, List.append_assoc]
  rfl
def hashK (ws : List Nat) (k : Nat) : List Int := (ws.take k).flatMap be4
theorem hashK_len (ws : List Nat) (k : Nat) (h : k ≤ ws.length) : (hashK ws k).length = 4 * k := by
  induction k with
  | zero => rfl
  | succ k ih =>
    unfold hashK at *
    rw [List.take_succ_eq_append_getElem (by omega), List.flatMap_append, List.length_append, ih (by omega)]
    simp [be4]; omega
theorem hashK_succ (ws : List Nat) (k : Nat) (h : k < ws.length) : hashK ws (k + 1) = hashK ws k ++ be4 (ws.getD k 0) := by
  unfold hashK
  rw [List.take_succ_eq_append_getElem h, List.flatMap_append]
  simp [List.getD, h]
set_option maxRecDepth 20000 in
set_option maxHeartbeats 1600000 in
theorem hash_any (s : S8) (w : World) (hok : s.ok) :
    Calls Try.prog 36 #[.agg (cellsW s.list).toArray] w fun e w' => e = .returned (.agg (cellsOf s.hash).toArray) ∧ Below w.heap.size w w' := by
  obtain ⟨ws, hws⟩ : ∃ ws, ws = s.list := ⟨_, rfl⟩
  obtain ⟨fl, hfl⟩ : ∃ fl, fl = cellsOf s.hash := ⟨_, rfl⟩
  obtain ⟨zl, hzl⟩ : ∃ zl, zl = cellsOf (zeroB 32) := ⟨_, rfl⟩
  rw [← hws, ← hfl]
  have HWL : Hid (ws.length = 8) := by rw [hws]; rfl
  have HWW : Hid (Wds ws) := by rw [hws]; exact hok.wds
  have HFL : Hid (fl = cellsOf (hashK ws 8)) := by rw [hfl, hws]; rfl
  have ZL : Hid ((Try.prog.info? 48).bind (·.zero) = some (.agg zl.toArray)) := by rw [hzl]; exact Try.zero48
  have HIz : Hid ((Try.prog.info? 48).map (·.size) = some zl.length) := by rw [hzl]; exact hsB Try.size48 (zeroB_len 32)
  have HIf : Hid ((Try.prog.info? 48).map (·.size) = some fl.length) := by rw [hfl]; exact hsB Try.size48 rfl
  have HLf : Hid (zl.length = fl.length) := by rw [hzl, hfl]; exact hlB rfl
  have HCf : Hid (∀ v ∈ fl, v.oneCell' = true) := by rw [hfl]; exact cellsOf_one _
  have HI8 : Hid ((Try.prog.info? 66).map (·.size) = some (cellsW ws).length) := by rw [hws]; exact hsW Try.size66 rfl
  have HZL := hid_into hzl
  clear hws hfl hzl
  go_enter Try.func36, Try.ntmps36
  refine wp_seq (wp_region_lit (wpList_box_row rfl 66 (.tmp 0) rfl (cellsW ws) rfl ?_))
  intro W1 hc1 B1 HS1
  refine wpList_alloc_row rfl 48 rfl zl ZL.out ?_
  intro W2 hc2 B2 HS2
  refine wpList_nil ?_
  have hd2 : Cw W2 w.heap.size (cellsW ws) 66 := hc1.below B2 hc1.lt
  have BB2 : Below w.heap.size w W2 := B1.trans (B2.mono (by rw [HS1.out]; omega))
  rw [HS1.out] at hc2 ⊢
  have HS2' : W2.heap.size = w.heap.size + 2 := by rw [HS2.out, HS1.out]
  clear hc1 B1 B2 HS1 HS2 W1
  refine wp_seq (wp_region_lit (wpList_alloc_row rfl 48 rfl zl ZL.out ?_))
  intro W3 hc3 B3 HS3
  refine wpList_nil ?_
  rw [HS2'] at hc3 B3 ⊢
  have hd3 := hd2.below B3 (by omega)
  have hq3 := hc2.below B3 (by omega)
  have BB3 : Below w.heap.size w W3 := BB2.trans (B3.mono (by omega))
  clear hd2 hc2 BB2 B3 HS3 HS2'
  rw [HZL.out] at hc3
  go_wp2_with (refine wpList_load_rw rfl 66 (.tmp 1) rfl w.heap.size (cellsW ws) 66 _ rfl hd3 Try.underlying66 rfl HI8 ?_)
  go_loopw [7] (fun iv wx => ∃ k : Nat, k ≤ 8 ∧ iv = .int .i64 k ∧ Cw wx (w.heap.size + 2) (cellsOf (hashK ws k ++ zeroB (32 - 4 * k))) 48 ∧ Only (w.heap.size + 2) W3 wx) (fun iv _ => 8 - (intOf iv).toNat)
  case atStart => exact ⟨0, Nat.zero_le _, rfl, hc3, Only.refl _ _⟩
  case round =>
    clear hc3
    obtain ⟨k, hk, rfl, hcw, hon⟩ := hrel
    by_cases hk8 : k < 8
    · have hAl := hashK_len ws k (by rw [HWL.out]; omega)
      have hll : (hashK ws k ++ zeroB (32 - 4 * k)).length = 32 := by rw [List.length_append, hAl, zeroB_len]; omega
      have hix := fun W => run_index_w W ws k 8 66 Try.underlying66 hk8 HWL.out
      have hxl := HWW.out.get k
      have HSUC := hid_into (hashK_succ ws k (by rw [HWL.out]; exact hk8))
      have HSET := hid_into (be4_set (hashK ws k) (ws.getD k 0) k hAl hk8)
      have c0 := hcw.byte (4 * k) (by rw [hll]; omega)
      have c1 := hcw.byte (4 * k + 1) (by rw [hll]; omega)
      have c2 := hcw.byte (4 * k + 2) (by rw [hll]; omega)
      have c3 := hcw.byte (4 * k + 3) (by rw [hll]; omega)
      have f0 := hcw.frozen (4 * k)
      have f1 := hcw.frozen (4 * k + 1)
      have f2 := hcw.frozen (4 * k + 2)
      have f3 := hcw.frozen (4 * k + 3)
      have i0 : (4 * k : Int) < 32 := by omega
      have i3 : (4 * (k : Int) + 3) < 32 := by omega
      have hcw' := (((hcw.setB (4 * k) ((ws.getD k 0 / 16777216 % 256 : Nat) : Int)).setB (4 * k + 1) ((ws.getD k 0 / 65536 % 256 : Nat) : Int)).setB (4 * k + 2) ((ws.getD k 0 / 256 % 256 : Nat) : Int)).setB (4 * k + 3) ((ws.getD k 0 % 256 : Nat) : Int)
      rw [HSET.out, ← HSUC.out] at hcw'
      have HCW := hid_into hcw'
      have HON := hid_into (fun a b c d => (((hon.trans (Only.set (w.heap.size + 2) (4 * k) wr a)).trans (Only.set (w.heap.size + 2) (4 * k + 1) _ b)).trans (Only.set (w.heap.size + 2) (4 * k + 2) _ c)).trans (Only.set (w.heap.size + 2) (4 * k + 3) _ d))
      generalize ws.getD k 0 = x at *
      clear hcw hon hAl hll HSET HSUC hcw'
      go_wp2_with fail
      go_roundw
      case rel =>
        refine ⟨k + 1, by omega, by go_num, ?_, HON.out _ _ _ _⟩
        have h := HCW.out
        have e0 : ((x / 16777216 % 256 : Nat) : Int) = (x : Int) / 16777216 := by omega
        have e1 : ((x / 65536 % 256 : Nat) : Int) = (x : Int) / 65536 % 256 := by omega
        have e2 : ((x / 256 % 256 : Nat) : Int) = (x : Int) / 256 % 256 := by omega
        have e3 : ((x % 256 : Nat) : Int) = (x : Int) % 256 := by omega
        rw [e0, e1, e2, e3] at h
        exact h
      case measure => simp [intOf]; omega
    · have hcf : Cw wr (w.heap.size + 2) fl 48 := by
        rw [HFL.out]
        have e : hashK ws k ++ zeroB (32 - 4 * k) = hashK ws 8 := by
          obtain rfl : k = 8 := by omega
          simp [zeroB]
        rw [e] at hcw; exact hcw
      have hqf : Cw wr (w.heap.size + 1) zl 48 := hon.cw hq3 (by omega)
      have BBf : Below w.heap.size w wr := BB3.trans (hon.below (by omega))
      clear hcw hq3 hd3
      go_wp2_with (first
        | (refine wpList_load_rw rfl 48 (.tmp 3) rfl (w.heap.size + 2) fl 48 _ rfl hcf Try.underlying48 rfl HIf ?_)
        | (refine wpList_store_rw rfl 48 (.tmp 2) (.tmp 38) rfl (w.heap.size + 1) zl fl 48 rfl rfl hqf HIz HLf HCf.out ?_; intro WA hcA OA))
      exact ret_row rfl rfl rfl hcA Try.underlying48 rfl HIf ⟨rfl, BBf.trans (OA.below (by omega))⟩
end Go.Proofs.Ytkfnmdhhiigceaa.Dg
