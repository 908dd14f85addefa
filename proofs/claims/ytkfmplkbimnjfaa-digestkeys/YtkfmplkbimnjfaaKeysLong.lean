/-
  The law DigestKeys, walked where the key has more than 64 bytes (or key and bytes are too many together: not here).
-/
import Derived.Test.YtkfmplkbimnjfaaKnown
namespace Go.Proofs.Ytkfmplkbimnjfaa
open Go.RowKit
theorem keyN_long {key : List Int} (h : 64 < key.length) : keyN (shaN key) = keyN key := by
  unfold keyN
  rw [if_neg (by rw [shaN_length]; decide), if_pos h, shaN_length]
theorem keyN_pad {key : List Int} (n : Nat) (h : key.length + n ≤ 64) : keyN (key ++ List.replicate n 0) = keyN key := by
  unfold keyN
  rw [if_neg (by rw [List.length_append, List.length_replicate]; omega), if_neg (by omega), List.length_append, List.length_replicate, List.append_assoc, List.replicate_append_replicate]
  congr 2
  omega
theorem macN_key {k1 k2 : List Int} (h : keyN k1 = keyN k2) (bs : List Int) : macN k1 bs = macN k2 bs := by unfold macN; rw [h]
theorem macN_length (key bs : List Int) : (macN key bs).length = 32 := shaN_length _
set_option maxHeartbeats 800000 in
theorem keys_long (vk v : Value) (key bs : List Int) (n : Int) (w : World) (hk : Bs w vk key) (hb : Bs w v bs) (hky : Byt key) (hby : Byt bs) (hs : ¬ (1500 : Int) < (key.length : Int) + (bs.length : Int)) (h64 : (64 : Int) < (key.length : Int)) :
    Calls Try.prog 6 #[vk, v, .int .i64 n] w fun e w' => e = .returned (.bool true) ∧ Below w.heap.size w w' := by
  obtain ⟨a0, c0, hv0, _⟩ := hk.len
  obtain ⟨a1, c1, hv1, _⟩ := hb.len
  subst hv0; subst hv1
  have hkn : key.length ≤ 100000 := by omega
  have hbn : bs.length ≤ 100000 := by omega
  obtain ⟨zl, hzl⟩ : ∃ zl, zl = cellsOf (zeroB 32) := ⟨_, rfl⟩
  have ZL : Hid ((Try.prog.info? 25).bind (·.zero) = some (.agg zl.toArray)) := by rw [hzl]; exact Try.zero25
  have HIz : Hid ((Try.prog.info? 25).map (·.size) = some zl.length) := by rw [hzl]; exact hsB Try.size25 (zeroB_len 32)
  have HZL := hid_into hzl
  clear hzl
  have HMK := hid_into (macN_key (keyN_long (key := key) (by omega)) bs)
  have heq : ∀ W, (Op.equalIn 10000 25 (.agg (cellsOf (macN key bs)).toArray) (.agg (cellsOf (macN key bs)).toArray)).run Try.prog W = .ok true W := fun W => by rw [run_equal_hash _ _ (macN_length key bs) (macN_length key bs), eqB_true rfl]
  go_enter Try.func6, Try.ntmps6
  go_wp2_with fail
  refine (sum_any _ key w hk hky (by omega)).mono ?_
  rintro e W1 ⟨rfl, B1⟩
  have HSL := hid_into (shaN_length key)
  have HSB := hid_into (shaN_byt key)
  generalize shaN key = sh at *
  have HIs := hsB (ws := sh) Try.size25 HSL.out
  have HLs : Hid (zl.length = (cellsOf sh).length) := by rw [HZL.out]; exact hlB (by rw [zeroB_len, HSL.out])
  have HCs := hid_into (cellsOf_one sh)
  go_wp2_with (first
    | (refine wpList_alloc_row rfl 25 rfl zl ZL.out ?_; intro W2 hh2 B2 HS2)
    | (refine wpList_store_rw rfl 25 (.tmp 7) (.tmp 15) rfl W1.heap.size zl (cellsOf sh) 25 rfl rfl hh2 HIz HLs HCs.out ?_; intro W3 hh3 O3))
  have BB3 : Below w.heap.size w W3 := (B1.trans (B2.mono B1.size)).trans (O3.below B1.size)
  have hbh := hh3.bs (by rw [HSL.out]; unfold maxLen; omega)
  rw [HSL.out] at hbh
  have hk3 := hk.below BB3 (Nat.le_refl _)
  have hb3 := hb.below BB3 (Nat.le_refl _)
  obtain ⟨hbk, hhb⟩ : ∃ x, x = W1.heap.size := ⟨_, rfl⟩
  rw [← hhb] at hbh
  simp only [← hhb]
  clear B1 B2 HS2 hh2 O3 hh3 hhb
  refine wp_region_any (by kernel_rfl) ?_
  change wpAny _ _ _ _ _ _ _ (World.drew _)
  refine wpAny_take (i := 0) (v := .slice a0 key.length c0) rfl (by kernel_rfl) (by kernel_rfl) (by kernel_rfl) (fun _ _ _ h => h) (Or.inl ⟨by rfl, by intro w; go_simp⟩) ?_
  refine wpAny_take (i := 1) (v := .slice a1 bs.length c1) rfl (by kernel_rfl) (by kernel_rfl) (by kernel_rfl) (fun _ _ _ h => h) (Or.inl ⟨by rfl, by intro w; go_simp⟩) ?_
  refine wpAny_take (i := 3) (v := .slice (some ⟨hbk, 0, none⟩) 32 32) rfl (by kernel_rfl) (by kernel_rfl) (by kernel_rfl) (fun _ _ _ h => h) (Or.inl ⟨by rfl, by intro w; go_simp⟩) ?_
  refine wpAny_take (i := 4) (v := .slice a1 bs.length c1) rfl (by kernel_rfl) (by kernel_rfl) (by kernel_rfl) (fun _ _ _ h => h) (Or.inl ⟨by rfl, by intro w; go_simp⟩) ?_
  refine wpAny_ready (rs := [2]) (by kernel_rfl) (by simp) ?_
  refine AllReady.cons rfl (fun K hK => ?_) AllReady.nil
  · skip
    go_simp
    refine (mac_any _ _ key bs _ (by exact hk3) (by exact hb3) hky hby hkn hbn).mono ?_
    rintro e W4 ⟨rfl, B4⟩
    dsimp only
    refine hK _ _ ?_
    clear hK K
    replace B4 : Below W3.heap.size W3 W4 := ⟨B4.os, B4.tape, B4.output, B4.size, B4.block⟩
    have h4 := hbh.below B4 (Nat.le_refl _)
    have hb4 := hb3.below B4 (Nat.le_refl _)
    have BB4 := BB3.trans (B4.mono BB3.size)
    refine wpAny_ready (rs := [5]) (by kernel_rfl) (by simp) ?_
    refine AllReady.cons rfl (fun K hK => ?_) AllReady.nil
    go_simp
    refine (mac_any _ _ sh bs _ (by exact h4) (by exact hb4) HSB.out hby (by rw [HSL.out]; decide) hbn).mono ?_
    rintro e W5 ⟨rfl, B5⟩
    dsimp only
    refine hK _ _ ?_
    clear hK K
    have BB5 := BB4.trans (B5.mono BB4.size)
    rw [HMK.out]
    refine wpAny_take (i := 6) (v := .bool true) rfl (by kernel_rfl) (by kernel_rfl) (by kernel_rfl) (fun _ _ _ h => h) (Or.inl ⟨by rfl, by intro w; go_simp⟩) ?_
    refine wpAny_take (i := 7) (v := .bool true) rfl (by kernel_rfl) (by kernel_rfl) (by kernel_rfl) (fun _ _ _ h => h) (Or.inl ⟨by rfl, by intro w; go_simp⟩) ?_
    refine wpAny_ready (rs := [8]) (by kernel_rfl) (by simp) ?_
    refine AllReady.cons rfl (fun K hK => ?_) AllReady.nil
    go_simp
    refine (known_any W5).mono ?_
    rintro e W6 ⟨rfl, B6⟩
    dsimp only
    refine hK _ _ ?_
    clear hK K
    have BB6 := BB5.trans (B6.mono BB5.size)
    refine wpAny_take (i := 9) (v := .bool true) rfl (by kernel_rfl) (by kernel_rfl) (by kernel_rfl) (fun _ _ _ h => h) (Or.inl ⟨by rfl, by intro w; go_simp⟩) ?_
    refine wpAny_ready (rs := [10]) (by kernel_rfl) (by simp) ?_
    refine AllReady.cons rfl (fun K hK => ?_) AllReady.nil
    go_simp
    refine hK _ _ ?_
    clear hK K
    refine wpAny_done (by kernel_rfl) ?_ _
    go_wp2_with fail
    go_ret
    exact ⟨rfl, BB6⟩
end Go.Proofs.Ytkfmplkbimnjfaa
