/-
  The law DigestKeys, walked: a key of not more than 64 bytes; and the whole.
-/
import Derived.Test.YtkfmplkbimnjfaaKeysLong
import Derived.Test.YtkfmplkbimnjfaaZeros
namespace Go.Proofs.Ytkfmplkbimnjfaa
open Go.RowKit
theorem and63 (n : Int) : ∃ m : Nat, m ≤ 63 ∧ bits .and .i64 n 63 = (m : Int) := by
  refine ⟨(BitVec.ofInt 64 n &&& BitVec.ofInt 64 63).toNat, ?_, ?_⟩
  · rw [BitVec.toNat_and]
    exact Nat.le_trans Nat.and_le_right (by decide)
  · have h : (BitVec.ofInt 64 n &&& BitVec.ofInt 64 63).toNat ≤ 63 := by
      rw [BitVec.toNat_and]
      exact Nat.le_trans Nat.and_le_right (by decide)
    show IntKind.i64.wrap ((BitVec.ofInt 64 n &&& BitVec.ofInt 64 63).toNat : Int) = _
    rw [wrap64_small _ (by omega) (by omega)]
theorem Byt.zeros (n : Nat) : Byt (zeroB n) := fun z hz => by have := (List.mem_replicate.1 hz).2; omega
set_option maxHeartbeats 800000 in
theorem keys_short (vk v : Value) (key bs : List Int) (n : Int) (w : World) (hk : Bs w vk key) (hb : Bs w v bs) (hky : Byt key) (hby : Byt bs) (hs : ¬ (1500 : Int) < (key.length : Int) + (bs.length : Int)) (h64 : ¬ (64 : Int) < (key.length : Int)) :
    Calls Try.prog 6 #[vk, v, .int .i64 n] w fun e w' => e = .returned (.bool true) ∧ Below w.heap.size w w' := by
  obtain ⟨a0, c0, hv0, _⟩ := hk.len
  obtain ⟨a1, c1, hv1, _⟩ := hb.len
  subst hv0; subst hv1
  have hkn : key.length ≤ 100000 := by omega
  have hbn : bs.length ≤ 100000 := by omega
  obtain ⟨zl, hzl⟩ : ∃ zl, zl = cellsOf (zeroB 32) := ⟨_, rfl⟩
  have ZL : Hid ((Try.prog.info? 25).bind (·.zero) = some (.agg zl.toArray)) := by rw [hzl]; exact Try.zero25
  have HIz : Hid ((Try.prog.info? 25).map (·.size) = some zl.length) := by rw [hzl]; exact hsB Try.size25 (zeroB_len 32)
  have HZL := hid_into hzl
  clear hzl
  obtain ⟨m, hm, hand⟩ := and63 n
  obtain ⟨d, hd⟩ : ∃ d, d = 65 - key.length := ⟨_, rfl⟩
  have hd1 : IntKind.i64.wrap (65 - (key.length : Int)) = (d : Int) := by rw [wrap64_small _ (by omega) (by omega)]; omega
  have hd2 : (65 - (key.length : Int)) = (d : Int) := by omega
  have hd0 : ¬ (d : Int) = 0 := by omega
  obtain ⟨r, hr⟩ : ∃ r, r = m % d := ⟨_, rfl⟩
  have hrl : r < d := by rw [hr]; exact Nat.mod_lt _ (by omega)
  have hr1 : (m : Int) % (d : Int) = (r : Int) := by rw [hr]; rfl
  have HPAD := hid_into (macN_key (keyN_pad (key := key) r (by omega)) bs)
  have HRL : Hid (key.length + r ≤ 64) := by show _ ≤ _; omega
  have heq : ∀ W, (Op.equalIn 10000 25 (.agg (cellsOf (macN key bs)).toArray) (.agg (cellsOf (macN key bs)).toArray)).run Try.prog W = .ok true W := fun W => by rw [run_equal_hash _ _ (macN_length key bs) (macN_length key bs), eqB_true rfl]
  clear hd hr hrl hm
  go_enter Try.func6, Try.ntmps6
  go_wp2_with fail
  refine (sum_any _ key w hk hky (by omega)).mono ?_
  rintro e W1 ⟨rfl, B1⟩
  have HSL := hid_into (shaN_length key)
  generalize shaN key = sh at *
  have HLs : Hid (zl.length = (cellsOf sh).length) := by rw [HZL.out]; exact hlB (by rw [zeroB_len, HSL.out])
  have HCs := hid_into (cellsOf_one sh)
  go_wp2_with (first
    | (refine wpList_alloc_row rfl 25 rfl zl ZL.out ?_; intro W2 hh2 B2 HS2)
    | (refine wpList_store_rw rfl 25 (.tmp 7) (.tmp 15) rfl W1.heap.size zl (cellsOf sh) 25 rfl rfl hh2 HIz HLs HCs.out ?_; intro W3 hh3 O3))
  have BB3 : Below w.heap.size w W3 := (B1.trans (B2.mono B1.size)).trans (O3.below B1.size)
  have hk3 := hk.below BB3 (Nat.le_refl _)
  have hb3 := hb.below BB3 (Nat.le_refl _)
  clear B1 B2 HS2 hh2 O3 hh3
  refine (mac_any _ _ key bs W3 hk3 hb3 hky hby hkn hbn).mono ?_
  rintro e W4 ⟨rfl, B4⟩
  have BB4 := BB3.trans (B4.mono BB3.size)
  have hk4 := hk3.below B4 (Nat.le_refl _)
  have hb4 := hb3.below B4 (Nat.le_refl _)
  have ho0 : Ow (W4.alloc (.cells #[] 5)) W4.heap.size (.slice (some ⟨W4.heap.size, 0, none⟩) 0 0) [] := Ow_of_block (heap_alloc_new W4 _) (by simp) (Nat.le_refl _)
  have hk0 : Bs (W4.alloc (.cells #[] 5)) (.slice a0 key.length c0) key := hk4.below ((Below.refl _ _).alloc (Nat.le_refl _) _) (Nat.le_refl _)
  clear BB3 B4 hk3 hb3
  go_wp2_with (first
    | (at_builtin; refine wpList_append_bs _ rfl (.tmp 38) (.tmp 39) rfl W4.heap.size _ [] rfl ho0 _ key rfl hk0 (by simp; omega) (by simp) ?_; intro ao5 cap5 W5 ho5 hg5 hat5; simp only [List.length_nil, Nat.zero_add, List.nil_append] at ho5 ⊢; have B5 : Below W4.heap.size W4 W5 := ((Below.refl _ W4).alloc (Nat.le_refl _) _).trans (grown_below hg5 ho0 (by simp)); obtain ⟨ao6, cap6, W6, hrun6, ho6, B6⟩ := run_append_zeros W5 W4.heap.size ao5 cap5 key ho5 r (by have := HRL.out; omega) B5.size; replace hrun6 := hid_into hrun6; clear hg5 hat5)
    | (at_builtin; refine Great.wpList_runTo rfl (some 42) rfl (.slice ao6 (key.length + r) cap6) W6 (exec_append (.tmp 40) (.tmp 41) 22 3 rfl (.slice ao5 key.length cap5) (.int .i64 (r : Int)) _ _ _ rfl rfl hrun6.out) ?_))
  have hz6 : Bs W6 (.slice ao6 (key.length + r) cap6) (key ++ zeroB r) := by have h : Ow W6 W4.heap.size (.slice ao6 (key ++ zeroB r).length cap6) (key ++ zeroB r) := (by rw [List.length_append, zeroB_len]; exact ho6); have e := h.bs; rw [List.length_append, zeroB_len] at e; exact e
  have hb6 := hb4.below (B5.trans B6) (Nat.le_refl _)
  have BB6 := BB4.trans ((B5.trans B6).mono BB4.size)
  have HLZ : Hid ((key ++ zeroB r).length ≤ 100000) := by show _ ≤ _; rw [List.length_append, zeroB_len]; have := HRL.out; omega
  refine (mac_any _ _ (key ++ zeroB r) bs W6 hz6 hb6 (hky.append (Byt.zeros r)) hby HLZ.out hbn).mono ?_
  rintro e W7 ⟨rfl, B7⟩
  have BB7 := BB6.trans (B7.mono BB6.size)
  rw [show macN (key ++ zeroB r) bs = macN key bs from HPAD.out]
  clear hz6 hb6 BB6 B7 ho6 B6 B5 ho5 ho0 hk0 hk4 hb4 BB4 HPAD
  generalize macN key bs = mc at *
  go_wp2_with fail
  refine (known_any W7).mono ?_
  rintro e W8 ⟨rfl, B8⟩
  have BB8 := BB7.trans (B8.mono BB7.size)
  go_wp2_with fail
  go_ret
  exact ⟨rfl, BB8⟩
theorem keys_walk (vk v : Value) (key bs : List Int) (n : Int) (w : World) (hk : Bs w vk key) (hb : Bs w v bs) (hky : Byt key) (hby : Byt bs) (hkr : key.length ≤ 140737488355328) (hbr : bs.length ≤ 140737488355328) :
    Calls Try.prog 6 #[vk, v, .int .i64 n] w fun e w' => e = .returned (.bool true) ∧ Below w.heap.size w w' := by
  by_cases hs : (1500 : Int) < (key.length : Int) + (bs.length : Int)
  · obtain ⟨a0, c0, hv0, _⟩ := hk.len
    obtain ⟨a1, c1, hv1, _⟩ := hb.len
    subst hv0; subst hv1
    have hwr : IntKind.i64.wrap ((key.length : Int) + (bs.length : Int)) = (key.length : Int) + (bs.length : Int) := wrap64_small _ (by omega) (by omega)
    go_enter Try.func6, Try.ntmps6
    go_wp2
    go_ret
    exact ⟨rfl, Below.refl _ _⟩
  · by_cases h64 : (64 : Int) < (key.length : Int)
    · exact keys_long vk v key bs n w hk hb hky hby hs h64
    · exact keys_short vk v key bs n w hk hb hky hby hs h64
end Go.Proofs.Ytkfmplkbimnjfaa
