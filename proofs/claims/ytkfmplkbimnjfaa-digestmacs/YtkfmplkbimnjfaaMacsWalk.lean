/-
  The law DigestMacs, walked.
-/
import Derived.Test.YtkfmplkbimnjfaaSumsWalk
import Derived.Test.YtkfmplkbimnjfaaRMac
import Derived.Test.YtkfmplkbimnjfaaMacP
import Derived.Deep.RegionHeld3
namespace Go.Proofs.Ytkfmplkbimnjfaa
open Go.RowKit
set_option maxHeartbeats 2000000 in
theorem macs_walk (vk v : Value) (key bs : List Int) (w : World) (hk : Bs w vk key) (hb : Bs w v bs) (hky : Byt key) (hby : Byt bs) (hkr : key.length ≤ 140737488355328) (hbr : bs.length ≤ 140737488355328) :
    Calls Try.prog 5 #[vk, v] w fun e w' => e = .returned (.bool true) ∧ Below w.heap.size w w' := by
  obtain ⟨a0, c0, hv0, _⟩ := hk.len
  obtain ⟨a1, c1, hv1, _⟩ := hb.len
  subst hv0; subst hv1
  have hwr : IntKind.i64.wrap ((key.length : Int) + (bs.length : Int)) = (key.length : Int) + (bs.length : Int) := wrap64_small _ (by omega) (by omega)
  by_cases hs : (1500 : Int) < (key.length : Int) + (bs.length : Int)
  · go_enter Try.func5, Try.ntmps5
    go_wp2
    go_ret
    exact ⟨rfl, Below.refl _ _⟩
  · have hkn : key.length ≤ 100000 := by omega
    have hbn : bs.length ≤ 100000 := by omega
    have heq : ∀ W, (Op.equalIn 10000 25 (.agg (cellsOf (macN key bs)).toArray) (.agg (cellsOf (macN key bs)).toArray)).run Try.prog W = .ok true W := fun W => by rw [run_equal_hash _ _ (show (macN key bs).length = 32 from shaN_length _) (show (macN key bs).length = 32 from shaN_length _), eqB_true rfl]
    go_enter Try.func5, Try.ntmps5
    go_wp2_with fail
    refine (roomy_any _ key w hk (by omega)).mono ?_
    rintro e W1 ⟨ao1, cap1, rfl, hr1, B1⟩
    have hk1 := hk.below B1 (Nat.le_refl _)
    have hb1 := hb.below B1 (Nat.le_refl _)
    clear hk hb
    go_wp2_with fail
    refine (roomy_any _ bs W1 hb1 (by omega)).mono ?_
    rintro e W2 ⟨ao2, cap2, rfl, hq2, B2⟩
    have hk2 := hk1.below B2 (Nat.le_refl _)
    have hb2 := hb1.below B2 (Nat.le_refl _)
    have hr2 := hr1.below B2 (Nat.le_refl _)
    have BB2 := B1.trans (B2.mono B1.size)
    have hcap1 : (key.length : Int) ≤ (cap1 : Int) := by have := cut_cap hr2; omega
    have hcapm1 : (cap1 : Int) ≤ 9223372036854775807 := by have := cut_max hr2; unfold maxLen at this; omega
    have hcap2 : (bs.length : Int) ≤ (cap2 : Int) := by have := cut_cap hq2; omega
    have hcapm2 : (cap2 : Int) ≤ 9223372036854775807 := by have := cut_max hq2; unfold maxLen at this; omega
    clear hk1 hb1 hr1 B1 B2
    generalize hmc : macN key bs = mc at heq
    have HMC := hid_into hmc
    clear hmc
    go_wp2_with fail
    go_region_held3 (fun _ => True) (exact trivial)
      (first
        | (go_at_call 16; refine (mac_any _ _ key bs _ (by exact cut_one hr2) (by exact cut_one hq2) hky hby hkn hbn).mono ?_; rintro e W3 ⟨rfl, B3⟩; replace B3 : Below W2.heap.size W2 W3 := ⟨B3.os, B3.tape, B3.output, B3.size, B3.block⟩; rw [show macN key bs = mc from HMC.out])
        | (go_at_call 17; refine (rmac_any _ _ key bs _ (by exact hk2.below B3 (Nat.le_refl _)) (by exact hb2.below B3 (Nat.le_refl _)) hky hby hkn hbn).mono ?_; rintro e W4 ⟨rfl, B4⟩; have B34 : Below W2.heap.size W2 W4 := B3.trans (B4.mono B3.size); have hk4 := hk2.below B34 (Nat.le_refl _); have hb4 := hb2.below B34 (Nat.le_refl _); have hr4 := hr2.below B34 (Nat.le_refl _); have hq4 := hq2.below B34 (Nat.le_refl _); have BB4 := BB2.trans (B34.mono BB2.size); clear B34 B3 B4 hk2 hb2 hr2 hq2 BB2; rw [show macN key bs = mc from HMC.out])
        | (go_at_call 10; refine (stands_any ao1 cap1 _ key W4 hr4 hk4).mono ?_; rintro e W5 ⟨rfl, hs5⟩; have hb5 := hs5.bs hb4; have hq5 := hs5.bs hq4; have BB5 := BB4.trans (hs5.below _); clear hr4 hk4 hb4 hq4 BB4 hs5)
        | (go_at_call 10; refine (stands_any ao2 cap2 _ bs W5 hq5 hb5).mono ?_; rintro e W6 ⟨rfl, hs6⟩; have BB6 := BB5.trans (hs6.below _); clear hb5 hq5 BB5 hs6)
        | (go_at_call 11; refine (known_any W6).mono ?_; rintro e W7 ⟨rfl, B7⟩; have BB7 := BB6.trans (B7.mono BB6.size); clear BB6 B7))
    go_wp2_with fail
    go_ret
    exact ⟨rfl, BB7⟩
end Go.Proofs.Ytkfmplkbimnjfaa
