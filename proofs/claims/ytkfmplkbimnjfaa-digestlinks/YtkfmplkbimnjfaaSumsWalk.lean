/-
  The law DigestSums, walked: the law's helpers roomy and stands, and the law itself.
-/
import Derived.Test.YtkfmplkbimnjfaaKnown
import Derived.Test.YtkfmplkbimnjfaaRSum
namespace Go.Proofs.Ytkfmplkbimnjfaa
open Go.RowKit
theorem ow_cap {w : World} {base : Nat} {ao : Option Addr} {zs : List Int} {cap : Nat} (h : Ow w base (.slice ao zs.length cap) zs) : zs.length ≤ cap := by
  obtain ⟨a1, c1, hh, hj⟩ := h.form
  simp only [Value.slice.injEq] at hh
  obtain ⟨_, _, rfl⟩ := hh
  rcases hj with ⟨_, _, h0⟩ | ⟨_, _, _, _, _, _, h4, _⟩
  · rw [h0]; exact Nat.zero_le _
  · exact h4
set_option maxHeartbeats 800000 in
theorem roomy_any (v : Value) (bs : List Int) (w : World) (hb : Bs w v bs) (hn : bs.length ≤ 1000000) :
    Calls Try.prog 7 #[v] w fun e w' => ∃ ao cap, e = .returned (.slice ao (bs.length + 1) cap) ∧ Bs w' (.slice ao (bs.length + 1) cap) (bs ++ [171]) ∧ Below w.heap.size w w' := by
  obtain ⟨a0, c0, hv, _⟩ := hb.len
  subst hv
  have ho0 : Ow (w.alloc (.cells #[] 5)) w.heap.size (.slice (some ⟨w.heap.size, 0, none⟩) 0 0) [] := Ow_of_block (heap_alloc_new w _) (by simp) (Nat.le_refl _)
  have hb0 : Bs (w.alloc (.cells #[] 5)) (.slice a0 bs.length c0) bs := hb.below ((Below.refl _ _).alloc (Nat.le_refl _) _) (Nat.le_refl _)
  go_enter Try.func7, Try.ntmps7
  go_wp2_with (first
    | (at_builtin; refine wpList_append_bs _ rfl (.tmp 3) (.tmp 4) rfl w.heap.size _ [] rfl ho0 _ bs rfl hb0 (by simp; omega) (by simp) ?_; intro ao1 cap1 W1 ho1 hg1 hat1; simp only [List.length_nil, Nat.zero_add, List.nil_append] at ho1 ⊢; have B1 : Below w.heap.size w W1 := ((Below.refl _ w).alloc (Nat.le_refl _) _).trans (grown_below hg1 ho0 (by simp)); clear hg1 hat1)
    | (at_builtin; refine wpList_append_bs _ rfl (.tmp 5) (.tmp 6) rfl w.heap.size _ bs rfl (by exact ho1.alloc' _) _ [171] rfl (Bs_one _ _) (by simp; omega) (by rw [World.size_alloc]; have := B1.size; omega) ?_; intro ao2 cap2 W2 ho2 hg2 hat2; have B2 : Below w.heap.size w W2 := (B1.alloc B1.size _).trans (grown_below hg2 (ho1.alloc' _) (by rw [World.size_alloc]; have := B1.size; omega)); clear hg2 hat2)
    | (at_builtin; refine wpList_append_bs _ rfl (.tmp 7) (.tmp 8) rfl w.heap.size _ (bs ++ [171]) rfl (by exact ho2.alloc' _) _ [171] rfl (Bs_one _ _) (by simp; omega) (by rw [World.size_alloc]; have := B2.size; omega) ?_; intro ao3 cap3 W3 ho3 hg3 hat3; have B3 : Below w.heap.size w W3 := (B2.alloc B2.size _).trans (grown_below hg3 (ho2.alloc' _) (by rw [World.size_alloc]; have := B2.size; omega)); clear hg3 hat3; have hfin : Bs W3 (.slice ao3 (bs.length + 1) cap3) (bs ++ [171]) := (by have h := (ow_len ho3).bs.cutL (bs.length + 1) (by simp); have e : (bs ++ [(171 : Int)] ++ [171]).take (bs.length + 1) = bs ++ [171] := (by rw [List.take_append_of_le_length (by simp)]; exact List.take_of_length_le (by simp)); rw [e] at h; exact h); have hcap3 : (bs.length : Int) + 1 ≤ (cap3 : Int) := (by have h := ow_cap (ow_len ho3); simp at h; omega)))
  go_ret
  exact ⟨ao3, cap3, rfl, hfin, B3⟩
theorem cut_form {w : World} {ao : Option Addr} {cap : Nat} {bs : List Int} (h1 : Bs w (.slice ao (bs.length + 1) cap) (bs ++ [171])) : bs.length + 1 ≤ cap ∧ cap ≤ maxLen ∧ Bs w (.slice ao bs.length cap) bs := by
  obtain ⟨b, off, c, hv, hc1, hc2, hcell⟩ := h1.form (by simp)
  have hle : (bs ++ [(171 : Int)]).length = bs.length + 1 := by simp
  rw [hle] at hv hc1 hcell
  simp only [Value.slice.injEq] at hv
  obtain ⟨rfl, _, rfl⟩ := hv
  refine ⟨hc1, hc2, ?_⟩
  have h := Bs.piece (o := 0) (n := bs.length) (c := cap) hle hcell (by omega) (by omega) hc2
  simpa using h
theorem cut_one {w : World} {ao : Option Addr} {cap : Nat} {bs : List Int} (h1 : Bs w (.slice ao (bs.length + 1) cap) (bs ++ [171])) : Bs w (.slice ao bs.length cap) bs := (cut_form h1).2.2
theorem cut_cap {w : World} {ao : Option Addr} {cap : Nat} {bs : List Int} (h1 : Bs w (.slice ao (bs.length + 1) cap) (bs ++ [171])) : bs.length + 1 ≤ cap := (cut_form h1).1
theorem cut_max {w : World} {ao : Option Addr} {cap : Nat} {bs : List Int} (h1 : Bs w (.slice ao (bs.length + 1) cap) (bs ++ [171])) : cap ≤ maxLen := (cut_form h1).2.1
set_option maxHeartbeats 800000 in
theorem stands_any (ao : Option Addr) (cap : Nat) (v : Value) (bs : List Int) (w : World) (h1 : Bs w (.slice ao (bs.length + 1) cap) (bs ++ [171])) (hb : Bs w v bs) :
    Calls Try.prog 10 #[.slice ao (bs.length + 1) cap, v] w fun e w' => e = .returned (.bool true) ∧ Sm w w' := by
  obtain ⟨a0, c0, hv, hm⟩ := hb.len
  subst hv
  unfold maxLen at hm
  obtain ⟨b, off, c, hv, hc1, hc2, hcell⟩ := h1.form (by simp)
  have hle : (bs ++ [(171 : Int)]).length = bs.length + 1 := by simp
  rw [hle] at hv hc1 hcell
  simp only [Value.slice.injEq] at hv
  obtain ⟨rfl, _, rfl⟩ := hv
  have hk := hcell bs.length (by omega)
  rw [show (bs ++ [(171 : Int)]).getD bs.length 0 = 171 by simp [List.getD]] at hk
  have hcut : Bs w (.slice (some ⟨b, off, none⟩) bs.length cap) bs := by
    have h := Bs.piece (o := 0) (n := bs.length) (c := cap) hle hcell (by omega) (by omega) hc2
    simpa using h
  unfold maxLen at hc2
  have hcap : (bs.length : Int) ≤ (cap : Int) := by omega
  have HC := hid_into hcell
  clear hcell hle
  go_enter Try.func10, Try.ntmps10
  go_wp2_with fail
  refine (same_any _ _ bs bs w hcut hb).mono ?_
  rintro e W1 ⟨rfl, hsm⟩
  rw [eqB_true rfl]
  have hk1 : W1.cell? ⟨b, off + bs.length, none⟩ = some (.int .u8 171) := by rw [World.cell?_of_block (w := w) (by rw [hsm.heap])]; exact hk
  go_wp2_with fail
  go_ret
  exact ⟨rfl, hsm⟩
set_option maxHeartbeats 800000 in
theorem sums_walk (v : Value) (bs : List Int) (w : World) (hb : Bs w v bs) (hby : Byt bs) :
    Calls Try.prog 3 #[v] w fun e w' => e = .returned (.bool true) ∧ Below w.heap.size w w' := by
  obtain ⟨a0, c0, hv, hm⟩ := hb.len
  subst hv
  unfold maxLen at hm
  by_cases hbig : (1500 : Int) < (bs.length : Int)
  · go_enter Try.func3, Try.ntmps3
    go_wp2
    go_ret
    exact ⟨rfl, Below.refl _ _⟩
  · have heq : ∀ W, (Op.equalIn 10000 25 (.agg (cellsOf (shaN bs)).toArray) (.agg (cellsOf (shaN bs)).toArray)).run Try.prog W = .ok true W := fun W => by rw [run_equal_hash _ _ (shaN_length bs) (shaN_length bs), eqB_true rfl]
    have hn : bs.length ≤ 1000000 := by omega
    go_enter Try.func3, Try.ntmps3
    go_wp2_with fail
    refine (roomy_any _ bs w hb hn).mono ?_
    rintro e W1 ⟨ao, cap, rfl, hr1, B1⟩
    have hb1 := hb.below B1 (Nat.le_refl _)
    have hcut := cut_one hr1
    have hcap : (bs.length : Int) ≤ (cap : Int) := by have := cut_cap hr1; omega
    have hcapm : (cap : Int) ≤ 9223372036854775807 := by have := cut_max hr1; unfold maxLen at this; omega
    go_wp2_with fail
    refine (sum_any _ bs W1 hcut hby hn).mono ?_
    rintro e W2 ⟨rfl, B2⟩
    have hb2 := hb1.below B2 (Nat.le_refl _)
    have hr2 := hr1.below B2 (Nat.le_refl _)
    have BB2 := B1.trans (B2.mono B1.size)
    clear hcut hb1 hr1 B1 B2
    go_wp2_with fail
    refine (rsum_any _ bs W2 hb2 hby hn).mono ?_
    rintro e W3 ⟨rfl, B3⟩
    have hb3 := hb2.below B3 (Nat.le_refl _)
    have hr3 := hr2.below B3 (Nat.le_refl _)
    have BB3 := BB2.trans (B3.mono BB2.size)
    generalize shaN bs = sh at *
    clear hb2 hr2 BB2 B3
    go_wp2_with fail
    refine (stands_any ao cap _ bs W3 hr3 hb3).mono ?_
    rintro e W4 ⟨rfl, hsm⟩
    have BB4 := BB3.trans (hsm.below _)
    clear BB3 hr3 hb3 hsm heq
    go_wp2_with fail
    refine (known_any W4).mono ?_
    rintro e W5 ⟨rfl, B5⟩
    have BB5 := BB4.trans (B5.mono BB4.size)
    clear BB4 B5
    go_wp2_with fail
    go_ret
    exact ⟨rfl, BB5⟩
end Go.Proofs.Ytkfmplkbimnjfaa
