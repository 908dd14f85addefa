/-
  The law DigestSums, walked: the law's helpers roomy and stands, and the law itself.
-/
import Derived.Test.YtkfnmdhhiigceaaDgConcat
import Derived.Test.YtkfnmdhhiigceaaDgRSum
namespace Go.Proofs.Ytkfnmdhhiigceaa.Dg
open Go.RowKit
theorem ow_cap {w : World} {base : Nat} {ao : Option Addr} {zs : List Int} {cap : Nat} (h : Ow w base (.slice ao zs.length cap) zs) : zs.length ≤ cap := by
  obtain ⟨a1, c1, hh, hj⟩ := h.form
  simp only [Value.slice.injEq] at hh
  obtain ⟨_, _, rfl⟩ := hh
  rcases hj with ⟨_, _, h0⟩ | ⟨_, _, _, _, _, _, h4, _⟩
  · rw [h0]; exact Nat.zero_le _
  · exact h4
set_option maxHeartbeats 800000 in
theorem roomy_any (v : Value) (bs : List Int) (w : World) (hb : Bs w v bs) (hn : bs.length ≤ 1000000) :
    Calls Try.prog 7 #[v] w fun e w' => ∃ ao cap, e = .returned (.slice ao (bs.length + 1) cap) ∧ Bs w' (.slice ao (bs.length + 1) cap) (bs ++ [171]) ∧ Below w.heap.size w w' := by
  obtain ⟨a0, c0, hv, _⟩ := hb.len
  subst hv
  have ho0 : Ow (w.alloc (.cells #[] 5)) w.heap.size (.slice (some ⟨w.heap.size, 0, none⟩) 0 0) [] := Ow_of_block (heap_alloc_new w _) (by simp) (Nat.le_refl _)
  have hb0 : Bs (w.alloc (.cells #[] 5)) (.slice a0 bs.length c0) bs := hb.below ((Below.refl _ _).alloc (Nat.le_refl _) _) (Nat.le_refl _)
  go_enter Try.func7, Try.ntmps7
  go_wp2_with (first
    | (at_builtin; refine wpList_append_bs _ rfl (.tmp 3) (.tmp 4) rfl w.heap.size _ [] rfl ho0 _ bs rfl hb0 (by simp; omega) (by simp) ?_; intro ao1 cap1 W1 ho1 hg1 hat1; simp only [List.length_nil, Nat.zero_add, List.nil_append] at ho1 ⊢; have B1 : Below w.heap.size w W1 := ((Below.refl _ w).alloc (Nat.le_refl _) _).trans (grown_below hg1 ho0 (by simp)); clear hg1 hat1)
    | (at_builtin; refine wpList_append_bs _ rfl (.tmp 5) (.tmp 6) rfl w.heap.size _ bs rfl (by exact ho1.alloc' _) _ [171] rfl (Bs_one _ _) (by simp; omega) (by rw [World.size_alloc]; have := B1.size; omega) ?_; intro ao2 cap2 W2 ho2 hg2 hat2; have B2 : Below w.heap.size w W2 := (B1.alloc B1.size _).trans (grown_below hg2 (ho1.alloc' _) (by rw [World.size_alloc]; have := B1.size; omega)); clear hg2 hat2)
    | (at_builtin; refine wpList_append_bs _ rfl (.tmp 7) (.tmp 8) rfl w.heap.size _ (bs ++ [171]) rfl (by exact ho2.alloc' _) _ [171] rfl (Bs_one _ _) (by simp; omega) (by rw [World.size_alloc]; have := B2.size; omega) ?_; intro ao3 cap3 W3 ho3 hg3 hat3; have B3 : Below w.heap.size w W3 := (B2.alloc B2.size _).trans (grown_below hg3 (ho2.alloc' _) (by rw [World.size_alloc]; have := B2.size; omega)); clear hg3 hat3; have hfin : Bs W3 (.slice ao3 (bs.length + 1) cap3) (bs ++ [171]) := (by have h := (ow_len ho3).bs.cutL (bs.length + 1) (by simp); have e : (bs ++ [(171 : Int)] ++ [171]).take (bs.length + 1) = bs ++ [171] := (by rw [List.take_append_of_le_length (by simp)]; exact List.take_of_length_le (by simp)); rw [e] at h; exact h); have hcap3 : (bs.length : Int) + 1 ≤ (cap3 : Int) := (by have h := ow_cap (ow_len ho3); simp at h; omega)))
  go_ret
  exact ⟨ao3, cap3, rfl, hfin, B3⟩
theorem cut_form {w : World} {ao : Option Addr} {cap : Nat} {bs : List Int} (h1 : Bs w (.slice ao (bs.length + 1) cap) (bs ++ [171])) : bs.length + 1 ≤ cap ∧ cap ≤ maxLen ∧ Bs w (.slice ao bs.length cap) bs := by
  obtain ⟨b, off, c, hv, hc1, hc2, hcell⟩ := h1.form (by simp)
  have hle : (bs ++ [(171 : Int)]).length = bs.length + 1 := by simp
  rw [hle] at hv hc1 hcell
  simp only [Value.slice.injEq] at hv
  obtain ⟨rfl, _, rfl⟩ := hv
  refine ⟨hc1, hc2, ?_⟩
  have h := Bs.piece (o := 0) (n := bs.length) (c := cap) hle hcell (by omega) (by omega) hc2
  simpa using h
theorem cut_one {w : World} {ao : Option Addr} {cap : Nat} {bs : List Int} (h1 : Bs w (.slice ao (bs.length + 1) cap) (bs ++ [171])) : Bs w (.slice ao bs.length cap) bs := (cut_form h1).2.2
theorem cut_cap {w : World} {ao : Option Addr} {cap : Nat} {bs : List Int} (h1 : Bs w (.slice ao (bs.length + 1) cap) (bs ++ [171])) : bs.length + 1 ≤ cap := (cut_form h1).1
theorem cut_max {w : World} {ao : Option Addr} {cap : Nat} {bs : List Int} (h1 : Bs w (.slice ao (bs.length + 1) cap) (bs ++ [171])) : cap ≤ maxLen := (cut_form h1).2.1
set_option maxHeartbeats 800000 in
theorem stands_any (ao : Option Addr) (cap : Nat) (v : Value) (bs : List Int) (w : World) (h1 : Bs w (.slice ao (bs.length + 1) cap) (bs ++ [171])) (hb : Bs w v bs) :
    Calls Try.prog 11 #[.slice ao (bs.length + 1) cap, v] w fun e w' => e = .returned (.bool true) ∧ Sm w w' := by
  obtain ⟨a0, c0, hv, hm⟩ := hb.len
  subst hv
  unfold maxLen at hm
  obtain ⟨b, off, c, hv, hc1, hc2, hcell⟩ := h1.form (by simp)
  have hle : (bs ++ [(171 : Int)]).length = bs.length + 1 := by simp
  rw [hle] at hv hc1 hcell
  simp only [Value.slice.injEq] at hv
  obtain ⟨rfl, _, rfl⟩ := hv
  have hk := hcell bs.length (by omega)
  rw [show (bs ++ [(171 : Int)]).getD bs.length 0 = 171 by simp [List.getD]] at hk
  have hcut : Bs w (.slice (some ⟨b, off, none⟩) bs.length cap) bs := by
    have h := Bs.piece (o := 0) (n := bs.length) (c := cap) hle hcell (by omega) (by omega) hc2
    simpa using h
  unfold maxLen at hc2
  have hcap : (bs.length : Int) ≤ (cap : Int) := by omega
  have HC := hid_into hcell
  clear hcell hle
  go_enter Try.func11, Try.ntmps11
  go_wp2_with fail
  refine (same_any _ _ bs bs w hcut hb).mono ?_
  rintro e W1 ⟨rfl, hsm⟩
  rw [eqB_true rfl]
  have hk1 : W1.cell? ⟨b, off + bs.length, none⟩ = some (.int .u8 171) := by rw [World.cell?_of_block (w := w) (by rw [hsm.heap])]; exact hk
  go_wp2_with fail
  go_ret
  exact ⟨rfl, hsm⟩
end Go.Proofs.Ytkfnmdhhiigceaa.Dg
