/-
  The law DigestLinks, walked: its one drawn region by hand, over all orders.
-/
import Derived.Test.YtkfmplkbimnjfaaSumsWalk
import Derived.Test.YtkfmplkbimnjfaaRLink
import Derived.Test.YtkfmplkbimnjfaaRHexP
import Derived.Deep.RegionHeld3
namespace Go.Proofs.Ytkfmplkbimnjfaa
open Go.RowKit
/-- What stands throughout: the digest's own variable, the bytes, the roomy bytes. -/
structure LS (w : World) (h bs : List Int) (vp vr : Value) (w' : World) : Prop where
  cw : Cw w' w.heap.size (cellsOf h) 25
  bp : Bs w' vp bs
  br : Bs w' vr (bs ++ [171])
  bel : Below w.heap.size w w'
theorem LS.next {w : World} {h bs : List Int} {vp vr : Value} {W W' : World} (k : LS w h bs vp vr W) (B : Below W.heap.size W W') : LS w h bs vp vr W' :=
  ⟨k.cw.below B k.cw.lt, k.bp.below B (Nat.le_refl _), k.br.below B (Nat.le_refl _), k.bel.trans (B.mono k.bel.size)⟩
theorem LS.hb {w : World} {h bs : List Int} {vp vr : Value} {W : World} (k : LS w h bs vp vr W) (hl : h.length = 32) : Bs W (.slice (some ⟨w.heap.size, 0, none⟩) 32 32) h := by
  have e := k.cw.bs (by rw [hl]; unfold maxLen; omega)
  rw [hl] at e; exact e
theorem Below.undrew {B : Nat} {w w' : World} (h : Below B w.drew w') : Below B w w' := ⟨h.os, h.tape, h.output, h.size, h.block⟩
theorem Ow.keep {w w' : World} {base : Nat} {v : Value} {zs : List Int} (h : Ow w base v zs) {B : Nat} (hb : Below B w w') (hB : w.heap.size ≤ B) : Ow w' base v zs := by
  obtain ⟨ao, cap, hv, ⟨h1, h2, h3⟩ | ⟨g, cur, h1, hg1, hg2, hg3, hg4, hg5, hg6, hg7⟩⟩ := h.form
  · subst hv; subst h1; subst h2; subst h3
    exact World.ownsRow_nil _ _ _ _
  · subst hv; subst h1
    exact ⟨by simp [cellsOf], Or.inr ⟨g, cap, cur, rfl, hg1, (hb.block g (by have := (Array.getElem?_eq_some_iff.1 hg3).1; omega)).trans hg3, hg4, hg5, by simpa using hg6, by simpa using hg7⟩⟩
section
variable {o : Oper} {a : Act} {w : World} {K : Act → World → Prop} {Q : Exit → Act → World → Prop}
theorem wp_app (s x : Operand) (ho : o.op = .call { callee := .builtin .append, args := #[s, x], argTypes := #[22, 22] })
    (base : Nat) (v : Value) (xs : List Int) (hs : a.eval s = v) (hown : Ow w base v xs) (vx : Value) (zs : List Int) (hx : a.eval x = vx) (hb : Bs w vx zs)
    (h63 : xs.length + zs.length ≤ 140737488355328) (hbase : base ≤ w.heap.size)
    (h : ∀ ao cap w', Ow w' base (.slice ao (xs.length + zs.length) cap) (xs ++ zs) → w.grownBy w' v.ownBlock →
      ((Value.slice ao (xs.length + zs.length) cap).ownBlock = v.ownBlock ∨ (Value.slice ao (xs.length + zs.length) cap).ownBlock = some w.heap.size) →
      K (a.put o.dst (.slice ao (xs.length + zs.length) cap)) w') : Oper.wp Try.prog o a w K Q := by
  obtain ⟨ao, cap, w', hr, h2, h3, h4⟩ := run_append_bs w base o.type v xs hown vx zs hb h63 hbase
  unfold Oper.wp execOp
  simp only [ho, resolve, invoke, builtin, Sem.run_bind, Sem.run_pure, Result.andThen_ok, List.map_toArray, List.map_cons, List.map_nil, hs, hx, hr]
  exact h ao cap w' h2 h3 h4
theorem wp_made_nil (ho : o.op = .buildSlice 22 0 #[])
    (h : ∀ W, Hid (Ow W w.heap.size (.slice (some ⟨w.heap.size, 0, none⟩) 0 0) []) → Below w.heap.size w W → K (a.put o.dst (.slice (some ⟨w.heap.size, 0, none⟩) 0 0)) W) : Oper.wp Try.prog o a w K Q := by
  have ho0 : Ow (w.alloc (.cells #[] 5)) w.heap.size (.slice (some ⟨w.heap.size, 0, none⟩) 0 0) [] := Ow_of_block (heap_alloc_new w _) (by simp) (Nat.le_refl _)
  have h1 := h _ ho0 ((Below.refl _ _).alloc (Nat.le_refl _) _)
  obtain ⟨dst, op, ty, ps, af, gd⟩ := o
  subst ho
  go_simp
  exact h1
end
set_option maxHeartbeats 4000000 in
theorem links_walk (h bs : List Int) (v : Value) (w : World) (hl : h.length = 32) (hh : Byt h) (hb : Bs w v bs) (hby : Byt bs) :
    Calls Try.prog 4 #[.agg (cellsOf h).toArray, v] w fun e w' => e = .returned (.bool true) ∧ Below w.heap.size w w' := by
  obtain ⟨a0, c0, hv, hm⟩ := hb.len
  subst hv
  unfold maxLen at hm
  have HHL := hid_into hl
  have HHB := hid_into hh
  have HBB := hid_into hby
  have HIh := hsB (ws := h) Try.size25 hl
  by_cases hbig : (1500 : Int) < (bs.length : Int)
  · go_enter Try.func4, Try.ntmps4
    refine wp_seq (wp_region_lit (wpList_box_row rfl 25 (.tmp 0) rfl (cellsOf h) rfl ?_))
    intro W1 hc1 B1 HS1
    clear HIh
    go_wp2_with fail
    go_ret
    exact ⟨rfl, B1⟩
  · have HBY := hid_into (hh.append hby)
    have hn : bs.length ≤ 100000 := by omega
    have HN3 : Hid ((h ++ bs).length ≤ 1000000) := by show _ ≤ _; rw [List.length_append]; omega
    obtain ⟨lk, hlk⟩ : ∃ lk, lk = linkN h bs := ⟨_, rfl⟩
    have heq : ∀ W, (Op.equalIn 10000 25 (.agg (cellsOf lk).toArray) (.agg (cellsOf lk).toArray)).run Try.prog W = .ok true W := fun W => by rw [hlk, run_equal_hash (linkN h bs) (linkN h bs) (show (linkN h bs).length = 32 from shaN_length _) (show (linkN h bs).length = 32 from shaN_length _), eqB_true rfl]
    have HLK := hid_into hlk.symm
    clear hlk hl hh hby
    go_enter Try.func4, Try.ntmps4
    refine wp_seq (wp_region_lit (wpList_box_row rfl 25 (.tmp 0) rfl (cellsOf h) rfl ?_))
    intro W1 hc1 B1 HS1
    have hb1 := hb.below B1 (Nat.le_refl _)
    go_wp2_with fail
    refine (roomy_any _ bs W1 hb1 (by omega)).mono ?_
    rintro e W2 ⟨ao, cap, rfl, hr2, B2⟩
    have LS2 : LS w h bs (.slice a0 bs.length c0) (.slice ao (bs.length + 1) cap) W2 := ⟨hc1.below B2 hc1.lt, hb1.below B2 (Nat.le_refl _), hr2, B1.trans (B2.mono (by rw [HS1.out]; omega))⟩
    have hcap : (bs.length : Int) ≤ (cap : Int) := by have := cut_cap hr2; omega
    have hcapm : (cap : Int) ≤ 9223372036854775807 := by have := cut_max hr2; unfold maxLen at this; omega
    clear hb1 hr2 B1 B2 hc1 HS1 hb
    go_wp2_with fail
    refine wp_region_held (S := fun w' => Cw w' w.heap.size (cellsOf h) 25) (by kernel_rfl) ?_
    change wpAnyH _ _ _ _ _ _ _ _ (World.drew _)
    have hS2 : Cw W2.drew w.heap.size (cellsOf h) 25 := LS2.cw
    refine wpAnyH_take (i := 1) (v := .slice ao (bs.length + 1) cap) rfl (by kernel_rfl) (by kernel_rfl) (by kernel_rfl) (fun _ _ _ h => h) (Or.inl ⟨by rfl, by intro w _; go_simp⟩) hS2 ?_
    refine wpAnyH_take (i := 2) (v := .slice a0 bs.length c0) rfl (by kernel_rfl) (by kernel_rfl) (by kernel_rfl) (fun _ _ _ h => h) (Or.inl ⟨by rfl, by intro w _; go_simp⟩) hS2 ?_
    refine wpAnyH_take (i := 3) (v := .int .i64 bs.length) rfl (by kernel_rfl) (by kernel_rfl) (by kernel_rfl) (fun _ _ _ h => h) (Or.inl ⟨by rfl, by intro w _; go_simp⟩) hS2 ?_
    refine wpAnyH_take (i := 4) (v := .slice ao bs.length cap) rfl (by kernel_rfl) (by kernel_rfl) (by kernel_rfl) (fun _ _ _ h => h) (Or.inl ⟨by rfl, by intro w _; go_simp⟩) hS2 ?_
    refine wpAnyH_take (i := 0) (v := .agg (cellsOf h).toArray) rfl (by kernel_rfl) (by kernel_rfl) (by kernel_rfl) (fun _ _ _ h => h) (yieldsIf_load_mid (by rfl) 25 (.tmp 2) rfl w.heap.size 0 rfl (cellsOf h) _ (fun _ k => Cw.range k) Try.underlying25 rfl HIh.out) hS2 ?_
    refine wpAnyH_take (i := 6) (v := .agg (cellsOf h).toArray) rfl (by kernel_rfl) (by kernel_rfl) (by kernel_rfl) (fun _ _ _ h => h) (yieldsIf_load_mid (by rfl) 25 (.tmp 2) rfl w.heap.size 0 rfl (cellsOf h) _ (fun _ k => Cw.range k) Try.underlying25 rfl HIh.out) hS2 ?_
    refine wpAnyH_take (i := 7) (v := .slice a0 bs.length c0) rfl (by kernel_rfl) (by kernel_rfl) (by kernel_rfl) (fun _ _ _ h => h) (Or.inl ⟨by rfl, by intro w _; go_simp⟩) hS2 ?_
    refine wpAnyH_ready (rs := [5]) (by kernel_rfl) (by simp) ?_
    refine AllReadyH.cons rfl (fun KK hK => ?_) AllReadyH.nil
    go_simp
    refine (link_any h bs _ _ HHL.out HHB.out (by exact cut_one LS2.br) HBB.out hn).mono ?_
    rintro e W3 ⟨rfl, B3⟩
    dsimp only
    have LS3 := LS2.next (Below.undrew B3)
    have hS3 := LS3.cw
    rw [show linkN h bs = lk from HLK.out]
    clear B3
    refine hK.out _ _ (by exact hS3) (fun _ => ?_)
    clear hK KK
    refine wpAnyH_ready (rs := [8]) (by kernel_rfl) (by simp) ?_
    refine AllReadyH.cons rfl (fun KK hK => ?_) AllReadyH.nil
    go_simp
    refine (rlink_any h bs _ _ HHL.out HHB.out (by exact LS3.bp) HBB.out hn).mono ?_
    rintro e W4 ⟨rfl, B4⟩
    dsimp only
    have LS4 := LS3.next B4
    have hS4 := LS4.cw
    rw [show linkN h bs = lk from HLK.out]
    clear B4 hS3 LS3
    refine hK.out _ _ (by exact hS4) (fun _ => ?_)
    clear hK KK
    refine wpAnyH_take (i := 9) (v := .bool true) rfl (by kernel_rfl) (by kernel_rfl) (by kernel_rfl) (fun _ _ _ h => h) (Or.inl ⟨by rfl, by intro w _; go_simp⟩) hS4 ?_
    refine wpAnyH_take (i := 10) (v := .bool true) rfl (by kernel_rfl) (by kernel_rfl) (by kernel_rfl) (fun _ _ _ h => h) (Or.inl ⟨by rfl, by intro w _; go_simp⟩) hS4 ?_
    refine wpAnyH_take (i := 11) (v := .agg (cellsOf h).toArray) rfl (by kernel_rfl) (by kernel_rfl) (by kernel_rfl) (fun _ _ _ h => h) (yieldsIf_load_mid (by rfl) 25 (.tmp 2) rfl w.heap.size 0 rfl (cellsOf h) _ (fun _ k => Cw.range k) Try.underlying25 rfl HIh.out) hS4 ?_
    refine wpAnyH_take (i := 12) (v := .slice a0 bs.length c0) rfl (by kernel_rfl) (by kernel_rfl) (by kernel_rfl) (fun _ _ _ h => h) (Or.inl ⟨by rfl, by intro w _; go_simp⟩) hS4 ?_
    refine wpAnyH_take (i := 15) (v := .slice (some ⟨w.heap.size, 0, none⟩) 32 32) rfl (by kernel_rfl) (by kernel_rfl) (by kernel_rfl) (fun _ _ _ h => h) (Or.inl ⟨by rfl, by intro w _; go_simp⟩) hS4 ?_
    refine wpAnyH_take (i := 17) (v := .slice a0 bs.length c0) rfl (by kernel_rfl) (by kernel_rfl) (by kernel_rfl) (fun _ _ _ h => h) (Or.inl ⟨by rfl, by intro w _; go_simp⟩) hS4 ?_
    refine wpAnyH_ready (rs := [13, 14]) (by kernel_rfl) (by simp) ?_
    refine AllReadyH.cons rfl (fun KK hK => ?_) (AllReadyH.cons rfl (fun KK hK => ?_) AllReadyH.nil)
    · skip
      go_simp
      refine (link_any h bs _ _ HHL.out HHB.out (by exact LS4.bp) HBB.out hn).mono ?_
      rintro e W5 ⟨rfl, B5⟩
      dsimp only
      have LS5 := LS4.next B5
      have hS5 := LS5.cw
      rw [show linkN h bs = lk from HLK.out]
      refine hK.out _ _ (by exact hS5) (fun _ => ?_)
      clear hK KK
      refine wpAnyH_ready (rs := [14]) (by kernel_rfl) (by simp) ?_
      refine AllReadyH.cons rfl (fun KK hK => ?_) AllReadyH.nil
      rw [if_pos (by rfl)]
      refine wp_made_nil rfl ?_
      intro W6 HE6 B6
      have ho6 := (HE6.out).mono B5.size
      have B46 : Below W4.heap.size W4 W6 := B5.trans (B6.mono B5.size)
      have LS6 := LS4.next B46
      have hS6 := LS6.cw
      have hsz6 := B46.size
      have hbh6 := LS6.hb HHL.out
      clear HE6 B6 LS5 hS5 B5
      refine hK.out _ _ (by exact hS6) (fun _ => ?_)
      clear hK KK
      refine wpAnyH_ready (rs := [16]) (by kernel_rfl) (by simp) ?_
      refine AllReadyH.cons rfl (fun KK hK => ?_) AllReadyH.nil
      rw [if_pos (by rfl)]
      refine wp_app (.tmp 25) (.tmp 26) rfl W4.heap.size _ [] rfl ho6 _ h rfl (by exact hbh6) (by rw [HHL.out]; simp) hsz6 ?_
      intro ao7 cap7 W7 ho7 hg7 hat7
      simp only [List.length_nil, Nat.zero_add, List.nil_append] at ho7 ⊢
      have B7 : Below W4.heap.size W4 W7 := B46.trans (grown_below hg7 ho6 hsz6)
      have LS7 := LS4.next B7
      have hS7 := LS7.cw
      clear hg7 hat7
      refine hK.out _ _ (by exact hS7) (fun _ => ?_)
      clear hK KK
      refine wpAnyH_ready (rs := [18]) (by kernel_rfl) (by simp) ?_
      refine AllReadyH.cons rfl (fun KK hK => ?_) AllReadyH.nil
      rw [if_pos (by rfl)]
      refine wp_app (.tmp 27) (.tmp 28) rfl W4.heap.size _ h rfl ho7 _ bs rfl (by exact LS7.bp) (by rw [HHL.out]; omega) B7.size ?_
      intro ao8 cap8 W8 ho8 hg8 hat8
      have B8 : Below W4.heap.size W4 W8 := B7.trans (grown_below hg8 ho7 B7.size)
      have LS8 := LS4.next B8
      have hS8 := LS8.cw
      have hbo : Bs W8 (.slice ao8 (h.length + bs.length) cap8) (h ++ bs) := (by have e := (ow_len ho8).bs; rw [List.length_append] at e; exact e)
      clear hg8 hat8 ho8 ho7 LS7 hS7
      refine hK.out _ _ (by exact hS8) (fun _ => ?_)
      clear hK KK
      refine wpAnyH_ready (rs := [19]) (by kernel_rfl) (by simp) ?_
      refine AllReadyH.cons rfl (fun KK hK => ?_) AllReadyH.nil
      go_simp
      refine (sum_any _ (h ++ bs) W8 hbo HBY.out HN3.out).mono ?_
      rintro e W9 ⟨rfl, B9⟩
      dsimp only
      have LS9 := LS8.next B9
      have hS9 := LS9.cw
      rw [show shaN (h ++ bs) = lk from HLK.out]
      clear B9 LS8 hS8 hbo
      refine hK.out _ _ (by exact hS9) (fun _ => ?_)
      clear hK KK
      refine wpAnyH_take (i := 20) (v := .bool true) rfl (by kernel_rfl) (by kernel_rfl) (by kernel_rfl) (fun _ _ _ h => h) (Or.inl ⟨by rfl, by intro w _; go_simp⟩) hS9 ?_
      refine wpAnyH_take (i := 21) (v := .bool true) rfl (by kernel_rfl) (by kernel_rfl) (by kernel_rfl) (fun _ _ _ h => h) (Or.inl ⟨by rfl, by intro w _; go_simp⟩) hS9 ?_
      refine wpAnyH_take (i := 22) (v := .bool true) rfl (by kernel_rfl) (by kernel_rfl) (by kernel_rfl) (fun _ _ _ h => h) (Or.inl ⟨by rfl, by intro w _; go_simp⟩) hS9 ?_
      refine wpAnyH_take (i := 23) (v := .slice ao (bs.length + 1) cap) rfl (by kernel_rfl) (by kernel_rfl) (by kernel_rfl) (fun _ _ _ h => h) (Or.inl ⟨by rfl, by intro w _; go_simp⟩) hS9 ?_
      refine wpAnyH_take (i := 24) (v := .slice a0 bs.length c0) rfl (by kernel_rfl) (by kernel_rfl) (by kernel_rfl) (fun _ _ _ h => h) (Or.inl ⟨by rfl, by intro w _; go_simp⟩) hS9 ?_
      refine wpAnyH_ready (rs := [25]) (by kernel_rfl) (by simp) ?_
      refine AllReadyH.cons rfl (fun KK hK => ?_) AllReadyH.nil
      go_simp
      refine (stands_any ao cap _ bs W9 LS9.br LS9.bp).mono ?_
      rintro e WA ⟨rfl, hsA⟩
      dsimp only
      have LSA := LS9.next (hsA.below _)
      have hSA := LSA.cw
      clear hsA LS9 hS9
      refine hK.out _ _ (by exact hSA) (fun _ => ?_)
      clear hK KK
      refine wpAnyH_take (i := 26) (v := .bool true) rfl (by kernel_rfl) (by kernel_rfl) (by kernel_rfl) (fun _ _ _ h => h) (Or.inl ⟨by rfl, by intro w _; go_simp⟩) hSA ?_
      refine wpAnyH_take (i := 27) (v := .bool true) rfl (by kernel_rfl) (by kernel_rfl) (by kernel_rfl) (fun _ _ _ h => h) (Or.inl ⟨by rfl, by intro w _; go_simp⟩) hSA ?_
      refine wpAnyH_take (i := 28) (v := .agg (cellsOf h).toArray) rfl (by kernel_rfl) (by kernel_rfl) (by kernel_rfl) (fun _ _ _ h => h) (yieldsIf_load_mid (by rfl) 25 (.tmp 2) rfl w.heap.size 0 rfl (cellsOf h) _ (fun _ k => Cw.range k) Try.underlying25 rfl HIh.out) hSA ?_
      refine wpAnyH_take (i := 30) (v := .agg (cellsOf h).toArray) rfl (by kernel_rfl) (by kernel_rfl) (by kernel_rfl) (fun _ _ _ h => h) (yieldsIf_load_mid (by rfl) 25 (.tmp 2) rfl w.heap.size 0 rfl (cellsOf h) _ (fun _ k => Cw.range k) Try.underlying25 rfl HIh.out) hSA ?_
      refine wpAnyH_ready (rs := [29]) (by kernel_rfl) (by simp) ?_
      refine AllReadyH.cons rfl (fun KK hK => ?_) AllReadyH.nil
      go_simp
      refine (hex_any h WA HHL.out HHB.out).mono ?_
      rintro e WB ⟨rfl, BB⟩
      dsimp only
      have LSB := LSA.next BB
      have hSB := LSB.cw
      clear BB LSA hSA
      refine hK.out _ _ (by exact hSB) (fun _ => ?_)
      clear hK KK
      refine wpAnyH_ready (rs := [31]) (by kernel_rfl) (by simp) ?_
      refine AllReadyH.cons rfl (fun KK hK => ?_) AllReadyH.nil
      go_simp
      refine (rhex_any h WB HHL.out HHB.out).mono ?_
      rintro e WC ⟨rfl, BC⟩
      dsimp only
      have LSC := LSB.next BC
      have hSC := LSC.cw
      generalize strOfNums (hexI h) = hx
      clear BC LSB hSB
      refine hK.out _ _ (by exact hSC) (fun _ => ?_)
      clear hK KK
      refine wpAnyH_take (i := 32) (v := .bool true) rfl (by kernel_rfl) (by kernel_rfl) (by kernel_rfl) (fun _ _ _ h => h) (Or.inl ⟨by rfl, by intro w _; go_simp⟩) hSC ?_
      refine wpAnyH_take (i := 33) (v := .bool true) rfl (by kernel_rfl) (by kernel_rfl) (by kernel_rfl) (fun _ _ _ h => h) (Or.inl ⟨by rfl, by intro w _; go_simp⟩) hSC ?_
      refine wpAnyH_take (i := 34) (v := .bool true) rfl (by kernel_rfl) (by kernel_rfl) (by kernel_rfl) (fun _ _ _ h => h) (Or.inl ⟨by rfl, by intro w _; go_simp⟩) hSC ?_
      refine wpAnyH_ready (rs := [35]) (by kernel_rfl) (by simp) ?_
      refine AllReadyH.cons rfl (fun KK hK => ?_) AllReadyH.nil
      go_simp
      refine (known_any WC).mono ?_
      rintro e WD ⟨rfl, BD⟩
      dsimp only
      have LSD := LSC.next BD
      have hSD := LSD.cw
      clear BD LSC hSC
      refine hK.out _ _ (by exact hSD) (fun _ => ?_)
      clear hK KK
      refine wpAnyH_take (i := 36) (v := .bool true) rfl (by kernel_rfl) (by kernel_rfl) (by kernel_rfl) (fun _ _ _ h => h) (Or.inl ⟨by rfl, by intro w _; go_simp⟩) hSD ?_
      refine wpAnyH_take (i := 37) (v := .bool true) rfl (by kernel_rfl) (by kernel_rfl) (by kernel_rfl) (fun _ _ _ h => h) (Or.inl ⟨by rfl, by intro w _; go_simp⟩) hSD ?_
      refine wpAnyH_done (by kernel_rfl) ?_ _
      go_wp2_with fail
      go_ret
      exact ⟨rfl, LSD.bel⟩
    · skip
      rw [if_pos (by rfl)]
      refine wp_made_nil rfl ?_
      intro W5 HE5 B5
      have LS5 := LS4.next B5
      have hS5 := LS5.cw
      refine hK.out _ _ (by exact hS5) (fun _ => ?_)
      clear hK KK
      refine wpAnyH_ready (rs := [13]) (by kernel_rfl) (by simp) ?_
      refine AllReadyH.cons rfl (fun KK hK => ?_) AllReadyH.nil
      go_simp
      refine (link_any h bs _ _ HHL.out HHB.out (by exact LS5.bp) HBB.out hn).mono ?_
      rintro e W6 ⟨rfl, B6⟩
      dsimp only
      have LS6 := LS5.next B6
      have hS6 := LS6.cw
      rw [show linkN h bs = lk from HLK.out]
      have ho6 : Ow W6 W4.heap.size (.slice (some ⟨W4.heap.size, 0, none⟩) 0 0) [] := HE5.out.keep B6 (Nat.le_refl _)
      have B46 : Below W4.heap.size W4 W6 := B5.trans (B6.mono B5.size)
      have hsz6 := B46.size
      have hbh6 := LS6.hb HHL.out
      clear HE5 B5 B6 LS5 hS5
      refine hK.out _ _ (by exact hS6) (fun _ => ?_)
      clear hK KK
      refine wpAnyH_ready (rs := [16]) (by kernel_rfl) (by simp) ?_
      refine AllReadyH.cons rfl (fun KK hK => ?_) AllReadyH.nil
      rw [if_pos (by rfl)]
      refine wp_app (.tmp 25) (.tmp 26) rfl W4.heap.size _ [] rfl ho6 _ h rfl (by exact hbh6) (by rw [HHL.out]; simp) hsz6 ?_
      intro ao7 cap7 W7 ho7 hg7 hat7
      simp only [List.length_nil, Nat.zero_add, List.nil_append] at ho7 ⊢
      have B7 : Below W4.heap.size W4 W7 := B46.trans (grown_below hg7 ho6 hsz6)
      have LS7 := LS4.next B7
      have hS7 := LS7.cw
      clear hg7 hat7
      refine hK.out _ _ (by exact hS7) (fun _ => ?_)
      clear hK KK
      refine wpAnyH_ready (rs := [18]) (by kernel_rfl) (by simp) ?_
      refine AllReadyH.cons rfl (fun KK hK => ?_) AllReadyH.nil
      rw [if_pos (by rfl)]
      refine wp_app (.tmp 27) (.tmp 28) rfl W4.heap.size _ h rfl ho7 _ bs rfl (by exact LS7.bp) (by rw [HHL.out]; omega) B7.size ?_
      intro ao8 cap8 W8 ho8 hg8 hat8
      have B8 : Below W4.heap.size W4 W8 := B7.trans (grown_below hg8 ho7 B7.size)
      have LS8 := LS4.next B8
      have hS8 := LS8.cw
      have hbo : Bs W8 (.slice ao8 (h.length + bs.length) cap8) (h ++ bs) := (by have e := (ow_len ho8).bs; rw [List.length_append] at e; exact e)
      clear hg8 hat8 ho8 ho7 LS7 hS7
      refine hK.out _ _ (by exact hS8) (fun _ => ?_)
      clear hK KK
      refine wpAnyH_ready (rs := [19]) (by kernel_rfl) (by simp) ?_
      refine AllReadyH.cons rfl (fun KK hK => ?_) AllReadyH.nil
      go_simp
      refine (sum_any _ (h ++ bs) W8 hbo HBY.out HN3.out).mono ?_
      rintro e W9 ⟨rfl, B9⟩
      dsimp only
      have LS9 := LS8.next B9
      have hS9 := LS9.cw
      rw [show shaN (h ++ bs) = lk from HLK.out]
      clear B9 LS8 hS8 hbo
      refine hK.out _ _ (by exact hS9) (fun _ => ?_)
      clear hK KK
      refine wpAnyH_take (i := 20) (v := .bool true) rfl (by kernel_rfl) (by kernel_rfl) (by kernel_rfl) (fun _ _ _ h => h) (Or.inl ⟨by rfl, by intro w _; go_simp⟩) hS9 ?_
      refine wpAnyH_take (i := 21) (v := .bool true) rfl (by kernel_rfl) (by kernel_rfl) (by kernel_rfl) (fun _ _ _ h => h) (Or.inl ⟨by rfl, by intro w _; go_simp⟩) hS9 ?_
      refine wpAnyH_take (i := 22) (v := .bool true) rfl (by kernel_rfl) (by kernel_rfl) (by kernel_rfl) (fun _ _ _ h => h) (Or.inl ⟨by rfl, by intro w _; go_simp⟩) hS9 ?_
      refine wpAnyH_take (i := 23) (v := .slice ao (bs.length + 1) cap) rfl (by kernel_rfl) (by kernel_rfl) (by kernel_rfl) (fun _ _ _ h => h) (Or.inl ⟨by rfl, by intro w _; go_simp⟩) hS9 ?_
      refine wpAnyH_take (i := 24) (v := .slice a0 bs.length c0) rfl (by kernel_rfl) (by kernel_rfl) (by kernel_rfl) (fun _ _ _ h => h) (Or.inl ⟨by rfl, by intro w _; go_simp⟩) hS9 ?_
      refine wpAnyH_ready (rs := [25]) (by kernel_rfl) (by simp) ?_
      refine AllReadyH.cons rfl (fun KK hK => ?_) AllReadyH.nil
      go_simp
      refine (stands_any ao cap _ bs W9 LS9.br LS9.bp).mono ?_
      rintro e WA ⟨rfl, hsA⟩
      dsimp only
      have LSA := LS9.next (hsA.below _)
      have hSA := LSA.cw
      clear hsA LS9 hS9
      refine hK.out _ _ (by exact hSA) (fun _ => ?_)
      clear hK KK
      refine wpAnyH_take (i := 26) (v := .bool true) rfl (by kernel_rfl) (by kernel_rfl) (by kernel_rfl) (fun _ _ _ h => h) (Or.inl ⟨by rfl, by intro w _; go_simp⟩) hSA ?_
      refine wpAnyH_take (i := 27) (v := .bool true) rfl (by kernel_rfl) (by kernel_rfl) (by kernel_rfl) (fun _ _ _ h => h) (Or.inl ⟨by rfl, by intro w _; go_simp⟩) hSA ?_
      refine wpAnyH_take (i := 28) (v := .agg (cellsOf h).toArray) rfl (by kernel_rfl) (by kernel_rfl) (by kernel_rfl) (fun _ _ _ h => h) (yieldsIf_load_mid (by rfl) 25 (.tmp 2) rfl w.heap.size 0 rfl (cellsOf h) _ (fun _ k => Cw.range k) Try.underlying25 rfl HIh.out) hSA ?_
      refine wpAnyH_take (i := 30) (v := .agg (cellsOf h).toArray) rfl (by kernel_rfl) (by kernel_rfl) (by kernel_rfl) (fun _ _ _ h => h) (yieldsIf_load_mid (by rfl) 25 (.tmp 2) rfl w.heap.size 0 rfl (cellsOf h) _ (fun _ k => Cw.range k) Try.underlying25 rfl HIh.out) hSA ?_
      refine wpAnyH_ready (rs := [29]) (by kernel_rfl) (by simp) ?_
      refine AllReadyH.cons rfl (fun KK hK => ?_) AllReadyH.nil
      go_simp
      refine (hex_any h WA HHL.out HHB.out).mono ?_
      rintro e WB ⟨rfl, BB⟩
      dsimp only
      have LSB := LSA.next BB
      have hSB := LSB.cw
      clear BB LSA hSA
      refine hK.out _ _ (by exact hSB) (fun _ => ?_)
      clear hK KK
      refine wpAnyH_ready (rs := [31]) (by kernel_rfl) (by simp) ?_
      refine AllReadyH.cons rfl (fun KK hK => ?_) AllReadyH.nil
      go_simp
      refine (rhex_any h WB HHL.out HHB.out).mono ?_
      rintro e WC ⟨rfl, BC⟩
      dsimp only
      have LSC := LSB.next BC
      have hSC := LSC.cw
      generalize strOfNums (hexI h) = hx
      clear BC LSB hSB
      refine hK.out _ _ (by exact hSC) (fun _ => ?_)
      clear hK KK
      refine wpAnyH_take (i := 32) (v := .bool true) rfl (by kernel_rfl) (by kernel_rfl) (by kernel_rfl) (fun _ _ _ h => h) (Or.inl ⟨by rfl, by intro w _; go_simp⟩) hSC ?_
      refine wpAnyH_take (i := 33) (v := .bool true) rfl (by kernel_rfl) (by kernel_rfl) (by kernel_rfl) (fun _ _ _ h => h) (Or.inl ⟨by rfl, by intro w _; go_simp⟩) hSC ?_
      refine wpAnyH_take (i := 34) (v := .bool true) rfl (by kernel_rfl) (by kernel_rfl) (by kernel_rfl) (fun _ _ _ h => h) (Or.inl ⟨by rfl, by intro w _; go_simp⟩) hSC ?_
      refine wpAnyH_ready (rs := [35]) (by kernel_rfl) (by simp) ?_
      refine AllReadyH.cons rfl (fun KK hK => ?_) AllReadyH.nil
      go_simp
      refine (known_any WC).mono ?_
      rintro e WD ⟨rfl, BD⟩
      dsimp only
      have LSD := LSC.next BD
      have hSD := LSD.cw
      clear BD LSC hSC
      refine hK.out _ _ (by exact hSD) (fun _ => ?_)
      clear hK KK
      refine wpAnyH_take (i := 36) (v := .bool true) rfl (by kernel_rfl) (by kernel_rfl) (by kernel_rfl) (fun _ _ _ h => h) (Or.inl ⟨by rfl, by intro w _; go_simp⟩) hSD ?_
      refine wpAnyH_take (i := 37) (v := .bool true) rfl (by kernel_rfl) (by kernel_rfl) (by kernel_rfl) (fun _ _ _ h => h) (Or.inl ⟨by rfl, by intro w _; go_simp⟩) hSD ?_
      refine wpAnyH_done (by kernel_rfl) ?_ _
      go_wp2_with fail
      go_ret
      exact ⟨rfl, LSD.bel⟩
end Go.Proofs.Ytkfmplkbimnjfaa
