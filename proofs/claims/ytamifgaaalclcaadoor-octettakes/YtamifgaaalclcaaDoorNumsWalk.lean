/-
  OctetNums, walked: for every number and whatever stands behind it answers true, and writes nothing that was there.
-/
import Derived.Test.YtamifgaaalclcaaDoorRefNum
import Derived.Test.YtamifgaaalclcaaDoorReaderNum
namespace Go.Proofs.YtamifgaaalclcaaDoor
open Go.RowKit

theorem numOf_byt (v : Int) (h0 : -9223372036854775808 ≤ v) (h1 : v ≤ 9223372036854775807) : Byt (numOf v) := by
  have hr := foldI_range v h0 h1
  exact numB_bytes 9 _ (Fits.start _ hr.1 hr.2)
theorem Byt.append {a b : List Int} (ha : Byt a) (hb : Byt b) : Byt (a ++ b) := fun z hz => by
  rcases List.mem_append.1 hz with h | h
  · exact ha z h
  · exact hb z h
/-- A Reader is as it was, if its block and its row are. -/
theorem Rd.keep {w w' : World} {b : Nat} {v : Value} {zs : List Int} {e : Int} (h : Rd w b v zs e) (hb : w'.heap[b]? = w.heap[b]?) (hk : ∀ k, v.ownBlock = some k → k < w.heap.size → w'.heap[k]? = w.heap[k]?) : Rd w' b v zs e :=
  ⟨by rw [hb]; exact h.1, h.2.1.keep hk, h.2.2⟩
theorem Rd.below {w w' : World} {b B : Nat} {v : Value} {zs : List Int} {e : Int} (h : Rd w b v zs e) (hB : Below B w w') (hs : w.heap.size ≤ B) : Rd w' b v zs e :=
  h.keep (hB.block b (by have := h.lt; omega)) (fun k _ hk => hB.block k (by omega))

set_option maxHeartbeats 3200000 in
theorem nums_walk (x : Int) (sv : Value) (zs : List Int) (w : World) (hb : Bs w sv zs) (hz : Byt zs) (ht : Tab w) (h0 : -9223372036854775808 ≤ x) (h1 : x ≤ 9223372036854775807) :
    Calls Tryd.prog 5 #[.int .i64 x, sv] w fun e w' => e = .returned (.bool true) ∧ Below w.heap.size w w' := by
  obtain ⟨ao, cap, hsv, hm⟩ := hb.len
  subst hsv
  unfold maxLen at hm
  by_cases hn : 3000 < zs.length
  · go_enter Tryd.func5, Tryd.ntmps5
    go_wp2
    go_ret
    exact ⟨rfl, Below.refl _ _⟩
  have htl := ht.lt
  have hw0 := Wr_new w
  have hnl := numOf_length x
  have hnb := numOf_byt x h0 h1
  have HNR : Hid (numR 10 0 0 (numOf x ++ zs) = (x, zs, 0)) := numR_numOf x zs h0 h1
  go_enter Tryd.func5, Tryd.ntmps5
  go_wp2_with fail
  refine (num_w w.heap.size _ [] x _ hw0 (by simp) h0 h1).mono ?_
  rintro e w1 ⟨rfl, v1, hw1, hs1⟩
  rw [List.nil_append] at hw1
  have B1 : Below w.heap.size w w1 := ((Below.refl _ _).alloc (Nat.le_refl _) _).trans (hw0.below hs1 (Nat.le_refl _))
  generalize hns : numOf x = ns at *
  have HNS : Hid (numOf x = ns) := hns
  clear hns
  go_wp2_with fail
  refine (out_w w.heap.size v1 ns _ hw1 (by omega)).mono ?_
  rintro e w2 ⟨ao2, cap2, rfl, ho2, B2⟩
  have B2' : Below w.heap.size w w2 := B1.trans (B2.mono B1.size)
  have hs2 := B2'.size
  have hown0 : Ow (w2.alloc (.cells #[] 5)) w2.heap.size (.slice (some ⟨w2.heap.size, 0, none⟩) 0 0) [] := Ow_of_block (heap_alloc_new w2 _) (by simp) (Nat.le_refl _)
  have hb2 : Bs (w2.alloc (.cells #[] 5)) (.slice ao2 ns.length cap2) ns := ho2.bs.below ((Below.refl _ _).alloc (Nat.le_refl _) _) (Nat.le_refl _)
  go_wp2_with (at_builtin; refine wpList_append_bs _ rfl (.tmp 14) (.tmp 15) rfl w2.heap.size _ [] rfl hown0 _ ns rfl hb2 (by simp; omega) (by simp) ?_)
  intro ao3 cap3 w3 hown3 hgrow3 hat3
  have B3 : Below w2.heap.size w2 w3 := ((Below.refl _ _).alloc (Nat.le_refl _) _).grown hgrow3 (by simp) (fun k hk => by simp [Value.ownBlock] at hk; omega)
  have B3' : Below w.heap.size w w3 := B2'.trans (B3.mono hs2)
  have hb3 : Bs w3 (.slice ao zs.length cap) zs := hb.below B3' (Nat.le_refl _)
  have hs3 := B3.size
  clear hown0 hb2 hgrow3 hat3
  go_wp2_with (at_builtin; refine wpList_append_bs _ rfl (.tmp 16) (.tmp 17) rfl w2.heap.size _ ns rfl hown3 _ zs rfl hb3 (by omega) (by omega) ?_)
  intro ao4 cap4 w4 hown4 hgrow4 hat4
  have B4 : Below w2.heap.size w2 w4 := B3.grown hgrow4 hs3 (fun k hk => (World.ownsRow.lt hown3 k hk).1)
  have hs4 := B4.size
  have B4' : Below w.heap.size w w4 := B2'.trans (B4.mono hs2)
  have hb4 := hown4.bs
  clear hown3 hgrow4 hat4 hb3 hown4
  have hlen : (ns ++ zs).length ≤ 100000000000000 := by rw [List.length_append]; omega
  go_wp2_with fail
  refine (newReader_any _ (ns ++ zs) _ hb4 hlen).mono ?_
  rintro e w5 ⟨b5, v5, rfl, hr5, B5, hb5, hk5⟩
  have B5' : Below w2.heap.size w2 w5 := B4.trans (B5.mono hs4)
  have hs5 := B5'.size
  go_wp2_with fail
  refine (refNum_any x _ h0 h1).mono ?_
  rw [HNS.out]
  rintro e w6 ⟨ao6, cap6, rfl, ho6, B6⟩
  have hb26 : Bs w6 (.slice ao2 ns.length cap2) ns := (ho2.bs.below B5' (Nat.le_refl _)).below B6 (Nat.le_refl _)
  have hr6 := hr5.below B6 (Nat.le_refl _)
  go_wp2_with fail
  refine (same_any _ _ _ _ _ hb26 ho6.bs).mono ?_
  rintro e w7 ⟨rfl, hsm7⟩
  rw [eqB_true rfl]
  have hr7 := hr6.sm hsm7
  go_wp2_with fail
  refine (rnum_any b5 v5 _ _ hr7 (hnb.append hz)).mono ?_
  rw [HNR.out]
  rintro e w8 ⟨rfl, v8, hr8, hs8, hv8⟩
  go_wp2_with fail
  refine (left_any b5 v8 _ _ _ hr8).mono ?_
  rintro e w9 ⟨rfl, rfl⟩
  have B6' : Below w.heap.size w w6 := (B2'.trans (B5'.mono hs2)).trans (B6.mono (by omega))
  have B7' : Below w.heap.size w w7 := B6'.trans (hsm7.below _)
  have B8' : Below w.heap.size w w8 := B7'.trans (hs8.below (by omega) B7'.size)
  have ht8 := ht.below B8' htl
  go_wp2_with fail
  refine (known_any _ ht8).mono ?_
  rintro e w9 ⟨rfl, B9⟩
  go_wp2
  go_ret
  exact ⟨rfl, B8'.trans (B9.mono B8'.size)⟩
end Go.Proofs.YtamifgaaalclcaaDoor
