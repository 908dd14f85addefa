/-
  The document's own Link, by contract.
-/
import Derived.Test.YtkfmplkbimnjfaaRSum
namespace Go.Proofs.Ytkfmplkbimnjfaa
open Go.RowKit
set_option maxHeartbeats 800000 in
theorem rlink_any (h bs : List Int) (v : Value) (w : World) (hl : h.length = 32) (hh : Byt h) (hb : Bs w v bs) (hby : Byt bs) (hn : bs.length ≤ 100000) :
    Calls Try.prog 13 #[.agg (cellsOf h).toArray, v] w fun e w' => e = .returned (.agg (cellsOf (linkN h bs)).toArray) ∧ Below w.heap.size w w' := by
  obtain ⟨a0, c0, hv, _⟩ := hb.len
  subst hv
  obtain ⟨fl, hfl⟩ : ∃ fl, fl = cellsOf (linkN h bs) := ⟨_, rfl⟩
  obtain ⟨zl, hzl⟩ : ∃ zl, zl = cellsOf (zeroB 32) := ⟨_, rfl⟩
  rw [← hfl]
  have ZL : Hid ((Try.prog.info? 25).bind (·.zero) = some (.agg zl.toArray)) := by rw [hzl]; exact Try.zero25
  have HIz : Hid ((Try.prog.info? 25).map (·.size) = some zl.length) := by rw [hzl]; exact hsB Try.size25 (zeroB_len 32)
  have HIf : Hid ((Try.prog.info? 25).map (·.size) = some fl.length) := by rw [hfl]; exact hsB Try.size25 (shaN_length _)
  have HLf : Hid (zl.length = fl.length) := by rw [hzl, hfl]; exact hlB (by rw [zeroB_len]; exact (shaN_length _).symm)
  have HCf : Hid (∀ v ∈ fl, v.oneCell' = true) := by rw [hfl]; exact cellsOf_one _
  have HFL := hid_into hfl
  have HHL := hid_into hl
  clear hfl hzl
  go_enter Try.func13, Try.ntmps13
  refine wp_seq (wp_region_lit (wpList_box_row rfl 25 (.tmp 0) rfl (cellsOf h) rfl ?_))
  intro W1 hc1 B1 HS1
  refine wpList_alloc_row rfl 25 rfl zl ZL.out ?_
  intro W2 hc2 B2 HS2
  refine wpList_nil ?_
  rw [HS1.out] at hc2 B2 ⊢
  have hh2 : Cw W2 w.heap.size (cellsOf h) 25 := hc1.below B2 (by omega)
  have BB2 : Below w.heap.size w W2 := B1.trans (B2.mono (by omega))
  have HS2' : Hid (W2.heap.size = w.heap.size + 2) := by show _ = _; rw [HS2.out, HS1.out]
  have hbh := hh2.bs (by rw [hl]; unfold maxLen; omega)
  rw [hl] at hbh
  have hb2 := hb.below BB2 (Nat.le_refl _)
  have ho0 : Ow (W2.alloc (.cells #[] 5)) W2.heap.size (.slice (some ⟨W2.heap.size, 0, none⟩) 0 0) [] := Ow_of_block (heap_alloc_new W2 _) (by simp) (Nat.le_refl _)
  have hbh0 : Bs (W2.alloc (.cells #[] 5)) (.slice (some ⟨w.heap.size, 0, none⟩) 32 32) h := hbh.below ((Below.refl _ _).alloc (Nat.le_refl _) _) (Nat.le_refl _)
  have HN3 : Hid ((h ++ bs).length ≤ 1000000) := by show _ ≤ _; rw [List.length_append]; omega
  have HBY := hid_into (hh.append hby)
  clear hc1 B1 B2 HS1 HS2 W1 hb hbh hh2 hl
  go_wp2_with (first
    | (at_builtin; refine wpList_append_bs _ rfl (.tmp 5) (.tmp 6) rfl W2.heap.size _ [] rfl ho0 _ h rfl hbh0 (by rw [HHL.out]; simp) (by simp) ?_; intro ao3 cap3 W3 ho3 hg3 hat3; simp only [List.length_nil, Nat.zero_add, List.nil_append] at ho3 ⊢; have B3 : Below W2.heap.size W2 W3 := ((Below.refl _ W2).alloc (Nat.le_refl _) _).trans (grown_below hg3 ho0 (by simp)); have hb3 := hb2.below B3 (Nat.le_refl _); clear hg3 hat3)
    | (at_builtin; refine wpList_append_bs _ rfl (.tmp 7) (.tmp 8) rfl W2.heap.size _ h rfl ho3 _ bs rfl hb3 (by rw [HHL.out]; omega) B3.size ?_; intro ao4 cap4 W4 ho4 hg4 hat4; have B4 : Below W2.heap.size W2 W4 := B3.trans (grown_below hg4 ho3 B3.size); have hbo : Bs W4 (.slice ao4 (h.length + bs.length) cap4) (h ++ bs) := (by have e := (ow_len ho4).bs; rw [List.length_append] at e; exact e); clear hg4 hat4))
  refine (rsum_any _ (h ++ bs) W4 hbo HBY.out HN3.out).mono ?_
  rintro e W5 ⟨rfl, B5⟩
  have hc5 := (hc2.below B4 hc2.lt).below B5 (by have := B4.size; have := hc2.lt; omega)
  have BB5 : Below w.heap.size w W5 := (BB2.trans (B4.mono (by rw [HS2'.out]; omega))).trans (B5.mono (by have := B4.size; have := HS2'.out; omega))
  rw [show cellsOf (shaN (h ++ bs)) = fl from HFL.out.symm]
  go_wp2_with (refine wpList_store_rw rfl 25 (.tmp 4) (.tmp 10) rfl (w.heap.size + 1) zl fl 25 rfl rfl hc5 HIz HLf HCf.out ?_; intro WA hcA OA)
  exact ret_row rfl rfl rfl hcA Try.underlying25 rfl HIf ⟨rfl, BB5.trans (OA.below (by omega))⟩
end Go.Proofs.Ytkfmplkbimnjfaa
