/-
  FrameEncodes, walked: for all bytes and whatever stands behind it answers true, and writes nothing that was there.
-/
import Derived.Test.YteinhklopnlgbaaDoorRowsK
namespace Go.Proofs.YteinhklopnlgbaaDoor
open Go.RowKit

theorem front_of {w : World} {base g cap : Nat} {zs : List Int} (ho : Ow w base (.slice (some ⟨g, 0, none⟩) (zs.length + 1) cap) (zs ++ [171])) : Bs w (.slice (some ⟨g, 0, none⟩) zs.length cap) zs := by
  have h := ho.bs.front zs.length (by simp)
  rwa [List.take_left' rfl] at h

set_option maxHeartbeats 6400000 in
set_option maxRecDepth 20000 in
theorem encodes_walk (vp vm : Value) (ps ms : List Int) (w : World) (hp : Bs w vp ps) (hm : Bs w vm ms) (yp : Byt ps) (ym : Byt ms) (lp : ps.length ≤ 140737488355328) (lm : ms.length ≤ 140737488355328) (ht : Tab w) :
    Calls Tryd.prog 3 #[vp, vm] w fun e w' => e = .returned (.bool true) ∧ Below w.heap.size w w' := by
  have htl := ht.lt
  obtain ⟨ap, cp, hvp, mp⟩ := hp.len
  obtain ⟨am, cm, hvm, mm⟩ := hm.len
  subst hvp; subst hvm
  by_cases hbig : 4000 < ps.length + ms.length
  · have hbig' : (4000 : Int) < (ps.length : Int) + (ms.length : Int) := by omega
    clear hp hm
    go_enter Tryd.func3, Tryd.ntmps3
    go_wp2
    go_ret
    exact ⟨rfl, Below.refl _ _⟩
  have hsm : (ps.length : Int) + (ms.length : Int) ≤ 4000 := by omega
  have hl : ps.length ≤ 65536 := by omega
  go_enter Tryd.func3, Tryd.ntmps3
  go_wp2_with fail
  refine (roomy_any _ ps _ hp (by omega)).mono ?_
  rintro e w1 ⟨g, cap, rfl, ho1, B1, hg1, hc1⟩
  have hcm : cap ≤ maxLen := ho1.bounds.2.2
  unfold maxLen at hcm
  have f1 : (ps.length : Int) ≤ (cap : Int) := by omega
  have hb1 := front_of ho1
  have hgl : g < w1.heap.size := (World.ownsRow.lt ho1 g rfl).2
  have C1 := enc_any _ ps w1 hb1 yp hl (ht.below B1 htl) (fun k hk => by
    have hk' : g = k := by simpa [Value.ownBlock] using hk
    omega)
  clear hb1
  go_wp2_with fail
  refine C1.mono ?_
  rintro e w2 ⟨ao2, cap2, rfl, ho2, B2⟩
  have B2' : Below w.heap.size w w2 := B1.trans (B2.mono B1.size)
  have C2 := renc_any _ ps w2 (hp.below B2' (Nat.le_refl _)) yp hl
  clear C1
  go_wp2_with fail
  refine C2.mono ?_
  rintro e w3 ⟨ao3, cap3, rfl, ho3, B3⟩
  have B3' : Below w.heap.size w w3 := B2'.trans (B3.mono B2'.size)
  have ho2' := ho2.grew B3 (Nat.le_refl _)
  have ho1' := (ho1.grew B2 (Nat.le_refl _)).grew B3 (Nat.le_refl _)
  obtain ⟨d1, d2, d3⟩ := dec_rec ps ms yp hl
  have yR := recN_byt yp
  have lR : Hid ((recN ps).length ≤ 5000) := by show _ ≤ _; rw [recN_len]; omega
  have lR2 : Hid ((recN ps).length = ps.length + 12) := recN_len ps
  generalize recN ps = R at *
  have C3 := same_any _ _ R R w3 ho2'.bs ho3.bs
  rw [eqB_true rfl] at C3
  clear C2 ho2 ho1
  go_wp2_with fail
  refine C3.mono ?_
  rintro e w4 ⟨rfl, hs4⟩
  have B4' : Below w.heap.size w w4 := B3'.trans (hs4.below _)
  have C4 := stands_any w.heap.size g cap _ ps w4 (hs4.ow ho1') (hp.below B4' (Nat.le_refl _)) (by omega)
  have ho4 := hs4.ow ho2'
  clear C3 ho3 ho2' ho1'
  go_wp2_with fail
  refine C4.mono ?_
  rintro e w5 ⟨rfl, hs5⟩
  have B5 : Below w.heap.size w w5 := B4'.trans (hs5.below _)
  have ho5 := hs5.ow ho4
  have B5a : Below w.heap.size w (w5.alloc (.cells #[] 5)) := B5.alloc B5.size _
  have ho6 : Ow (w5.alloc (.cells #[] 5)) w.heap.size (.slice (some ⟨w5.heap.size, 0, none⟩) 0 0) [] := Ow_of_block (heap_alloc_new w5 _) (by simp) B5.size
  have hb6 : Bs (w5.alloc (.cells #[] 5)) (.slice ao2 R.length cap2) R := ho5.bs.below ((Below.refl _ _).alloc (Nat.le_refl _) _) (Nat.le_refl _)
  clear C4 ho4 hs4 hs5 B1 B2 B3 B2' B3' B4'
  go_wp2_with (at_builtin; refine wpList_append_bs _ rfl (.tmp 50) (.tmp 51) rfl w.heap.size _ [] rfl ho6 _ R rfl hb6 (by have := lR.out; simp; omega) B5a.size ?_)
  intro ao7 cap7 w7 ho7 hg7 hat7
  have B7 : Below w.heap.size w w7 := B5a.trans (grown_below hg7 B5a.size ho6.from)
  have hm7 := hm.below B7 (Nat.le_refl _)
  clear ho6 hb6 hg7 hat7 B5a
  have ho7' : Ow w7 w.heap.size (.slice ao7 R.length cap7) R := by simpa using ho7
  clear ho7
  try rw [show ([] : List Int).length + R.length = R.length by simp]
  go_wp2_with (at_builtin; refine wpList_append_bs _ rfl (.tmp 52) (.tmp 53) rfl w.heap.size _ R rfl ho7' _ ms rfl hm7 (by have := lR.out; omega) B7.size ?_)
  intro ao8 cap8 w8 ho8 hg8 hat8
  have B8 : Below w.heap.size w w8 := B7.trans (grown_below hg8 B7.size ho7'.from)
  rw [← List.length_append] at ho8
  rw [← List.length_append]
  have lS : Hid ((R ++ ms).length ≤ 9000) := by show _ ≤ _; have := lR.out; rw [List.length_append]; omega
  have C5 := dec_any _ _ w8 ho8.bs (yR.app ym) (by have := lS.out; omega) (ht.below B8 htl)
  rw [d1, d2, d3] at C5
  clear d1 d2 d3 ho7' hm7 hg8 hat8
  generalize R ++ ms = S at *
  go_wp2_with fail
  refine C5.mono ?_
  rintro e w9 ⟨ao9, cap9, rfl, ho9, hB9⟩
  have B9 : Below w.heap.size w w9 := B8.trans (hB9.mono B8.size)
  have C6 := same_any _ _ ps ps w9 ho9.bs (hp.below B9 (Nat.le_refl _))
  rw [eqB_true rfl] at C6
  have hR : R.length = ps.length + 12 := lR2.out
  clear C5 ho8 ho9 hB9 ho5
  go_wp2_with fail
  refine C6.mono ?_
  rintro e w10 ⟨rfl, hs10⟩
  have B10 : Below w.heap.size w w10 := B9.trans (hs10.below _)
  have C7 := known_any w10 (ht.below B10 htl)
  go_wp2_with fail
  refine C7.mono ?_
  rintro e w11 ⟨rfl, hB11⟩
  go_wp2
  go_ret
  exact ⟨rfl, B10.trans (hB11.mono B10.size)⟩
end Go.Proofs.YteinhklopnlgbaaDoor
