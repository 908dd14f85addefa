/-
  FrameDecodes, walked: for all bytes it answers true, and writes nothing that was there.
-/
import Derived.Test.YteinhklopnlgbaaDoorRowsK
import Derived.Test.YteinhklopnlgbaaDoorScan
namespace Go.Proofs.YteinhklopnlgbaaDoor
open Go.RowKit

theorem front2_of {w : World} {base g cap : Nat} {zs : List Int} (ho : Ow w base (.slice (some ⟨g, 0, none⟩) (zs.length + 1) cap) (zs ++ [171])) : Bs w (.slice (some ⟨g, 0, none⟩) zs.length cap) zs := by
  have h := ho.bs.front zs.length (by simp)
  rwa [List.take_left' rfl] at h

set_option maxHeartbeats 6400000 in
set_option maxRecDepth 20000 in
theorem decodes_walk (vb : Value) (zs : List Int) (w : World) (hb : Bs w vb zs) (hy : Byt zs) (lz : zs.length ≤ 140737488355328) (ht : Tab w) :
    Calls Tryd.prog 4 #[vb] w fun e w' => e = .returned (.bool true) ∧ Below w.heap.size w w' := by
  have htl := ht.lt
  obtain ⟨ap, cp, hvb, mp⟩ := hb.len
  subst hvb
  by_cases hbig : 4000 < zs.length
  · have hbig' : (4000 : Int) < (zs.length : Int) := by omega
    clear hb
    go_enter Tryd.func4, Tryd.ntmps4
    go_wp2
    go_ret
    exact ⟨rfl, Below.refl _ _⟩
  have hsm : (zs.length : Int) ≤ 4000 := by omega
  go_enter Tryd.func4, Tryd.ntmps4
  go_wp2_with fail
  refine (roomy_any _ zs _ hb (by omega)).mono ?_
  rintro e w1 ⟨g, cap, rfl, ho1, B1, hg1, hc1⟩
  have hcm : cap ≤ maxLen := ho1.bounds.2.2
  have hgl : g < w1.heap.size := (World.ownsRow.lt ho1 g rfl).2
  have f1 : (zs.length : Int) ≤ (cap : Int) := by omega
  have C1 := dec_any _ zs w1 (front2_of ho1) hy (by omega) (ht.below B1 htl)
  unfold maxLen at hcm
  go_wp2_with fail
  refine C1.mono ?_
  rintro e w2 ⟨ao2, cap2, rfl, ho2, B2⟩
  have B2' : Below w.heap.size w w2 := B1.trans (B2.mono B1.size)
  have C2 : Calls Tryd.prog 15 #[.slice ap zs.length cp] w2 fun e w' => ∃ ao cap, e = .returned (.tuple #[.slice ao (decP zs).length cap, .int .i64 (decN zs), .int .i64 (decE zs)]) ∧ Ow w' w2.heap.size (.slice ao (decP zs).length cap) (decP zs) ∧ Below w2.heap.size w2 w' := rdec_any _ zs w2 (hb.below B2' (Nat.le_refl _)) hy (by omega)
  have lP : Hid ((decP zs).length ≤ 4000) := by
    show _ ≤ _
    by_cases h : decE zs = 0
    · rw [decP_good h]; simp; omega
    · rw [decP_bad h]; simp
  generalize decP zs = P at *
  generalize decN zs = nn at *
  generalize decE zs = er at *
  clear C1
  go_wp2_with fail
  refine C2.mono ?_
  rintro e w3 ⟨ao3, cap3, rfl, ho3, B3⟩
  have B3' : Below w.heap.size w w3 := B2'.trans (B3.mono B2'.size)
  have ho1a := (ho1.grew B2 (Nat.le_refl _)).grew B3 (Nat.le_refl _)
  have ho2a := ho2.grew B3 (Nat.le_refl _)
  have C3 : Calls Tryd.prog 16 #[.slice (some ⟨g, 0, none⟩) zs.length cap] w3 (ScanPost w3 zs) := scan_any _ zs w3 (front2_of ho1a) (Or.inr ⟨g, 0, cap, rfl⟩) hy (by omega) (ht.below B3' htl)
  clear C2 ho1 ho2 B1
  go_wp2_with fail
  refine C3.mono ?_
  rintro e w4 ⟨ao4, cap4, rs4, m4, rfl, hos4, hsc4, hend4, B4⟩
  have B4' : Below w.heap.size w w4 := B3'.trans (B4.mono B3'.size)
  have C4 : Calls Tryd.prog 17 #[.slice ap zs.length cp] w4 (ScanPost w4 zs) := rscan_any _ zs w4 (hb.below B4' (Nat.le_refl _)) hy (by omega)
  clear C3
  go_wp2_with fail
  refine C4.mono ?_
  rintro e w5 ⟨ao5, cap5, rs5, m5, rfl, hos5, hsc5, hend5, B5⟩
  have B5' : Below w.heap.size w w5 := B4'.trans (B5.mono B4'.size)
  have hsz5 : w1.heap.size ≤ w5.heap.size := Nat.le_trans B2.size (Nat.le_trans B3.size (Nat.le_trans B4.size B5.size))
  obtain ⟨hrs, rfl⟩ := hsc4.uniq hend4 hsc5 hend5
  have n4 := hsc4.many
  have n5 := hsc5.many
  have lm := hsc4.le
  rw [bytesOf2_len] at n4 n5
  have ho1b := (ho1a.grew B4 (Nat.le_refl _)).grew B5 (Nat.le_refl _)
  have ho2b := (ho2a.grew B4 (Nat.le_refl _)).grew B5 (Nat.le_refl _)
  have ho3b := (ho3.grew B4 (Nat.le_refl _)).grew B5 (Nat.le_refl _)
  have hr4 : Rs w5 (.slice ao4 rs4.length cap4) rs4 := (hos4.rs (by omega)).below B5
  have hr5 : Rs w5 (.slice ao5 rs5.length cap5) rs5 := hos5.rs (by omega)
  have C5 := same_any _ _ P P w5 ho2b.bs ho3b.bs
  rw [eqB_true rfl] at C5
  clear C4 ho1a ho2a ho3 hos4 hos5 hsc4 hsc5 hend4 hend5 B2' B3' B4' B3 B4 B5
  go_wp2_with fail
  refine C5.mono ?_
  rintro e w6 ⟨rfl, hs6⟩
  have B6 : Below w.heap.size w w6 := B5'.trans (hs6.below _)
  have C6 := rows_any _ _ rs4 rs5 w6 (hr4.below (hs6.below _)) (hr5.below (hs6.below _))
  rw [eqR_true hrs] at C6
  have ho1c := hs6.ow ho1b
  have ho2c := hs6.ow ho2b
  clear C5 ho1b ho2b ho3b hr4 hr5 B5'
  go_wp2_with fail
  refine C6.mono ?_
  rintro e w7 ⟨rfl, hs7⟩
  have B7 : Below w.heap.size w w7 := B6.trans (hs7.below _)
  have ho1d := hs7.ow ho1c
  have ho2d := hs7.ow ho2c
  have hsz7 : w1.heap.size ≤ w7.heap.size := Nat.le_trans hsz5 (by rw [hs7.heap, hs6.heap]; exact Nat.le_refl _)
  have C7 := spoil_any w1.heap.size _ P w7 ho2d hsz7 (by have := lP.out; omega)
  clear C6 ho1c ho2c hs7 B6
  go_wp2_with fail
  refine C7.mono ?_
  rintro e w8 ⟨rfl, hg8⟩
  have B8 : Below w.heap.size w w8 := B7.trans (grown_below hg8 B7.size (fun k hk => by have := ho2d.from k hk; omega))
  have ho1e : Ow w8 w.heap.size (.slice (some ⟨g, 0, none⟩) (zs.length + 1) cap) (zs ++ [171]) := ho1d.keep fun k hk hlt => hg8.block k hlt (fun e => by
    have hk' : g = k := by simpa [Value.ownBlock] using hk
    have := ho2d.from k e.symm
    omega)
  have C8 := stands_any w.heap.size g cap _ zs w8 ho1e (hb.below B8 (Nat.le_refl _)) (by omega)
  clear C7 ho1d ho2d hg8 B7
  go_wp2_with fail
  refine C8.mono ?_
  rintro e w9 ⟨rfl, hs9⟩
  have B9 : Below w.heap.size w w9 := B8.trans (hs9.below _)
  have C9 := known_any w9 (ht.below B9 htl)
  clear C8 ho1e
  go_wp2_with fail
  refine C9.mono ?_
  rintro e w10 ⟨rfl, hB10⟩
  go_wp2
  go_ret
  exact ⟨rfl, B9.trans (hB10.mono B9.size)⟩
end Go.Proofs.YteinhklopnlgbaaDoor
