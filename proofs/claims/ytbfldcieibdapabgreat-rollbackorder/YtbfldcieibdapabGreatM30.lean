/-
  Joined from: Does4, DoesAll.
-/
import Derived.Test.YtbfldcieibdapabGreatM26
import Derived.Test.YtbfldcieibdapabGreatM27
import Derived.Test.YtbfldcieibdapabGreatM28
import Derived.Test.YtbfldcieibdapabGreatM29
section
/-
  The document's does, in parts: each instruction, by a contract.
-/
namespace Go.Proofs.YtbfldcieibdapabGreat
open Go.RowKit
variable {fr i0 i1 : Int} {sv : Value} {cells : List Int} {seed : Int} {w w' : World} {g : Nat} {zs : List Int}
set_option maxRecDepth 20000 in
set_option maxHeartbeats 2000000 in
theorem does_17_full (a : Int) (n j : Nat) (hj : j < 256) (hl : zs.length = 32) (hi : Ins3 fr i0 i1) (h : Rw w g fr i0 i1 zs ⟨cells, seed, (j : Int), -1, false⟩ sv) : DoesC w g n j fr i0 i1 cells seed zs (17, a) := by
  have hjj : (j : Int) < 256 := by omega
  have HD : Hid (doI fr i0 i1 n (17, a) ⟨cells, seed, (zs : List Int).reverse, j, none⟩ = none) := hid_into (by show (if (zs.reverse).length < 32 then _ else _) = _; rw [if_neg (by simp; omega)])
  have hT : (0 : Int) ≤ ((zs : List Int).length : Int) := by omega
  have HI := hid_into hi
  have fr1 := hi.fr.1
  have fr2 := hi.fr.2
  have n1 := hi.i0.1
  have n2 := hi.i0.2
  have n3 := hi.i1.1
  have n4 := hi.i1.2
  clear hi
  have HX : Hid (Cw (w.alloc (.cells #[.int .i64 17, .int .i64 a] 66)) w.heap.size [.int .i64 17, .int .i64 a] 66) := Cw.new _ _ _
  have HA := hid_into (h.below ((Below.refl w.heap.size w).alloc (Nat.le_refl _) (.cells #[.int .i64 17, .int .i64 a] 66)))
  have HL := hid_into h.lt
  have c22 := HA.out.slice
  have c23 := HA.out.pc
  have c25 := HA.out.bad
  have f23 := HA.out.row.frozen 23
  have f25 := HA.out.row.frozen 25
  have hlz := h.len
  obtain ⟨ao, cp, hsv, hc1, hc2⟩ := h.st.form
  subst hsv
  simp only at c23 c25
  clear h hc1 hc2
  unfold DoesC
  go_enter Tryz.func61, Tryz.ntmps61
  go_wp2_with fail
  go_quiet ((go_at_call 81; refine Calls.quiet_of_same ((takes_17 _).mono fun _ _ h => ⟨h.1, h.2⟩)))
  have hs : Sm (w.alloc (.cells #[.int .i64 17, .int .i64 a] 66)) ((w.alloc (.cells #[.int .i64 17, .int .i64 a] 66)).drewN nq) := Sm.drewN _ _
  generalize (w.alloc (.cells #[.int .i64 17, .int .i64 a] 66)).drewN nq = W at hs ⊢
  have HR := hid_into (HA.out.sm hs)
  have HX2 := hid_into (hs.cw HX.out)
  have B0 : Hid (Below g w W) := hid_into (((Below.refl g w).alloc (by have := HL.out; omega) _).trans (hs.below g))
  clear c22 c23 c25 f23 f25 HA HX hs
  have c23 := HR.out.pc
  have f23 := HR.out.row.frozen 23
  simp only at c23
  have HP := hid_into (HR.out.setPc ((j : Int) + 1))
  have z0 : W.cell? ⟨w.heap.size, 0, none⟩ = some (.int .i64 17) := (HX2.out.cell 0).trans rfl
  have z1 : W.cell? ⟨w.heap.size, 1, none⟩ = some (.int .i64 a) := (HX2.out.cell 1).trans rfl
  have hxg : w.heap.size ≠ g := by have := HL.out; omega
  have BP : Hid (Below g w (W.setCell ⟨g, 23, none⟩ (.int .i64 ((j : Int) + 1)))) := hid_into (B0.out.trans ((Only.set _ _ _ _).below (Nat.le_refl _)))
  have HXP : Hid (Cw (W.setCell ⟨g, 23, none⟩ (.int .i64 ((j : Int) + 1))) w.heap.size [.int .i64 17, .int .i64 a] 66) := hid_into (two_blocks HX2.out hxg _ _)
  have HPw := hid_into HP.out
  have BPw := hid_into BP.out
  have c0 := HR.out.frame
  have HV : Hid (In32 fr) := ⟨by omega, by omega⟩
  clear HR HX2 B0
  go_wp2_with (go_at_call 82; refine (rpush_full _ HPw.out hl).mono ?_; rintro e W2 ⟨rfl, hR2, hB2⟩; have b25 := hR2.bad; have p23 := hR2.pc; simp only at b25 p23)
  go_ret
  exact ⟨_, _, _, _, rfl, hR2, BPw.out.trans hB2, Or.inr ⟨HD.out, rfl, rfl⟩⟩
set_option maxRecDepth 20000 in
set_option maxHeartbeats 2000000 in
theorem does_16_0_full (n j : Nat) (hj : j < 256) (hl : zs.length = 32) (hi : Ins3 fr i0 i1) (h : Rw w g fr i0 i1 zs ⟨cells, seed, (j : Int), -1, false⟩ sv) : DoesC w g n j fr i0 i1 cells seed zs (16, 0) := by
  have hjj : (j : Int) < 256 := by omega
  have HD : Hid (doI fr i0 i1 n (16, 0) ⟨cells, seed, (zs : List Int).reverse, j, none⟩ = none) := hid_into (by show (if (zs.reverse).length < 32 then _ else _) = _; rw [if_neg (by simp; omega)])
  have hT : (0 : Int) ≤ ((zs : List Int).length : Int) := by omega
  have HI := hid_into hi
  have fr1 := hi.fr.1
  have fr2 := hi.fr.2
  have n1 := hi.i0.1
  have n2 := hi.i0.2
  have n3 := hi.i1.1
  have n4 := hi.i1.2
  clear hi
  have HX : Hid (Cw (w.alloc (.cells #[.int .i64 16, .int .i64 0] 66)) w.heap.size [.int .i64 16, .int .i64 0] 66) := Cw.new _ _ _
  have HA := hid_into (h.below ((Below.refl w.heap.size w).alloc (Nat.le_refl _) (.cells #[.int .i64 16, .int .i64 0] 66)))
  have HL := hid_into h.lt
  have c22 := HA.out.slice
  have c23 := HA.out.pc
  have c25 := HA.out.bad
  have f23 := HA.out.row.frozen 23
  have f25 := HA.out.row.frozen 25
  have hlz := h.len
  obtain ⟨ao, cp, hsv, hc1, hc2⟩ := h.st.form
  subst hsv
  simp only at c23 c25
  clear h hc1 hc2
  unfold DoesC
  go_enter Tryz.func61, Tryz.ntmps61
  go_wp2_with fail
  go_quiet ((go_at_call 81; refine Calls.quiet_of_same ((takes_16 _).mono fun _ _ h => ⟨h.1, h.2⟩)))
  have hs : Sm (w.alloc (.cells #[.int .i64 16, .int .i64 0] 66)) ((w.alloc (.cells #[.int .i64 16, .int .i64 0] 66)).drewN nq) := Sm.drewN _ _
  generalize (w.alloc (.cells #[.int .i64 16, .int .i64 0] 66)).drewN nq = W at hs ⊢
  have HR := hid_into (HA.out.sm hs)
  have HX2 := hid_into (hs.cw HX.out)
  have B0 : Hid (Below g w W) := hid_into (((Below.refl g w).alloc (by have := HL.out; omega) _).trans (hs.below g))
  clear c22 c23 c25 f23 f25 HA HX hs
  have c23 := HR.out.pc
  have f23 := HR.out.row.frozen 23
  simp only at c23
  have HP := hid_into (HR.out.setPc ((j : Int) + 1))
  have z0 : W.cell? ⟨w.heap.size, 0, none⟩ = some (.int .i64 16) := (HX2.out.cell 0).trans rfl
  have z1 : W.cell? ⟨w.heap.size, 1, none⟩ = some (.int .i64 0) := (HX2.out.cell 1).trans rfl
  have hxg : w.heap.size ≠ g := by have := HL.out; omega
  have BP : Hid (Below g w (W.setCell ⟨g, 23, none⟩ (.int .i64 ((j : Int) + 1)))) := hid_into (B0.out.trans ((Only.set _ _ _ _).below (Nat.le_refl _)))
  have HXP : Hid (Cw (W.setCell ⟨g, 23, none⟩ (.int .i64 ((j : Int) + 1))) w.heap.size [.int .i64 16, .int .i64 0] 66) := hid_into (two_blocks HX2.out hxg _ _)
  have HPw := hid_into (HP.out.sm (w' := (W.setCell ⟨g, 23, none⟩ (.int .i64 ((j : Int) + 1))).drew) ⟨rfl, rfl, rfl, rfl⟩)
  have BPw : Hid (Below g w (W.setCell ⟨g, 23, none⟩ (.int .i64 ((j : Int) + 1))).drew) := hid_into BP.out.drew
  have y1 : (W.setCell ⟨g, 23, none⟩ (.int .i64 ((j : Int) + 1))).cell? ⟨w.heap.size, 1, none⟩ = some (.int .i64 0) := (HXP.out.cell 1).trans rfl
  have y2 := HP.out.in0
  have HV : Hid (In32 i0) := ⟨by omega, by omega⟩
  clear HR HX2 B0
  go_wp2_with fail
  go_region_with (go_at_call 82; refine (rpush_full _ HPw.out hl).mono ?_; rintro e W2 ⟨rfl, hR2, hB2⟩; have b25 := hR2.bad; have p23 := hR2.pc; simp only at b25 p23)
  go_wp2_with fail
  go_ret
  exact ⟨_, _, _, _, rfl, hR2, BPw.out.trans hB2, Or.inr ⟨HD.out, rfl, rfl⟩⟩
set_option maxRecDepth 20000 in
set_option maxHeartbeats 2000000 in
theorem does_4 (a : Int) (n j : Nat) (hj : j < 256) {ys : List Int} {b c : Int} (hi : Ins3 fr i0 i1) (h : Rw w g fr i0 i1 (ys ++ [b] ++ [c]) ⟨cells, seed, (j : Int), -1, false⟩ sv) : DoesC w g n j fr i0 i1 cells seed (ys ++ [b] ++ [c]) (4, a) := by
  have hjj : (j : Int) < 256 := by omega
  have HD : Hid (doI fr i0 i1 n (4, a) ⟨cells, seed, ((ys ++ [b] ++ [c]) : List Int).reverse, j, none⟩ = some ⟨cells, seed, twoI 4 b c :: ys.reverse, j + 1, none⟩) := hid_into (by rw [List.reverse_append, List.reverse_append]; rfl)
  have hT : (2 : Int) ≤ (((ys ++ [b] ++ [c]) : List Int).length : Int) := by simp; omega
  have HI := hid_into hi
  have fr1 := hi.fr.1
  have fr2 := hi.fr.2
  have n1 := hi.i0.1
  have n2 := hi.i0.2
  have n3 := hi.i1.1
  have n4 := hi.i1.2
  clear hi
  have HX : Hid (Cw (w.alloc (.cells #[.int .i64 4, .int .i64 a] 66)) w.heap.size [.int .i64 4, .int .i64 a] 66) := Cw.new _ _ _
  have HA := hid_into (h.below ((Below.refl w.heap.size w).alloc (Nat.le_refl _) (.cells #[.int .i64 4, .int .i64 a] 66)))
  have HL := hid_into h.lt
  have c22 := HA.out.slice
  have c23 := HA.out.pc
  have c25 := HA.out.bad
  have f23 := HA.out.row.frozen 23
  have f25 := HA.out.row.frozen 25
  have hlz := h.len
  obtain ⟨ao, cp, hsv, hc1, hc2⟩ := h.st.form
  subst hsv
  simp only at c23 c25
  clear h hc1 hc2
  unfold DoesC
  go_enter Tryz.func61, Tryz.ntmps61
  go_wp2_with fail
  go_quiet ((go_at_call 81; refine Calls.quiet_of_same ((takes_4 _).mono fun _ _ h => ⟨h.1, h.2⟩)))
  have hs : Sm (w.alloc (.cells #[.int .i64 4, .int .i64 a] 66)) ((w.alloc (.cells #[.int .i64 4, .int .i64 a] 66)).drewN nq) := Sm.drewN _ _
  generalize (w.alloc (.cells #[.int .i64 4, .int .i64 a] 66)).drewN nq = W at hs ⊢
  have HR := hid_into (HA.out.sm hs)
  have HX2 := hid_into (hs.cw HX.out)
  have B0 : Hid (Below g w W) := hid_into (((Below.refl g w).alloc (by have := HL.out; omega) _).trans (hs.below g))
  clear c22 c23 c25 f23 f25 HA HX hs
  have c23 := HR.out.pc
  have f23 := HR.out.row.frozen 23
  simp only at c23
  have HP := hid_into (HR.out.setPc ((j : Int) + 1))
  have z0 : W.cell? ⟨w.heap.size, 0, none⟩ = some (.int .i64 4) := (HX2.out.cell 0).trans rfl
  have z1 : W.cell? ⟨w.heap.size, 1, none⟩ = some (.int .i64 a) := (HX2.out.cell 1).trans rfl
  have hxg : w.heap.size ≠ g := by have := HL.out; omega
  have BP : Hid (Below g w (W.setCell ⟨g, 23, none⟩ (.int .i64 ((j : Int) + 1)))) := hid_into (B0.out.trans ((Only.set _ _ _ _).below (Nat.le_refl _)))
  have HXP : Hid (Cw (W.setCell ⟨g, 23, none⟩ (.int .i64 ((j : Int) + 1))) w.heap.size [.int .i64 4, .int .i64 a] 66) := hid_into (two_blocks HX2.out hxg _ _)
  have HPw := hid_into HP.out
  have BPw := hid_into BP.out
  have hb := hid_into (HP.out.sin b (by simp))
  have hc := hid_into (HP.out.sin c (by simp))
  clear HR HX2 B0
  go_wp2_with (first
    | (go_at_call 83; refine (rpop_some (ys ++ [b]) c HPw.out).mono ?_; rintro e W2 ⟨rfl, svW2, hRW2, hOW2⟩; have HW2 := hid_into hRW2; clear hRW2 HPw)
    | (go_at_call 83; refine (rpop_some ys b HW2.out).mono ?_; rintro e W3 ⟨rfl, svW3, hRW3, hOW3⟩; have HW3 := hid_into hRW3; clear hRW3; have y0 : W3.cell? ⟨w.heap.size, 0, none⟩ = some (.int .i64 4) := (World.cell?_of_block (w := W2) (a := ⟨w.heap.size, 0, none⟩) (hOW3.block _ hxg)).trans ((World.cell?_of_block (w := (W.setCell ⟨g, 23, none⟩ (.int .i64 ((j : Int) + 1)))) (a := ⟨w.heap.size, 0, none⟩) (hOW2.block _ hxg)).trans ((HXP.out.cell 0).trans rfl)))
    | (go_at_call 85; refine (two_4 b c hb.out hc.out _).mono ?_; rintro e w' ⟨rfl, rfl⟩)
    | (go_at_call 82; refine (rpush_room (twoI 4 b c) (twoI_in hb.out hc.out) HW3.out (by have := hlz; simp at this; omega)).mono ?_; rintro e W4 ⟨rfl, svW4, hRW4, hBW4⟩; have b25 := hRW4.bad; have p23 := hRW4.pc; simp only at b25 p23; have HW4 := hid_into hRW4; clear hRW4 HW3))
  go_ret
  exact ⟨_, _, _, _, rfl, HW4.out, BPw.out.trans ((hOW2.below (Nat.le_refl _)).trans ((hOW3.below (Nat.le_refl _)).trans hBW4)), Or.inl ⟨_, HD.out, rfl, rfl, rfl, by simp, rfl, decide_eq_decide.2 (by show (j : Int) + 1 < (n : Int) ↔ j + 1 < n; omega), fun _ => ⟨by show (j : Int) + 1 = ((j + 1 : Nat) : Int); omega, rfl⟩⟩⟩
set_option maxRecDepth 20000 in
set_option maxHeartbeats 2000000 in
theorem does_8 (a : Int) (n j : Nat) (hj : j < 256) {ys : List Int} {b c : Int} (hi : Ins3 fr i0 i1) (h : Rw w g fr i0 i1 (ys ++ [b] ++ [c]) ⟨cells, seed, (j : Int), -1, false⟩ sv) : DoesC w g n j fr i0 i1 cells seed (ys ++ [b] ++ [c]) (8, a) := by
  have hjj : (j : Int) < 256 := by omega
  have HD : Hid (doI fr i0 i1 n (8, a) ⟨cells, seed, ((ys ++ [b] ++ [c]) : List Int).reverse, j, none⟩ = some ⟨cells, seed, twoI 8 b c :: ys.reverse, j + 1, none⟩) := hid_into (by rw [List.reverse_append, List.reverse_append]; rfl)
  have hT : (2 : Int) ≤ (((ys ++ [b] ++ [c]) : List Int).length : Int) := by simp; omega
  have HI := hid_into hi
  have fr1 := hi.fr.1
  have fr2 := hi.fr.2
  have n1 := hi.i0.1
  have n2 := hi.i0.2
  have n3 := hi.i1.1
  have n4 := hi.i1.2
  clear hi
  have HX : Hid (Cw (w.alloc (.cells #[.int .i64 8, .int .i64 a] 66)) w.heap.size [.int .i64 8, .int .i64 a] 66) := Cw.new _ _ _
  have HA := hid_into (h.below ((Below.refl w.heap.size w).alloc (Nat.le_refl _) (.cells #[.int .i64 8, .int .i64 a] 66)))
  have HL := hid_into h.lt
  have c22 := HA.out.slice
  have c23 := HA.out.pc
  have c25 := HA.out.bad
  have f23 := HA.out.row.frozen 23
  have f25 := HA.out.row.frozen 25
  have hlz := h.len
  obtain ⟨ao, cp, hsv, hc1, hc2⟩ := h.st.form
  subst hsv
  simp only at c23 c25
  clear h hc1 hc2
  unfold DoesC
  go_enter Tryz.func61, Tryz.ntmps61
  go_wp2_with fail
  go_quiet ((go_at_call 81; refine Calls.quiet_of_same ((takes_8 _).mono fun _ _ h => ⟨h.1, h.2⟩)))
  have hs : Sm (w.alloc (.cells #[.int .i64 8, .int .i64 a] 66)) ((w.alloc (.cells #[.int .i64 8, .int .i64 a] 66)).drewN nq) := Sm.drewN _ _
  generalize (w.alloc (.cells #[.int .i64 8, .int .i64 a] 66)).drewN nq = W at hs ⊢
  have HR := hid_into (HA.out.sm hs)
  have HX2 := hid_into (hs.cw HX.out)
  have B0 : Hid (Below g w W) := hid_into (((Below.refl g w).alloc (by have := HL.out; omega) _).trans (hs.below g))
  clear c22 c23 c25 f23 f25 HA HX hs
  have c23 := HR.out.pc
  have f23 := HR.out.row.frozen 23
  simp only at c23
  have HP := hid_into (HR.out.setPc ((j : Int) + 1))
  have z0 : W.cell? ⟨w.heap.size, 0, none⟩ = some (.int .i64 8) := (HX2.out.cell 0).trans rfl
  have z1 : W.cell? ⟨w.heap.size, 1, none⟩ = some (.int .i64 a) := (HX2.out.cell 1).trans rfl
  have hxg : w.heap.size ≠ g := by have := HL.out; omega
  have BP : Hid (Below g w (W.setCell ⟨g, 23, none⟩ (.int .i64 ((j : Int) + 1)))) := hid_into (B0.out.trans ((Only.set _ _ _ _).below (Nat.le_refl _)))
  have HXP : Hid (Cw (W.setCell ⟨g, 23, none⟩ (.int .i64 ((j : Int) + 1))) w.heap.size [.int .i64 8, .int .i64 a] 66) := hid_into (two_blocks HX2.out hxg _ _)
  have HPw := hid_into HP.out
  have BPw := hid_into BP.out
  have hb := hid_into (HP.out.sin b (by simp))
  have hc := hid_into (HP.out.sin c (by simp))
  clear HR HX2 B0
  go_wp2_with (first
    | (go_at_call 83; refine (rpop_some (ys ++ [b]) c HPw.out).mono ?_; rintro e W2 ⟨rfl, svW2, hRW2, hOW2⟩; have HW2 := hid_into hRW2; clear hRW2 HPw)
    | (go_at_call 83; refine (rpop_some ys b HW2.out).mono ?_; rintro e W3 ⟨rfl, svW3, hRW3, hOW3⟩; have HW3 := hid_into hRW3; clear hRW3; have y0 : W3.cell? ⟨w.heap.size, 0, none⟩ = some (.int .i64 8) := (World.cell?_of_block (w := W2) (a := ⟨w.heap.size, 0, none⟩) (hOW3.block _ hxg)).trans ((World.cell?_of_block (w := (W.setCell ⟨g, 23, none⟩ (.int .i64 ((j : Int) + 1)))) (a := ⟨w.heap.size, 0, none⟩) (hOW2.block _ hxg)).trans ((HXP.out.cell 0).trans rfl)))
    | (go_at_call 85; refine (two_8 b c hb.out hc.out _).mono ?_; rintro e w' ⟨rfl, rfl⟩)
    | (go_at_call 82; refine (rpush_room (twoI 8 b c) (twoI_in hb.out hc.out) HW3.out (by have := hlz; simp at this; omega)).mono ?_; rintro e W4 ⟨rfl, svW4, hRW4, hBW4⟩; have b25 := hRW4.bad; have p23 := hRW4.pc; simp only at b25 p23; have HW4 := hid_into hRW4; clear hRW4 HW3))
  go_ret
  exact ⟨_, _, _, _, rfl, HW4.out, BPw.out.trans ((hOW2.below (Nat.le_refl _)).trans ((hOW3.below (Nat.le_refl _)).trans hBW4)), Or.inl ⟨_, HD.out, rfl, rfl, rfl, by simp, rfl, decide_eq_decide.2 (by show (j : Int) + 1 < (n : Int) ↔ j + 1 < n; omega), fun _ => ⟨by show (j : Int) + 1 = ((j + 1 : Nat) : Int); omega, rfl⟩⟩⟩
set_option maxRecDepth 20000 in
set_option maxHeartbeats 2000000 in
theorem does_12 (a : Int) (n j : Nat) (hj : j < 256) {ys : List Int} {z : Int} (hi : Ins3 fr i0 i1) (h : Rw w g fr i0 i1 (ys ++ [z]) ⟨cells, seed, (j : Int), -1, false⟩ sv) : DoesC w g n j fr i0 i1 cells seed (ys ++ [z]) (12, a) := by
  have hjj : (j : Int) < 256 := by omega
  have HD : Hid (doI fr i0 i1 n (12, a) ⟨cells, seed, ((ys ++ [z]) : List Int).reverse, j, none⟩ = some ⟨cells, seed, truI (decide (z = 0)) :: ys.reverse, j + 1, none⟩) := hid_into (by rw [List.reverse_append]; rfl)
  have hT : (1 : Int) ≤ (((ys ++ [z]) : List Int).length : Int) := by simp; omega
  have HI := hid_into hi
  have fr1 := hi.fr.1
  have fr2 := hi.fr.2
  have n1 := hi.i0.1
  have n2 := hi.i0.2
  have n3 := hi.i1.1
  have n4 := hi.i1.2
  clear hi
  have HX : Hid (Cw (w.alloc (.cells #[.int .i64 12, .int .i64 a] 66)) w.heap.size [.int .i64 12, .int .i64 a] 66) := Cw.new _ _ _
  have HA := hid_into (h.below ((Below.refl w.heap.size w).alloc (Nat.le_refl _) (.cells #[.int .i64 12, .int .i64 a] 66)))
  have HL := hid_into h.lt
  have c22 := HA.out.slice
  have c23 := HA.out.pc
  have c25 := HA.out.bad
  have f23 := HA.out.row.frozen 23
  have f25 := HA.out.row.frozen 25
  have hlz := h.len
  obtain ⟨ao, cp, hsv, hc1, hc2⟩ := h.st.form
  subst hsv
  simp only at c23 c25
  clear h hc1 hc2
  unfold DoesC
  go_enter Tryz.func61, Tryz.ntmps61
  go_wp2_with fail
  go_quiet ((go_at_call 81; refine Calls.quiet_of_same ((takes_12 _).mono fun _ _ h => ⟨h.1, h.2⟩)))
  have hs : Sm (w.alloc (.cells #[.int .i64 12, .int .i64 a] 66)) ((w.alloc (.cells #[.int .i64 12, .int .i64 a] 66)).drewN nq) := Sm.drewN _ _
  generalize (w.alloc (.cells #[.int .i64 12, .int .i64 a] 66)).drewN nq = W at hs ⊢
  have HR := hid_into (HA.out.sm hs)
  have HX2 := hid_into (hs.cw HX.out)
  have B0 : Hid (Below g w W) := hid_into (((Below.refl g w).alloc (by have := HL.out; omega) _).trans (hs.below g))
  clear c22 c23 c25 f23 f25 HA HX hs
  have c23 := HR.out.pc
  have f23 := HR.out.row.frozen 23
  simp only at c23
  have HP := hid_into (HR.out.setPc ((j : Int) + 1))
  have z0 : W.cell? ⟨w.heap.size, 0, none⟩ = some (.int .i64 12) := (HX2.out.cell 0).trans rfl
  have z1 : W.cell? ⟨w.heap.size, 1, none⟩ = some (.int .i64 a) := (HX2.out.cell 1).trans rfl
  have hxg : w.heap.size ≠ g := by have := HL.out; omega
  have BP : Hid (Below g w (W.setCell ⟨g, 23, none⟩ (.int .i64 ((j : Int) + 1)))) := hid_into (B0.out.trans ((Only.set _ _ _ _).below (Nat.le_refl _)))
  have HXP : Hid (Cw (W.setCell ⟨g, 23, none⟩ (.int .i64 ((j : Int) + 1))) w.heap.size [.int .i64 12, .int .i64 a] 66) := hid_into (two_blocks HX2.out hxg _ _)
  have HPw := hid_into HP.out
  have BPw := hid_into BP.out
  clear HR HX2 B0
  go_wp2_with (first
    | (go_at_call 83; refine (rpop_some ys z HPw.out).mono ?_; rintro e W2 ⟨rfl, svW2, hRW2, hOW2⟩; have HW2 := hid_into hRW2; clear hRW2 HPw)
    | (go_at_call 84; refine (rtruth_any _ _).mono ?_; rintro e w' ⟨rfl, rfl⟩)
    | (go_at_call 82; refine (rpush_room _ (truI_in _) HW2.out (by have := hlz; simp at this; omega)).mono ?_; rintro e W4 ⟨rfl, svW4, hRW4, hBW4⟩; have b25 := hRW4.bad; have p23 := hRW4.pc; simp only at b25 p23; have HW4 := hid_into hRW4; clear hRW4 HW2))
  go_ret
  exact ⟨_, _, _, _, rfl, HW4.out, BPw.out.trans ((hOW2.below (Nat.le_refl _)).trans hBW4), Or.inl ⟨_, HD.out, rfl, rfl, rfl, by simp; rfl, rfl, decide_eq_decide.2 (by show (j : Int) + 1 < (n : Int) ↔ j + 1 < n; omega), fun _ => ⟨by show (j : Int) + 1 = ((j + 1 : Nat) : Int); omega, rfl⟩⟩⟩
set_option maxRecDepth 20000 in
set_option maxHeartbeats 2000000 in
theorem does_15 (a : Int) (n j : Nat) (hj : j < 256) {ys : List Int} {z : Int} (hi : Ins3 fr i0 i1) (h : Rw w g fr i0 i1 (ys ++ [z]) ⟨cells, seed, (j : Int), -1, false⟩ sv) : DoesC w g n j fr i0 i1 cells seed (ys ++ [z]) (15, a) := by
  have hjj : (j : Int) < 256 := by omega
  have HD : Hid (doI fr i0 i1 n (15, a) ⟨cells, seed, ((ys ++ [z]) : List Int).reverse, j, none⟩ = some ⟨cells, seed, ys.reverse, j + 1, none⟩) := hid_into (by rw [List.reverse_append]; rfl)
  have hT : (1 : Int) ≤ (((ys ++ [z]) : List Int).length : Int) := by simp; omega
  have HI := hid_into hi
  have fr1 := hi.fr.1
  have fr2 := hi.fr.2
  have n1 := hi.i0.1
  have n2 := hi.i0.2
  have n3 := hi.i1.1
  have n4 := hi.i1.2
  clear hi
  have HX : Hid (Cw (w.alloc (.cells #[.int .i64 15, .int .i64 a] 66)) w.heap.size [.int .i64 15, .int .i64 a] 66) := Cw.new _ _ _
  have HA := hid_into (h.below ((Below.refl w.heap.size w).alloc (Nat.le_refl _) (.cells #[.int .i64 15, .int .i64 a] 66)))
  have HL := hid_into h.lt
  have c22 := HA.out.slice
  have c23 := HA.out.pc
  have c25 := HA.out.bad
  have f23 := HA.out.row.frozen 23
  have f25 := HA.out.row.frozen 25
  have hlz := h.len
  obtain ⟨ao, cp, hsv, hc1, hc2⟩ := h.st.form
  subst hsv
  simp only at c23 c25
  clear h hc1 hc2
  unfold DoesC
  go_enter Tryz.func61, Tryz.ntmps61
  go_wp2_with fail
  go_quiet ((go_at_call 81; refine Calls.quiet_of_same ((takes_15 _).mono fun _ _ h => ⟨h.1, h.2⟩)))
  have hs : Sm (w.alloc (.cells #[.int .i64 15, .int .i64 a] 66)) ((w.alloc (.cells #[.int .i64 15, .int .i64 a] 66)).drewN nq) := Sm.drewN _ _
  generalize (w.alloc (.cells #[.int .i64 15, .int .i64 a] 66)).drewN nq = W at hs ⊢
  have HR := hid_into (HA.out.sm hs)
  have HX2 := hid_into (hs.cw HX.out)
  have B0 : Hid (Below g w W) := hid_into (((Below.refl g w).alloc (by have := HL.out; omega) _).trans (hs.below g))
  clear c22 c23 c25 f23 f25 HA HX hs
  have c23 := HR.out.pc
  have f23 := HR.out.row.frozen 23
  simp only at c23
  have HP := hid_into (HR.out.setPc ((j : Int) + 1))
  have z0 : W.cell? ⟨w.heap.size, 0, none⟩ = some (.int .i64 15) := (HX2.out.cell 0).trans rfl
  have z1 : W.cell? ⟨w.heap.size, 1, none⟩ = some (.int .i64 a) := (HX2.out.cell 1).trans rfl
  have hxg : w.heap.size ≠ g := by have := HL.out; omega
  have BP : Hid (Below g w (W.setCell ⟨g, 23, none⟩ (.int .i64 ((j : Int) + 1)))) := hid_into (B0.out.trans ((Only.set _ _ _ _).below (Nat.le_refl _)))
  have HXP : Hid (Cw (W.setCell ⟨g, 23, none⟩ (.int .i64 ((j : Int) + 1))) w.heap.size [.int .i64 15, .int .i64 a] 66) := hid_into (two_blocks HX2.out hxg _ _)
  have HPw := hid_into HP.out
  have BPw := hid_into BP.out
  clear HR HX2 B0
  go_wp2_with (go_at_call 83; refine (rpop_some ys z HPw.out).mono ?_; rintro e W2 ⟨rfl, svW2, hRW2, hOW2⟩; have b25 := hRW2.bad; have p23 := hRW2.pc; simp only at b25 p23; have HW2 := hid_into hRW2; clear hRW2 HPw)
  go_ret
  exact ⟨_, _, _, _, rfl, HW2.out, BPw.out.trans (hOW2.below (Nat.le_refl _)), Or.inl ⟨_, HD.out, rfl, rfl, rfl, by simp, rfl, decide_eq_decide.2 (by show (j : Int) + 1 < (n : Int) ↔ j + 1 < n; omega), fun _ => ⟨by show (j : Int) + 1 = ((j + 1 : Nat) : Int); omega, rfl⟩⟩⟩
set_option maxRecDepth 20000 in
set_option maxHeartbeats 2000000 in
theorem does_20 (a : Int) (n j : Nat) (hj : j < 256) (hi : Ins3 fr i0 i1) (h : Rw w g fr i0 i1 zs ⟨cells, seed, (j : Int), -1, false⟩ sv) : DoesC w g n j fr i0 i1 cells seed zs (20, a) := by
  have hjj : (j : Int) < 256 := by omega
  have HD : Hid (doI fr i0 i1 n (20, a) ⟨cells, seed, (zs : List Int).reverse, j, none⟩ = some ⟨cells, seed, zs.reverse, n, some a⟩) := hid_into (rfl)
  have hT : (0 : Int) ≤ ((zs : List Int).length : Int) := by omega
  have HI := hid_into hi
  have fr1 := hi.fr.1
  have fr2 := hi.fr.2
  have n1 := hi.i0.1
  have n2 := hi.i0.2
  have n3 := hi.i1.1
  have n4 := hi.i1.2
  clear hi
  have HX : Hid (Cw (w.alloc (.cells #[.int .i64 20, .int .i64 a] 66)) w.heap.size [.int .i64 20, .int .i64 a] 66) := Cw.new _ _ _
  have HA := hid_into (h.below ((Below.refl w.heap.size w).alloc (Nat.le_refl _) (.cells #[.int .i64 20, .int .i64 a] 66)))
  have HL := hid_into h.lt
  have c22 := HA.out.slice
  have c23 := HA.out.pc
  have c25 := HA.out.bad
  have f23 := HA.out.row.frozen 23
  have f25 := HA.out.row.frozen 25
  have hlz := h.len
  obtain ⟨ao, cp, hsv, hc1, hc2⟩ := h.st.form
  subst hsv
  simp only at c23 c25
  clear h hc1 hc2
  unfold DoesC
  go_enter Tryz.func61, Tryz.ntmps61
  go_wp2_with fail
  go_quiet ((go_at_call 81; refine Calls.quiet_of_same ((takes_20 _).mono fun _ _ h => ⟨h.1, h.2⟩)))
  have hs : Sm (w.alloc (.cells #[.int .i64 20, .int .i64 a] 66)) ((w.alloc (.cells #[.int .i64 20, .int .i64 a] 66)).drewN nq) := Sm.drewN _ _
  generalize (w.alloc (.cells #[.int .i64 20, .int .i64 a] 66)).drewN nq = W at hs ⊢
  have HR := hid_into (HA.out.sm hs)
  have HX2 := hid_into (hs.cw HX.out)
  have B0 : Hid (Below g w W) := hid_into (((Below.refl g w).alloc (by have := HL.out; omega) _).trans (hs.below g))
  clear c22 c23 c25 f23 f25 HA HX hs
  have c23 := HR.out.pc
  have f23 := HR.out.row.frozen 23
  simp only at c23
  have HP := hid_into (HR.out.setPc ((j : Int) + 1))
  have z0 : W.cell? ⟨w.heap.size, 0, none⟩ = some (.int .i64 20) := (HX2.out.cell 0).trans rfl
  have z1 : W.cell? ⟨w.heap.size, 1, none⟩ = some (.int .i64 a) := (HX2.out.cell 1).trans rfl
  have hxg : w.heap.size ≠ g := by have := HL.out; omega
  have BP : Hid (Below g w (W.setCell ⟨g, 23, none⟩ (.int .i64 ((j : Int) + 1)))) := hid_into (B0.out.trans ((Only.set _ _ _ _).below (Nat.le_refl _)))
  have HXP : Hid (Cw (W.setCell ⟨g, 23, none⟩ (.int .i64 ((j : Int) + 1))) w.heap.size [.int .i64 20, .int .i64 a] 66) := hid_into (two_blocks HX2.out hxg _ _)
  have HPw := hid_into HP.out
  have BPw := hid_into BP.out
  have p0 := HP.out.won
  have pf := HP.out.row.frozen 24
  simp only at p0
  have H3 := hid_into (HP.out.setWon a)
  have y1 : (W.setCell ⟨g, 23, none⟩ (.int .i64 ((j : Int) + 1))).cell? ⟨w.heap.size, 1, none⟩ = some (.int .i64 a) := (HXP.out.cell 1).trans rfl
  clear HR HX2 B0
  go_wp2_with fail
  go_ret
  exact ⟨_, _, _, _, rfl, H3.out, BPw.out.trans ((Only.set _ _ _ _).below (Nat.le_refl _)), Or.inl ⟨_, HD.out, rfl, rfl, rfl, by simp, rfl, by simp, fun h => by simp at h⟩⟩
set_option maxRecDepth 20000 in
set_option maxHeartbeats 1000000 in
theorem does_3_few (a : Int) (n j : Nat) (hf : zs.length < 1) (h : Rw w g fr i0 i1 zs ⟨cells, seed, (j : Int), -1, false⟩ sv) : DoesC w g n j fr i0 i1 cells seed zs (3, a) := by
  have hd : doI fr i0 i1 n (3, a) ⟨cells, seed, zs.reverse, j, none⟩ = none := by
    obtain rfl : zs = [] := List.eq_nil_of_length_eq_zero (by omega)
    rfl
  have HD := hid_into hd
  have hf' : (zs.length : Int) < 1 := by omega
  clear hd
  have HX : Hid (Cw (w.alloc (.cells #[.int .i64 3, .int .i64 a] 66)) w.heap.size [.int .i64 3, .int .i64 a] 66) := Cw.new _ _ _
  have HA := hid_into (h.below ((Below.refl w.heap.size w).alloc (Nat.le_refl _) (.cells #[.int .i64 3, .int .i64 a] 66)))
  have HL := hid_into h.lt
  have c22 := HA.out.slice
  have c23 := HA.out.pc
  have c25 := HA.out.bad
  have f23 := HA.out.row.frozen 23
  have f25 := HA.out.row.frozen 25
  have hlz := h.len
  obtain ⟨ao, cp, hsv, hc1, hc2⟩ := h.st.form
  subst hsv
  simp only at c23 c25
  clear h hc1 hc2
  unfold DoesC
  go_enter Tryz.func61, Tryz.ntmps61
  go_wp2_with fail
  go_quiet ((go_at_call 81; refine Calls.quiet_of_same ((takes_3 _).mono fun _ _ h => ⟨h.1, h.2⟩)))
  go_wp2_with fail
  go_ret
  refine ⟨false, zs, _, _, rfl, (HA.out.setBad true).sm ⟨rfl, rfl, rfl, rfl⟩, ?_, Or.inr ⟨HD.out, rfl, rfl⟩⟩
  exact (((Below.refl g w).alloc (by have := HL.out; omega) _).trans ((Only.set g 25 _ (.bool true)).below (Nat.le_refl _))).trans ((Sm.drewN _ _).below _)
set_option maxRecDepth 20000 in
set_option maxHeartbeats 1000000 in
theorem does_7_few (a : Int) (n j : Nat) (hf : zs.length < 2) (h : Rw w g fr i0 i1 zs ⟨cells, seed, (j : Int), -1, false⟩ sv) : DoesC w g n j fr i0 i1 cells seed zs (7, a) := by
  have hd : doI fr i0 i1 n (7, a) ⟨cells, seed, zs.reverse, j, none⟩ = none := by
    match zs, hf with
    | [], _ => rfl
    | [z], _ => rfl
  have HD := hid_into hd
  have hf' : (zs.length : Int) < 2 := by omega
  clear hd
  have HX : Hid (Cw (w.alloc (.cells #[.int .i64 7, .int .i64 a] 66)) w.heap.size [.int .i64 7, .int .i64 a] 66) := Cw.new _ _ _
  have HA := hid_into (h.below ((Below.refl w.heap.size w).alloc (Nat.le_refl _) (.cells #[.int .i64 7, .int .i64 a] 66)))
  have HL := hid_into h.lt
  have c22 := HA.out.slice
  have c23 := HA.out.pc
  have c25 := HA.out.bad
  have f23 := HA.out.row.frozen 23
  have f25 := HA.out.row.frozen 25
  have hlz := h.len
  obtain ⟨ao, cp, hsv, hc1, hc2⟩ := h.st.form
  subst hsv
  simp only at c23 c25
  clear h hc1 hc2
  unfold DoesC
  go_enter Tryz.func61, Tryz.ntmps61
  go_wp2_with fail
  go_quiet ((go_at_call 81; refine Calls.quiet_of_same ((takes_7 _).mono fun _ _ h => ⟨h.1, h.2⟩)))
  go_wp2_with fail
  go_ret
  refine ⟨false, zs, _, _, rfl, (HA.out.setBad true).sm ⟨rfl, rfl, rfl, rfl⟩, ?_, Or.inr ⟨HD.out, rfl, rfl⟩⟩
  exact (((Below.refl g w).alloc (by have := HL.out; omega) _).trans ((Only.set g 25 _ (.bool true)).below (Nat.le_refl _))).trans ((Sm.drewN _ _).below _)
set_option maxRecDepth 20000 in
set_option maxHeartbeats 1000000 in
theorem does_11_few (a : Int) (n j : Nat) (hf : zs.length < 2) (h : Rw w g fr i0 i1 zs ⟨cells, seed, (j : Int), -1, false⟩ sv) : DoesC w g n j fr i0 i1 cells seed zs (11, a) := by
  have hd : doI fr i0 i1 n (11, a) ⟨cells, seed, zs.reverse, j, none⟩ = none := by
    match zs, hf with
    | [], _ => rfl
    | [z], _ => rfl
  have HD := hid_into hd
  have hf' : (zs.length : Int) < 2 := by omega
  clear hd
  have HX : Hid (Cw (w.alloc (.cells #[.int .i64 11, .int .i64 a] 66)) w.heap.size [.int .i64 11, .int .i64 a] 66) := Cw.new _ _ _
  have HA := hid_into (h.below ((Below.refl w.heap.size w).alloc (Nat.le_refl _) (.cells #[.int .i64 11, .int .i64 a] 66)))
  have HL := hid_into h.lt
  have c22 := HA.out.slice
  have c23 := HA.out.pc
  have c25 := HA.out.bad
  have f23 := HA.out.row.frozen 23
  have f25 := HA.out.row.frozen 25
  have hlz := h.len
  obtain ⟨ao, cp, hsv, hc1, hc2⟩ := h.st.form
  subst hsv
  simp only at c23 c25
  clear h hc1 hc2
  unfold DoesC
  go_enter Tryz.func61, Tryz.ntmps61
  go_wp2_with fail
  go_quiet ((go_at_call 81; refine Calls.quiet_of_same ((takes_11 _).mono fun _ _ h => ⟨h.1, h.2⟩)))
  go_wp2_with fail
  go_ret
  refine ⟨false, zs, _, _, rfl, (HA.out.setBad true).sm ⟨rfl, rfl, rfl, rfl⟩, ?_, Or.inr ⟨HD.out, rfl, rfl⟩⟩
  exact (((Below.refl g w).alloc (by have := HL.out; omega) _).trans ((Only.set g 25 _ (.bool true)).below (Nat.le_refl _))).trans ((Sm.drewN _ _).below _)
set_option maxRecDepth 20000 in
set_option maxHeartbeats 1000000 in
theorem does_15_few (a : Int) (n j : Nat) (hf : zs.length < 1) (h : Rw w g fr i0 i1 zs ⟨cells, seed, (j : Int), -1, false⟩ sv) : DoesC w g n j fr i0 i1 cells seed zs (15, a) := by
  have hd : doI fr i0 i1 n (15, a) ⟨cells, seed, zs.reverse, j, none⟩ = none := by
    obtain rfl : zs = [] := List.eq_nil_of_length_eq_zero (by omega)
    rfl
  have HD := hid_into hd
  have hf' : (zs.length : Int) < 1 := by omega
  clear hd
  have HX : Hid (Cw (w.alloc (.cells #[.int .i64 15, .int .i64 a] 66)) w.heap.size [.int .i64 15, .int .i64 a] 66) := Cw.new _ _ _
  have HA := hid_into (h.below ((Below.refl w.heap.size w).alloc (Nat.le_refl _) (.cells #[.int .i64 15, .int .i64 a] 66)))
  have HL := hid_into h.lt
  have c22 := HA.out.slice
  have c23 := HA.out.pc
  have c25 := HA.out.bad
  have f23 := HA.out.row.frozen 23
  have f25 := HA.out.row.frozen 25
  have hlz := h.len
  obtain ⟨ao, cp, hsv, hc1, hc2⟩ := h.st.form
  subst hsv
  simp only at c23 c25
  clear h hc1 hc2
  unfold DoesC
  go_enter Tryz.func61, Tryz.ntmps61
  go_wp2_with fail
  go_quiet ((go_at_call 81; refine Calls.quiet_of_same ((takes_15 _).mono fun _ _ h => ⟨h.1, h.2⟩)))
  go_wp2_with fail
  go_ret
  refine ⟨false, zs, _, _, rfl, (HA.out.setBad true).sm ⟨rfl, rfl, rfl, rfl⟩, ?_, Or.inr ⟨HD.out, rfl, rfl⟩⟩
  exact (((Below.refl g w).alloc (by have := HL.out; omega) _).trans ((Only.set g 25 _ (.bool true)).below (Nat.le_refl _))).trans ((Sm.drewN _ _).below _)
end Go.Proofs.YtbfldcieibdapabGreat
end

section
/-
  The document's does: whatever the instruction.
-/
namespace Go.Proofs.YtbfldcieibdapabGreat
open Go.RowKit
variable {fr i0 i1 : Int} {sv : Value} {cells : List Int} {seed : Int} {w w' : World} {g : Nat} {zs : List Int}
theorem split1 {zs : List Int} (h : ¬ zs.length < 1) : ∃ ys z, zs = ys ++ [z] := by
  have hn : zs ≠ [] := fun e => by rw [e] at h; simp at h
  exact ⟨zs.dropLast, zs.getLast hn, (List.dropLast_concat_getLast hn).symm⟩
theorem split2 {zs : List Int} (h : ¬ zs.length < 2) : ∃ ys b c, zs = ys ++ [b] ++ [c] := by
  obtain ⟨ys, c, rfl⟩ := split1 (zs := zs) (by omega)
  obtain ⟨xs, b, rfl⟩ := split1 (zs := ys) (by simp at h; omega)
  exact ⟨xs, b, c, rfl⟩
theorem does_any (x : Ii) (n j : Nat) (hx : mayI x n = true) (hn : n ≤ 256) (hj : j < n) (hi : Ins3 fr i0 i1) (h : Rw w g fr i0 i1 zs ⟨cells, seed, (j : Int), -1, false⟩ sv) : DoesC w g n j fr i0 i1 cells seed zs x := by
  have hj2 : j < 256 := by omega
  have hlen := h.len
  have hor : zs.length < 32 ∨ zs.length = 32 := by omega
  have h32 := mayI_arg hx (by omega)
  obtain ⟨o, a⟩ := x
  have h1 := mayI_op hx
  simp only at h1 h32
  obtain ⟨k, rfl⟩ := Int.eq_ofNat_of_zero_le (show 0 ≤ o by omega)
  have k1 : 1 ≤ k := by omega
  have k2 : k ≤ 22 := by omega
  match k, k1, k2, hx with
  | 1, _, _, _ => exact hor.elim (fun hl => does_1 a n j hj2 h32 hl hi h) (fun hl => does_1_full a n j hj2 h32 hl hi h)
  | 2, _, _, hx =>
    have h2 : decide (0 ≤ a ∧ a < 16) = true := hx
    simp only [decide_eq_true_eq] at h2
    obtain ⟨i, rfl⟩ := Int.eq_ofNat_of_zero_le h2.1
    exact hor.elim (fun hl => does_2 n j hj2 i (by omega) hl hi h) (fun hl => does_2_full n j hj2 i (by omega) hl hi h)
  | 3, _, _, hx =>
    have h2 : decide (0 ≤ a ∧ a < 16) = true := hx
    simp only [decide_eq_true_eq] at h2
    obtain ⟨i, rfl⟩ := Int.eq_ofNat_of_zero_le h2.1
    by_cases hf : zs.length < 1
    · exact does_3_few _ n j hf h
    · obtain ⟨ys, z, rfl⟩ := split1 hf
      exact does_3 n j hj2 i (by omega) hi h
  | 4, _, _, _ =>
    by_cases hf : zs.length < 2
    · exact does_4_few _ n j hf h
    · obtain ⟨ys, b, c, rfl⟩ := split2 hf
      exact does_4 a n j hj2 hi h
  | 5, _, _, _ =>
    by_cases hf : zs.length < 2
    · exact does_5_few _ n j hf h
    · obtain ⟨ys, b, c, rfl⟩ := split2 hf
      exact does_5 a n j hj2 hi h
  | 6, _, _, _ =>
    by_cases hf : zs.length < 2
    · exact does_6_few _ n j hf h
    · obtain ⟨ys, b, c, rfl⟩ := split2 hf
      exact does_6 a n j hj2 hi h
  | 7, _, _, _ =>
    by_cases hf : zs.length < 2
    · exact does_7_few _ n j hf h
    · obtain ⟨ys, b, c, rfl⟩ := split2 hf
      exact does_7 a n j hj2 hi h
  | 8, _, _, _ =>
    by_cases hf : zs.length < 2
    · exact does_8_few _ n j hf h
    · obtain ⟨ys, b, c, rfl⟩ := split2 hf
      exact does_8 a n j hj2 hi h
  | 9, _, _, _ =>
    by_cases hf : zs.length < 2
    · exact does_9_few _ n j hf h
    · obtain ⟨ys, b, c, rfl⟩ := split2 hf
      exact does_9 a n j hj2 hi h
  | 10, _, _, _ =>
    by_cases hf : zs.length < 2
    · exact does_10_few _ n j hf h
    · obtain ⟨ys, b, c, rfl⟩ := split2 hf
      exact does_10 a n j hj2 hi h
  | 11, _, _, _ =>
    by_cases hf : zs.length < 2
    · exact does_11_few _ n j hf h
    · obtain ⟨ys, b, c, rfl⟩ := split2 hf
      exact does_11 a n j hj2 hi h
  | 12, _, _, _ =>
    by_cases hf : zs.length < 1
    · exact does_12_few _ n j hf h
    · obtain ⟨ys, z, rfl⟩ := split1 hf
      exact does_12 a n j hj2 hi h
  | 13, _, _, _ =>
    by_cases hf : zs.length < 1
    · exact does_13_few _ n j hf h
    · obtain ⟨ys, z, rfl⟩ := split1 hf
      simp only [List.length_append, List.length_cons, List.length_nil] at hor
      exact hor.elim (fun hl => does_13 a n j hj2 (by omega) hi h) (fun hl => does_13_full a n j hj2 (by omega) hi h)
  | 14, _, _, _ =>
    by_cases hf : zs.length < 2
    · exact does_14_few _ n j hf h
    · obtain ⟨ys, b, c, rfl⟩ := split2 hf
      exact does_14 a n j hj2 hi h
  | 15, _, _, _ =>
    by_cases hf : zs.length < 1
    · exact does_15_few _ n j hf h
    · obtain ⟨ys, z, rfl⟩ := split1 hf
      exact does_15 a n j hj2 hi h
  | 16, _, _, hx =>
    have h2 : decide (a = 0 ∨ a = 1) = true := hx
    simp only [decide_eq_true_eq] at h2
    rcases h2 with rfl | rfl
    · exact hor.elim (fun hl => does_16_0 n j hj2 hl hi h) (fun hl => does_16_0_full n j hj2 hl hi h)
    · exact hor.elim (fun hl => does_16_1 n j hj2 hl hi h) (fun hl => does_16_1_full n j hj2 hl hi h)
  | 17, _, _, _ => exact hor.elim (fun hl => does_17 a n j hj2 hl hi h) (fun hl => does_17_full a n j hj2 hl hi h)
  | 18, _, _, hx =>
    have h2 : decide (0 ≤ a ∧ a ≤ (n : Int)) = true := hx
    simp only [decide_eq_true_eq] at h2
    exact does_18 a n j hj2 h2.1 hi h
  | 19, _, _, hx =>
    have h2 : decide (0 ≤ a ∧ a ≤ (n : Int)) = true := hx
    simp only [decide_eq_true_eq] at h2
    by_cases hf : zs.length < 1
    · exact does_19_few _ n j hf h
    · obtain ⟨ys, z, rfl⟩ := split1 hf
      by_cases hz : z = 0
      · subst hz
        exact does_19 a n j hj2 h2.1 hi h
      · exact does_19_no a n j hj2 hz hi h
  | 20, _, _, _ => exact does_20 a n j hj2 hi h
  | 21, _, _, _ => exact hor.elim (fun hl => does_21 a n j hj2 hl hi h) (fun hl => does_21_full a n j hj2 hl hi h)
  | 22, _, _, _ => exact does_22 a n j hj2 hi h
  | 0, h, _, _ => exact absurd h (by omega)
  | k + 23, _, h, _ => exact absurd h (by omega)
end Go.Proofs.YtbfldcieibdapabGreat
end
