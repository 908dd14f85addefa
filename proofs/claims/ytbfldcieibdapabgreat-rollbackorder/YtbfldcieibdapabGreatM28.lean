/-
  Joined from: Does2.
-/
import Derived.Test.YtbfldcieibdapabGreatM26
section
/-
  The document's does, in parts: each instruction, by a contract.
-/
namespace Go.Proofs.YtbfldcieibdapabGreat
open Go.RowKit
variable {fr i0 i1 : Int} {sv : Value} {cells : List Int} {seed : Int} {w w' : World} {g : Nat} {zs : List Int}
set_option maxRecDepth 20000 in
set_option maxHeartbeats 2000000 in
theorem does_1_full (a : Int) (n j : Nat) (hj : j < 256) (ha : In32 a) (hl : zs.length = 32) (hi : Ins3 fr i0 i1) (h : Rw w g fr i0 i1 zs ⟨cells, seed, (j : Int), -1, false⟩ sv) : DoesC w g n j fr i0 i1 cells seed zs (1, a) := by
  have hjj : (j : Int) < 256 := by omega
  have HD : Hid (doI fr i0 i1 n (1, a) ⟨cells, seed, (zs : List Int).reverse, j, none⟩ = none) := hid_into (by show (if (zs.reverse).length < 32 then _ else _) = _; rw [if_neg (by simp; omega)])
  have hT : (0 : Int) ≤ ((zs : List Int).length : Int) := by omega
  have HI := hid_into hi
  have fr1 := hi.fr.1
  have fr2 := hi.fr.2
  have n1 := hi.i0.1
  have n2 := hi.i0.2
  have n3 := hi.i1.1
  have n4 := hi.i1.2
  clear hi
  have HX : Hid (Cw (w.alloc (.cells #[.int .i64 1, .int .i64 a] 66)) w.heap.size [.int .i64 1, .int .i64 a] 66) := Cw.new _ _ _
  have HA := hid_into (h.below ((Below.refl w.heap.size w).alloc (Nat.le_refl _) (.cells #[.int .i64 1, .int .i64 a] 66)))
  have HL := hid_into h.lt
  have c22 := HA.out.slice
  have c23 := HA.out.pc
  have c25 := HA.out.bad
  have f23 := HA.out.row.frozen 23
  have f25 := HA.out.row.frozen 25
  have hlz := h.len
  obtain ⟨ao, cp, hsv, hc1, hc2⟩ := h.st.form
  subst hsv
  simp only at c23 c25
  clear h hc1 hc2
  unfold DoesC
  go_enter Tryz.func61, Tryz.ntmps61
  go_wp2_with fail
  go_quiet ((go_at_call 81; refine Calls.quiet_of_same ((takes_1 _).mono fun _ _ h => ⟨h.1, h.2⟩)))
  have hs : Sm (w.alloc (.cells #[.int .i64 1, .int .i64 a] 66)) ((w.alloc (.cells #[.int .i64 1, .int .i64 a] 66)).drewN nq) := Sm.drewN _ _
  generalize (w.alloc (.cells #[.int .i64 1, .int .i64 a] 66)).drewN nq = W at hs ⊢
  have HR := hid_into (HA.out.sm hs)
  have HX2 := hid_into (hs.cw HX.out)
  have B0 : Hid (Below g w W) := hid_into (((Below.refl g w).alloc (by have := HL.out; omega) _).trans (hs.below g))
  clear c22 c23 c25 f23 f25 HA HX hs
  have c23 := HR.out.pc
  have f23 := HR.out.row.frozen 23
  simp only at c23
  have HP := hid_into (HR.out.setPc ((j : Int) + 1))
  have z0 : W.cell? ⟨w.heap.size, 0, none⟩ = some (.int .i64 1) := (HX2.out.cell 0).trans rfl
  have z1 : W.cell? ⟨w.heap.size, 1, none⟩ = some (.int .i64 a) := (HX2.out.cell 1).trans rfl
  have hxg : w.heap.size ≠ g := by have := HL.out; omega
  have BP : Hid (Below g w (W.setCell ⟨g, 23, none⟩ (.int .i64 ((j : Int) + 1)))) := hid_into (B0.out.trans ((Only.set _ _ _ _).below (Nat.le_refl _)))
  have HXP : Hid (Cw (W.setCell ⟨g, 23, none⟩ (.int .i64 ((j : Int) + 1))) w.heap.size [.int .i64 1, .int .i64 a] 66) := hid_into (two_blocks HX2.out hxg _ _)
  have HPw := hid_into HP.out
  have BPw := hid_into BP.out
  have a1 := ha.1
  have a2 := ha.2
  have e1 : wrap32 a = a := by unfold wrap32; omega
  have HV := hid_into ha
  clear HR HX2 B0
  go_wp2_with (go_at_call 82; refine (rpush_full _ HPw.out hl).mono ?_; rintro e W2 ⟨rfl, hR2, hB2⟩; have b25 := hR2.bad; have p23 := hR2.pc; simp only at b25 p23)
  go_ret
  exact ⟨_, _, _, _, rfl, hR2, BPw.out.trans hB2, Or.inr ⟨HD.out, rfl, rfl⟩⟩
set_option maxRecDepth 20000 in
set_option maxHeartbeats 2000000 in
theorem does_2_full (n j : Nat) (hj : j < 256) (i : Nat) (hi16 : i < 16) (hl : zs.length = 32) (hi : Ins3 fr i0 i1) (h : Rw w g fr i0 i1 zs ⟨cells, seed, (j : Int), -1, false⟩ sv) : DoesC w g n j fr i0 i1 cells seed zs (2, (i : Int)) := by
  have hjj : (j : Int) < 256 := by omega
  have HD : Hid (doI fr i0 i1 n (2, (i : Int)) ⟨cells, seed, (zs : List Int).reverse, j, none⟩ = none) := hid_into (by show (if (zs.reverse).length < 32 then _ else _) = _; rw [if_neg (by simp; omega)])
  have hT : (0 : Int) ≤ ((zs : List Int).length : Int) := by omega
  have HI := hid_into hi
  have fr1 := hi.fr.1
  have fr2 := hi.fr.2
  have n1 := hi.i0.1
  have n2 := hi.i0.2
  have n3 := hi.i1.1
  have n4 := hi.i1.2
  clear hi
  have HX : Hid (Cw (w.alloc (.cells #[.int .i64 2, .int .i64 (i : Int)] 66)) w.heap.size [.int .i64 2, .int .i64 (i : Int)] 66) := Cw.new _ _ _
  have HA := hid_into (h.below ((Below.refl w.heap.size w).alloc (Nat.le_refl _) (.cells #[.int .i64 2, .int .i64 (i : Int)] 66)))
  have HL := hid_into h.lt
  have c22 := HA.out.slice
  have c23 := HA.out.pc
  have c25 := HA.out.bad
  have f23 := HA.out.row.frozen 23
  have f25 := HA.out.row.frozen 25
  have hlz := h.len
  obtain ⟨ao, cp, hsv, hc1, hc2⟩ := h.st.form
  subst hsv
  simp only at c23 c25
  clear h hc1 hc2
  unfold DoesC
  go_enter Tryz.func61, Tryz.ntmps61
  go_wp2_with fail
  go_quiet ((go_at_call 81; refine Calls.quiet_of_same ((takes_2 _).mono fun _ _ h => ⟨h.1, h.2⟩)))
  have hs : Sm (w.alloc (.cells #[.int .i64 2, .int .i64 (i : Int)] 66)) ((w.alloc (.cells #[.int .i64 2, .int .i64 (i : Int)] 66)).drewN nq) := Sm.drewN _ _
  generalize (w.alloc (.cells #[.int .i64 2, .int .i64 (i : Int)] 66)).drewN nq = W at hs ⊢
  have HR := hid_into (HA.out.sm hs)
  have HX2 := hid_into (hs.cw HX.out)
  have B0 : Hid (Below g w W) := hid_into (((Below.refl g w).alloc (by have := HL.out; omega) _).trans (hs.below g))
  clear c22 c23 c25 f23 f25 HA HX hs
  have c23 := HR.out.pc
  have f23 := HR.out.row.frozen 23
  simp only at c23
  have HP := hid_into (HR.out.setPc ((j : Int) + 1))
  have z0 : W.cell? ⟨w.heap.size, 0, none⟩ = some (.int .i64 2) := (HX2.out.cell 0).trans rfl
  have z1 : W.cell? ⟨w.heap.size, 1, none⟩ = some (.int .i64 (i : Int)) := (HX2.out.cell 1).trans rfl
  have hxg : w.heap.size ≠ g := by have := HL.out; omega
  have BP : Hid (Below g w (W.setCell ⟨g, 23, none⟩ (.int .i64 ((j : Int) + 1)))) := hid_into (B0.out.trans ((Only.set _ _ _ _).below (Nat.le_refl _)))
  have HXP : Hid (Cw (W.setCell ⟨g, 23, none⟩ (.int .i64 ((j : Int) + 1))) w.heap.size [.int .i64 2, .int .i64 (i : Int)] 66) := hid_into (two_blocks HX2.out hxg _ _)
  have HPw := hid_into (HP.out.sm (w' := (W.setCell ⟨g, 23, none⟩ (.int .i64 ((j : Int) + 1))).drew) ⟨rfl, rfl, rfl, rfl⟩)
  have BPw : Hid (Below g w (W.setCell ⟨g, 23, none⟩ (.int .i64 ((j : Int) + 1))).drew) := hid_into BP.out.drew
  have y1 : (W.setCell ⟨g, 23, none⟩ (.int .i64 ((j : Int) + 1))).cell? ⟨w.heap.size, 1, none⟩ = some (.int .i64 (i : Int)) := (HXP.out.cell 1).trans rfl
  have y2 := HP.out.cell i hi16
  simp only at y2
  have HV := hid_into (getD_in HP.out.wf.cin i)
  simp only at HV
  have hi16' : (i : Int) < 16 := by omega
  generalize cells.getD i 0 = v at y2 HV HD
  clear HR HX2 B0
  go_wp2_with fail
  go_region_with (go_at_call 82; refine (rpush_full _ HPw.out hl).mono ?_; rintro e W2 ⟨rfl, hR2, hB2⟩; have b25 := hR2.bad; have p23 := hR2.pc; simp only at b25 p23)
  go_wp2_with fail
  go_ret
  exact ⟨_, _, _, _, rfl, hR2, BPw.out.trans hB2, Or.inr ⟨HD.out, rfl, rfl⟩⟩
set_option maxRecDepth 20000 in
set_option maxHeartbeats 2000000 in
theorem does_16_1_full (n j : Nat) (hj : j < 256) (hl : zs.length = 32) (hi : Ins3 fr i0 i1) (h : Rw w g fr i0 i1 zs ⟨cells, seed, (j : Int), -1, false⟩ sv) : DoesC w g n j fr i0 i1 cells seed zs (16, 1) := by
  have hjj : (j : Int) < 256 := by omega
  have HD : Hid (doI fr i0 i1 n (16, 1) ⟨cells, seed, (zs : List Int).reverse, j, none⟩ = none) := hid_into (by show (if (zs.reverse).length < 32 then _ else _) = _; rw [if_neg (by simp; omega)])
  have hT : (0 : Int) ≤ ((zs : List Int).length : Int) := by omega
  have HI := hid_into hi
  have fr1 := hi.fr.1
  have fr2 := hi.fr.2
  have n1 := hi.i0.1
  have n2 := hi.i0.2
  have n3 := hi.i1.1
  have n4 := hi.i1.2
  clear hi
  have HX : Hid (Cw (w.alloc (.cells #[.int .i64 16, .int .i64 1] 66)) w.heap.size [.int .i64 16, .int .i64 1] 66) := Cw.new _ _ _
  have HA := hid_into (h.below ((Below.refl w.heap.size w).alloc (Nat.le_refl _) (.cells #[.int .i64 16, .int .i64 1] 66)))
  have HL := hid_into h.lt
  have c22 := HA.out.slice
  have c23 := HA.out.pc
  have c25 := HA.out.bad
  have f23 := HA.out.row.frozen 23
  have f25 := HA.out.row.frozen 25
  have hlz := h.len
  obtain ⟨ao, cp, hsv, hc1, hc2⟩ := h.st.form
  subst hsv
  simp only at c23 c25
  clear h hc1 hc2
  unfold DoesC
  go_enter Tryz.func61, Tryz.ntmps61
  go_wp2_with fail
  go_quiet ((go_at_call 81; refine Calls.quiet_of_same ((takes_16 _).mono fun _ _ h => ⟨h.1, h.2⟩)))
  have hs : Sm (w.alloc (.cells #[.int .i64 16, .int .i64 1] 66)) ((w.alloc (.cells #[.int .i64 16, .int .i64 1] 66)).drewN nq) := Sm.drewN _ _
  generalize (w.alloc (.cells #[.int .i64 16, .int .i64 1] 66)).drewN nq = W at hs ⊢
  have HR := hid_into (HA.out.sm hs)
  have HX2 := hid_into (hs.cw HX.out)
  have B0 : Hid (Below g w W) := hid_into (((Below.refl g w).alloc (by have := HL.out; omega) _).trans (hs.below g))
  clear c22 c23 c25 f23 f25 HA HX hs
  have c23 := HR.out.pc
  have f23 := HR.out.row.frozen 23
  simp only at c23
  have HP := hid_into (HR.out.setPc ((j : Int) + 1))
  have z0 : W.cell? ⟨w.heap.size, 0, none⟩ = some (.int .i64 16) := (HX2.out.cell 0).trans rfl
  have z1 : W.cell? ⟨w.heap.size, 1, none⟩ = some (.int .i64 1) := (HX2.out.cell 1).trans rfl
  have hxg : w.heap.size ≠ g := by have := HL.out; omega
  have BP : Hid (Below g w (W.setCell ⟨g, 23, none⟩ (.int .i64 ((j : Int) + 1)))) := hid_into (B0.out.trans ((Only.set _ _ _ _).below (Nat.le_refl _)))
  have HXP : Hid (Cw (W.setCell ⟨g, 23, none⟩ (.int .i64 ((j : Int) + 1))) w.heap.size [.int .i64 16, .int .i64 1] 66) := hid_into (two_blocks HX2.out hxg _ _)
  have HPw := hid_into (HP.out.sm (w' := (W.setCell ⟨g, 23, none⟩ (.int .i64 ((j : Int) + 1))).drew) ⟨rfl, rfl, rfl, rfl⟩)
  have BPw : Hid (Below g w (W.setCell ⟨g, 23, none⟩ (.int .i64 ((j : Int) + 1))).drew) := hid_into BP.out.drew
  have y1 : (W.setCell ⟨g, 23, none⟩ (.int .i64 ((j : Int) + 1))).cell? ⟨w.heap.size, 1, none⟩ = some (.int .i64 1) := (HXP.out.cell 1).trans rfl
  have y2 := HP.out.in1
  have HV : Hid (In32 i1) := ⟨by omega, by omega⟩
  clear HR HX2 B0
  go_wp2_with fail
  go_region_with (go_at_call 82; refine (rpush_full _ HPw.out hl).mono ?_; rintro e W2 ⟨rfl, hR2, hB2⟩; have b25 := hR2.bad; have p23 := hR2.pc; simp only at b25 p23)
  go_wp2_with fail
  go_ret
  exact ⟨_, _, _, _, rfl, hR2, BPw.out.trans hB2, Or.inr ⟨HD.out, rfl, rfl⟩⟩
set_option maxRecDepth 20000 in
set_option maxHeartbeats 2000000 in
theorem does_6 (a : Int) (n j : Nat) (hj : j < 256) {ys : List Int} {b c : Int} (hi : Ins3 fr i0 i1) (h : Rw w g fr i0 i1 (ys ++ [b] ++ [c]) ⟨cells, seed, (j : Int), -1, false⟩ sv) : DoesC w g n j fr i0 i1 cells seed (ys ++ [b] ++ [c]) (6, a) := by
  have hjj : (j : Int) < 256 := by omega
  have HD : Hid (doI fr i0 i1 n (6, a) ⟨cells, seed, ((ys ++ [b] ++ [c]) : List Int).reverse, j, none⟩ = some ⟨cells, seed, twoI 6 b c :: ys.reverse, j + 1, none⟩) := hid_into (by rw [List.reverse_append, List.reverse_append]; rfl)
  have hT : (2 : Int) ≤ (((ys ++ [b] ++ [c]) : List Int).length : Int) := by simp; omega
  have HI := hid_into hi
  have fr1 := hi.fr.1
  have fr2 := hi.fr.2
  have n1 := hi.i0.1
  have n2 := hi.i0.2
  have n3 := hi.i1.1
  have n4 := hi.i1.2
  clear hi
  have HX : Hid (Cw (w.alloc (.cells #[.int .i64 6, .int .i64 a] 66)) w.heap.size [.int .i64 6, .int .i64 a] 66) := Cw.new _ _ _
  have HA := hid_into (h.below ((Below.refl w.heap.size w).alloc (Nat.le_refl _) (.cells #[.int .i64 6, .int .i64 a] 66)))
  have HL := hid_into h.lt
  have c22 := HA.out.slice
  have c23 := HA.out.pc
  have c25 := HA.out.bad
  have f23 := HA.out.row.frozen 23
  have f25 := HA.out.row.frozen 25
  have hlz := h.len
  obtain ⟨ao, cp, hsv, hc1, hc2⟩ := h.st.form
  subst hsv
  simp only at c23 c25
  clear h hc1 hc2
  unfold DoesC
  go_enter Tryz.func61, Tryz.ntmps61
  go_wp2_with fail
  go_quiet ((go_at_call 81; refine Calls.quiet_of_same ((takes_6 _).mono fun _ _ h => ⟨h.1, h.2⟩)))
  have hs : Sm (w.alloc (.cells #[.int .i64 6, .int .i64 a] 66)) ((w.alloc (.cells #[.int .i64 6, .int .i64 a] 66)).drewN nq) := Sm.drewN _ _
  generalize (w.alloc (.cells #[.int .i64 6, .int .i64 a] 66)).drewN nq = W at hs ⊢
  have HR := hid_into (HA.out.sm hs)
  have HX2 := hid_into (hs.cw HX.out)
  have B0 : Hid (Below g w W) := hid_into (((Below.refl g w).alloc (by have := HL.out; omega) _).trans (hs.below g))
  clear c22 c23 c25 f23 f25 HA HX hs
  have c23 := HR.out.pc
  have f23 := HR.out.row.frozen 23
  simp only at c23
  have HP := hid_into (HR.out.setPc ((j : Int) + 1))
  have z0 : W.cell? ⟨w.heap.size, 0, none⟩ = some (.int .i64 6) := (HX2.out.cell 0).trans rfl
  have z1 : W.cell? ⟨w.heap.size, 1, none⟩ = some (.int .i64 a) := (HX2.out.cell 1).trans rfl
  have hxg : w.heap.size ≠ g := by have := HL.out; omega
  have BP : Hid (Below g w (W.setCell ⟨g, 23, none⟩ (.int .i64 ((j : Int) + 1)))) := hid_into (B0.out.trans ((Only.set _ _ _ _).below (Nat.le_refl _)))
  have HXP : Hid (Cw (W.setCell ⟨g, 23, none⟩ (.int .i64 ((j : Int) + 1))) w.heap.size [.int .i64 6, .int .i64 a] 66) := hid_into (two_blocks HX2.out hxg _ _)
  have HPw := hid_into HP.out
  have BPw := hid_into BP.out
  have hb := hid_into (HP.out.sin b (by simp))
  have hc := hid_into (HP.out.sin c (by simp))
  clear HR HX2 B0
  go_wp2_with (first
    | (go_at_call 83; refine (rpop_some (ys ++ [b]) c HPw.out).mono ?_; rintro e W2 ⟨rfl, svW2, hRW2, hOW2⟩; have HW2 := hid_into hRW2; clear hRW2 HPw)
    | (go_at_call 83; refine (rpop_some ys b HW2.out).mono ?_; rintro e W3 ⟨rfl, svW3, hRW3, hOW3⟩; have HW3 := hid_into hRW3; clear hRW3; have y0 : W3.cell? ⟨w.heap.size, 0, none⟩ = some (.int .i64 6) := (World.cell?_of_block (w := W2) (a := ⟨w.heap.size, 0, none⟩) (hOW3.block _ hxg)).trans ((World.cell?_of_block (w := (W.setCell ⟨g, 23, none⟩ (.int .i64 ((j : Int) + 1)))) (a := ⟨w.heap.size, 0, none⟩) (hOW2.block _ hxg)).trans ((HXP.out.cell 0).trans rfl)))
    | (go_at_call 85; refine (two_6 b c hb.out hc.out _).mono ?_; rintro e w' ⟨rfl, rfl⟩)
    | (go_at_call 82; refine (rpush_room (twoI 6 b c) (twoI_in hb.out hc.out) HW3.out (by have := hlz; simp at this; omega)).mono ?_; rintro e W4 ⟨rfl, svW4, hRW4, hBW4⟩; have b25 := hRW4.bad; have p23 := hRW4.pc; simp only at b25 p23; have HW4 := hid_into hRW4; clear hRW4 HW3))
  go_ret
  exact ⟨_, _, _, _, rfl, HW4.out, BPw.out.trans ((hOW2.below (Nat.le_refl _)).trans ((hOW3.below (Nat.le_refl _)).trans hBW4)), Or.inl ⟨_, HD.out, rfl, rfl, rfl, by simp, rfl, decide_eq_decide.2 (by show (j : Int) + 1 < (n : Int) ↔ j + 1 < n; omega), fun _ => ⟨by show (j : Int) + 1 = ((j + 1 : Nat) : Int); omega, rfl⟩⟩⟩
set_option maxRecDepth 20000 in
set_option maxHeartbeats 2000000 in
theorem does_10 (a : Int) (n j : Nat) (hj : j < 256) {ys : List Int} {b c : Int} (hi : Ins3 fr i0 i1) (h : Rw w g fr i0 i1 (ys ++ [b] ++ [c]) ⟨cells, seed, (j : Int), -1, false⟩ sv) : DoesC w g n j fr i0 i1 cells seed (ys ++ [b] ++ [c]) (10, a) := by
  have hjj : (j : Int) < 256 := by omega
  have HD : Hid (doI fr i0 i1 n (10, a) ⟨cells, seed, ((ys ++ [b] ++ [c]) : List Int).reverse, j, none⟩ = some ⟨cells, seed, twoI 10 b c :: ys.reverse, j + 1, none⟩) := hid_into (by rw [List.reverse_append, List.reverse_append]; rfl)
  have hT : (2 : Int) ≤ (((ys ++ [b] ++ [c]) : List Int).length : Int) := by simp; omega
  have HI := hid_into hi
  have fr1 := hi.fr.1
  have fr2 := hi.fr.2
  have n1 := hi.i0.1
  have n2 := hi.i0.2
  have n3 := hi.i1.1
  have n4 := hi.i1.2
  clear hi
  have HX : Hid (Cw (w.alloc (.cells #[.int .i64 10, .int .i64 a] 66)) w.heap.size [.int .i64 10, .int .i64 a] 66) := Cw.new _ _ _
  have HA := hid_into (h.below ((Below.refl w.heap.size w).alloc (Nat.le_refl _) (.cells #[.int .i64 10, .int .i64 a] 66)))
  have HL := hid_into h.lt
  have c22 := HA.out.slice
  have c23 := HA.out.pc
  have c25 := HA.out.bad
  have f23 := HA.out.row.frozen 23
  have f25 := HA.out.row.frozen 25
  have hlz := h.len
  obtain ⟨ao, cp, hsv, hc1, hc2⟩ := h.st.form
  subst hsv
  simp only at c23 c25
  clear h hc1 hc2
  unfold DoesC
  go_enter Tryz.func61, Tryz.ntmps61
  go_wp2_with fail
  go_quiet ((go_at_call 81; refine Calls.quiet_of_same ((takes_10 _).mono fun _ _ h => ⟨h.1, h.2⟩)))
  have hs : Sm (w.alloc (.cells #[.int .i64 10, .int .i64 a] 66)) ((w.alloc (.cells #[.int .i64 10, .int .i64 a] 66)).drewN nq) := Sm.drewN _ _
  generalize (w.alloc (.cells #[.int .i64 10, .int .i64 a] 66)).drewN nq = W at hs ⊢
  have HR := hid_into (HA.out.sm hs)
  have HX2 := hid_into (hs.cw HX.out)
  have B0 : Hid (Below g w W) := hid_into (((Below.refl g w).alloc (by have := HL.out; omega) _).trans (hs.below g))
  clear c22 c23 c25 f23 f25 HA HX hs
  have c23 := HR.out.pc
  have f23 := HR.out.row.frozen 23
  simp only at c23
  have HP := hid_into (HR.out.setPc ((j : Int) + 1))
  have z0 : W.cell? ⟨w.heap.size, 0, none⟩ = some (.int .i64 10) := (HX2.out.cell 0).trans rfl
  have z1 : W.cell? ⟨w.heap.size, 1, none⟩ = some (.int .i64 a) := (HX2.out.cell 1).trans rfl
  have hxg : w.heap.size ≠ g := by have := HL.out; omega
  have BP : Hid (Below g w (W.setCell ⟨g, 23, none⟩ (.int .i64 ((j : Int) + 1)))) := hid_into (B0.out.trans ((Only.set _ _ _ _).below (Nat.le_refl _)))
  have HXP : Hid (Cw (W.setCell ⟨g, 23, none⟩ (.int .i64 ((j : Int) + 1))) w.heap.size [.int .i64 10, .int .i64 a] 66) := hid_into (two_blocks HX2.out hxg _ _)
  have HPw := hid_into HP.out
  have BPw := hid_into BP.out
  have hb := hid_into (HP.out.sin b (by simp))
  have hc := hid_into (HP.out.sin c (by simp))
  clear HR HX2 B0
  go_wp2_with (first
    | (go_at_call 83; refine (rpop_some (ys ++ [b]) c HPw.out).mono ?_; rintro e W2 ⟨rfl, svW2, hRW2, hOW2⟩; have HW2 := hid_into hRW2; clear hRW2 HPw)
    | (go_at_call 83; refine (rpop_some ys b HW2.out).mono ?_; rintro e W3 ⟨rfl, svW3, hRW3, hOW3⟩; have HW3 := hid_into hRW3; clear hRW3; have y0 : W3.cell? ⟨w.heap.size, 0, none⟩ = some (.int .i64 10) := (World.cell?_of_block (w := W2) (a := ⟨w.heap.size, 0, none⟩) (hOW3.block _ hxg)).trans ((World.cell?_of_block (w := (W.setCell ⟨g, 23, none⟩ (.int .i64 ((j : Int) + 1)))) (a := ⟨w.heap.size, 0, none⟩) (hOW2.block _ hxg)).trans ((HXP.out.cell 0).trans rfl)))
    | (go_at_call 85; refine (two_10 b c hb.out hc.out _).mono ?_; rintro e w' ⟨rfl, rfl⟩)
    | (go_at_call 82; refine (rpush_room (twoI 10 b c) (twoI_in hb.out hc.out) HW3.out (by have := hlz; simp at this; omega)).mono ?_; rintro e W4 ⟨rfl, svW4, hRW4, hBW4⟩; have b25 := hRW4.bad; have p23 := hRW4.pc; simp only at b25 p23; have HW4 := hid_into hRW4; clear hRW4 HW3))
  go_ret
  exact ⟨_, _, _, _, rfl, HW4.out, BPw.out.trans ((hOW2.below (Nat.le_refl _)).trans ((hOW3.below (Nat.le_refl _)).trans hBW4)), Or.inl ⟨_, HD.out, rfl, rfl, rfl, by simp, rfl, decide_eq_decide.2 (by show (j : Int) + 1 < (n : Int) ↔ j + 1 < n; omega), fun _ => ⟨by show (j : Int) + 1 = ((j + 1 : Nat) : Int); omega, rfl⟩⟩⟩
set_option maxRecDepth 20000 in
set_option maxHeartbeats 2000000 in
theorem does_13_full (a : Int) (n j : Nat) (hj : j < 256) {ys : List Int} {z : Int} (hl : ys.length + 1 = 32) (hi : Ins3 fr i0 i1) (h : Rw w g fr i0 i1 (ys ++ [z]) ⟨cells, seed, (j : Int), -1, false⟩ sv) : DoesC w g n j fr i0 i1 cells seed (ys ++ [z]) (13, a) := by
  have hjj : (j : Int) < 256 := by omega
  have HD : Hid (doI fr i0 i1 n (13, a) ⟨cells, seed, ((ys ++ [z]) : List Int).reverse, j, none⟩ = none) := hid_into (by rw [List.reverse_append]; show (if (z :: ys.reverse).length < 32 then _ else _) = _; rw [if_neg (by simp; omega)])
  have hT : (1 : Int) ≤ (((ys ++ [z]) : List Int).length : Int) := by simp; omega
  have HI := hid_into hi
  have fr1 := hi.fr.1
  have fr2 := hi.fr.2
  have n1 := hi.i0.1
  have n2 := hi.i0.2
  have n3 := hi.i1.1
  have n4 := hi.i1.2
  clear hi
  have HX : Hid (Cw (w.alloc (.cells #[.int .i64 13, .int .i64 a] 66)) w.heap.size [.int .i64 13, .int .i64 a] 66) := Cw.new _ _ _
  have HA := hid_into (h.below ((Below.refl w.heap.size w).alloc (Nat.le_refl _) (.cells #[.int .i64 13, .int .i64 a] 66)))
  have HL := hid_into h.lt
  have c22 := HA.out.slice
  have c23 := HA.out.pc
  have c25 := HA.out.bad
  have f23 := HA.out.row.frozen 23
  have f25 := HA.out.row.frozen 25
  have hlz := h.len
  obtain ⟨ao, cp, hsv, hc1, hc2⟩ := h.st.form
  subst hsv
  simp only at c23 c25
  clear h hc1 hc2
  unfold DoesC
  go_enter Tryz.func61, Tryz.ntmps61
  go_wp2_with fail
  go_quiet ((go_at_call 81; refine Calls.quiet_of_same ((takes_13 _).mono fun _ _ h => ⟨h.1, h.2⟩)))
  have hs : Sm (w.alloc (.cells #[.int .i64 13, .int .i64 a] 66)) ((w.alloc (.cells #[.int .i64 13, .int .i64 a] 66)).drewN nq) := Sm.drewN _ _
  generalize (w.alloc (.cells #[.int .i64 13, .int .i64 a] 66)).drewN nq = W at hs ⊢
  have HR := hid_into (HA.out.sm hs)
  have HX2 := hid_into (hs.cw HX.out)
  have B0 : Hid (Below g w W) := hid_into (((Below.refl g w).alloc (by have := HL.out; omega) _).trans (hs.below g))
  clear c22 c23 c25 f23 f25 HA HX hs
  have c23 := HR.out.pc
  have f23 := HR.out.row.frozen 23
  simp only at c23
  have HP := hid_into (HR.out.setPc ((j : Int) + 1))
  have z0 : W.cell? ⟨w.heap.size, 0, none⟩ = some (.int .i64 13) := (HX2.out.cell 0).trans rfl
  have z1 : W.cell? ⟨w.heap.size, 1, none⟩ = some (.int .i64 a) := (HX2.out.cell 1).trans rfl
  have hxg : w.heap.size ≠ g := by have := HL.out; omega
  have BP : Hid (Below g w (W.setCell ⟨g, 23, none⟩ (.int .i64 ((j : Int) + 1)))) := hid_into (B0.out.trans ((Only.set _ _ _ _).below (Nat.le_refl _)))
  have HXP : Hid (Cw (W.setCell ⟨g, 23, none⟩ (.int .i64 ((j : Int) + 1))) w.heap.size [.int .i64 13, .int .i64 a] 66) := hid_into (two_blocks HX2.out hxg _ _)
  have HPw := hid_into HP.out
  have BPw := hid_into BP.out
  have hz := hid_into (HP.out.sin z (by simp))
  clear HR HX2 B0
  go_wp2_with (first
    | (go_at_call 83; refine (rpop_some ys z HPw.out).mono ?_; rintro e W2 ⟨rfl, svW2, hRW2, hOW2⟩; have HW2 := hid_into hRW2; clear hRW2 HPw)
    | (go_at_call 82; refine (rpush_room z hz.out HW2.out (by omega)).mono ?_; rintro e W3 ⟨rfl, svW3, hRW3, hBW3⟩; have HW3 := hid_into hRW3; clear hRW3 HW2)
    | (go_at_call 82; refine (rpush_full z HW3.out (by simp; omega)).mono ?_; rintro e W4 ⟨rfl, hRW4, hBW4⟩; have b25 := hRW4.bad; have p23 := hRW4.pc; simp only at b25 p23; have HW4 := hid_into hRW4; clear hRW4))
  go_ret
  exact ⟨_, _, _, _, rfl, HW4.out, BPw.out.trans ((hOW2.below (Nat.le_refl _)).trans (hBW3.trans hBW4)), Or.inr ⟨HD.out, rfl, rfl⟩⟩
set_option maxRecDepth 20000 in
set_option maxHeartbeats 2000000 in
theorem does_19 (a : Int) (n j : Nat) (hj : j < 256) {ys : List Int} (ha : 0 ≤ a) (hi : Ins3 fr i0 i1) (h : Rw w g fr i0 i1 (ys ++ [0]) ⟨cells, seed, (j : Int), -1, false⟩ sv) : DoesC w g n j fr i0 i1 cells seed (ys ++ [0]) (19, a) := by
  have hjj : (j : Int) < 256 := by omega
  have HD : Hid (doI fr i0 i1 n (19, a) ⟨cells, seed, ((ys ++ [0]) : List Int).reverse, j, none⟩ = some ⟨cells, seed, ys.reverse, a.toNat, none⟩) := hid_into (by rw [List.reverse_append]; rfl)
  have hT : (1 : Int) ≤ (((ys ++ [0]) : List Int).length : Int) := by simp; omega
  have HI := hid_into hi
  have fr1 := hi.fr.1
  have fr2 := hi.fr.2
  have n1 := hi.i0.1
  have n2 := hi.i0.2
  have n3 := hi.i1.1
  have n4 := hi.i1.2
  clear hi
  have HX : Hid (Cw (w.alloc (.cells #[.int .i64 19, .int .i64 a] 66)) w.heap.size [.int .i64 19, .int .i64 a] 66) := Cw.new _ _ _
  have HA := hid_into (h.below ((Below.refl w.heap.size w).alloc (Nat.le_refl _) (.cells #[.int .i64 19, .int .i64 a] 66)))
  have HL := hid_into h.lt
  have c22 := HA.out.slice
  have c23 := HA.out.pc
  have c25 := HA.out.bad
  have f23 := HA.out.row.frozen 23
  have f25 := HA.out.row.frozen 25
  have hlz := h.len
  obtain ⟨ao, cp, hsv, hc1, hc2⟩ := h.st.form
  subst hsv
  simp only at c23 c25
  clear h hc1 hc2
  unfold DoesC
  go_enter Tryz.func61, Tryz.ntmps61
  go_wp2_with fail
  go_quiet ((go_at_call 81; refine Calls.quiet_of_same ((takes_19 _).mono fun _ _ h => ⟨h.1, h.2⟩)))
  have hs : Sm (w.alloc (.cells #[.int .i64 19, .int .i64 a] 66)) ((w.alloc (.cells #[.int .i64 19, .int .i64 a] 66)).drewN nq) := Sm.drewN _ _
  generalize (w.alloc (.cells #[.int .i64 19, .int .i64 a] 66)).drewN nq = W at hs ⊢
  have HR := hid_into (HA.out.sm hs)
  have HX2 := hid_into (hs.cw HX.out)
  have B0 : Hid (Below g w W) := hid_into (((Below.refl g w).alloc (by have := HL.out; omega) _).trans (hs.below g))
  clear c22 c23 c25 f23 f25 HA HX hs
  have c23 := HR.out.pc
  have f23 := HR.out.row.frozen 23
  simp only at c23
  have HP := hid_into (HR.out.setPc ((j : Int) + 1))
  have z0 : W.cell? ⟨w.heap.size, 0, none⟩ = some (.int .i64 19) := (HX2.out.cell 0).trans rfl
  have z1 : W.cell? ⟨w.heap.size, 1, none⟩ = some (.int .i64 a) := (HX2.out.cell 1).trans rfl
  have hxg : w.heap.size ≠ g := by have := HL.out; omega
  have BP : Hid (Below g w (W.setCell ⟨g, 23, none⟩ (.int .i64 ((j : Int) + 1)))) := hid_into (B0.out.trans ((Only.set _ _ _ _).below (Nat.le_refl _)))
  have HXP : Hid (Cw (W.setCell ⟨g, 23, none⟩ (.int .i64 ((j : Int) + 1))) w.heap.size [.int .i64 19, .int .i64 a] 66) := hid_into (two_blocks HX2.out hxg _ _)
  have HPw := hid_into HP.out
  have BPw := hid_into BP.out
  clear HR HX2 B0
  go_wp2_with (go_at_call 83; refine (rpop_some ys 0 HPw.out).mono ?_; rintro e W2 ⟨rfl, svW2, hRW2, hOW2⟩; have y1 : W2.cell? ⟨w.heap.size, 1, none⟩ = some (.int .i64 a) := (World.cell?_of_block (w := (W.setCell ⟨g, 23, none⟩ (.int .i64 ((j : Int) + 1)))) (a := ⟨w.heap.size, 1, none⟩) (hOW2.block _ hxg)).trans ((HXP.out.cell 1).trans rfl); have b25 := hRW2.bad; have p23 := hRW2.pc; simp only at b25 p23; have pf := hRW2.row.frozen 23; have H3 := hid_into (hRW2.setPc a); have q23 := H3.out.pc; have q25 := H3.out.bad; simp only at q23 q25; have HW2 := hid_into hRW2; clear hRW2)
  go_ret
  exact ⟨_, _, _, _, rfl, H3.out, BPw.out.trans ((hOW2.below (Nat.le_refl _)).trans ((Only.set _ _ _ _).below (Nat.le_refl _))), Or.inl ⟨_, HD.out, rfl, rfl, rfl, by simp, rfl, decide_eq_decide.2 (by show a < (n : Int) ↔ a.toNat < n; omega), fun _ => ⟨by show a = ((a.toNat : Nat) : Int); omega, rfl⟩⟩⟩
set_option maxRecDepth 20000 in
set_option maxHeartbeats 2000000 in
theorem does_21 (a : Int) (n j : Nat) (hj : j < 256) (hl : zs.length < 32) (hi : Ins3 fr i0 i1) (h : Rw w g fr i0 i1 zs ⟨cells, seed, (j : Int), -1, false⟩ sv) : DoesC w g n j fr i0 i1 cells seed zs (21, a) := by
  have hjj : (j : Int) < 256 := by omega
  have HD : Hid (doI fr i0 i1 n (21, a) ⟨cells, seed, (zs : List Int).reverse, j, none⟩ = some ⟨cells, rndI seed, (rndI seed % 65536) :: zs.reverse, j + 1, none⟩) := hid_into (by show (if (zs.reverse).length < 32 then _ else _) = _; rw [if_pos (by simp; omega)]; rfl)
  have hT : (0 : Int) ≤ ((zs : List Int).length : Int) := by omega
  have HI := hid_into hi
  have fr1 := hi.fr.1
  have fr2 := hi.fr.2
  have n1 := hi.i0.1
  have n2 := hi.i0.2
  have n3 := hi.i1.1
  have n4 := hi.i1.2
  clear hi
  have HX : Hid (Cw (w.alloc (.cells #[.int .i64 21, .int .i64 a] 66)) w.heap.size [.int .i64 21, .int .i64 a] 66) := Cw.new _ _ _
  have HA := hid_into (h.below ((Below.refl w.heap.size w).alloc (Nat.le_refl _) (.cells #[.int .i64 21, .int .i64 a] 66)))
  have HL := hid_into h.lt
  have c22 := HA.out.slice
  have c23 := HA.out.pc
  have c25 := HA.out.bad
  have f23 := HA.out.row.frozen 23
  have f25 := HA.out.row.frozen 25
  have hlz := h.len
  obtain ⟨ao, cp, hsv, hc1, hc2⟩ := h.st.form
  subst hsv
  simp only at c23 c25
  clear h hc1 hc2
  unfold DoesC
  go_enter Tryz.func61, Tryz.ntmps61
  go_wp2_with fail
  go_quiet ((go_at_call 81; refine Calls.quiet_of_same ((takes_21 _).mono fun _ _ h => ⟨h.1, h.2⟩)))
  have hs : Sm (w.alloc (.cells #[.int .i64 21, .int .i64 a] 66)) ((w.alloc (.cells #[.int .i64 21, .int .i64 a] 66)).drewN nq) := Sm.drewN _ _
  generalize (w.alloc (.cells #[.int .i64 21, .int .i64 a] 66)).drewN nq = W at hs ⊢
  have HR := hid_into (HA.out.sm hs)
  have HX2 := hid_into (hs.cw HX.out)
  have B0 : Hid (Below g w W) := hid_into (((Below.refl g w).alloc (by have := HL.out; omega) _).trans (hs.below g))
  clear c22 c23 c25 f23 f25 HA HX hs
  have c23 := HR.out.pc
  have f23 := HR.out.row.frozen 23
  simp only at c23
  have HP := hid_into (HR.out.setPc ((j : Int) + 1))
  have z0 : W.cell? ⟨w.heap.size, 0, none⟩ = some (.int .i64 21) := (HX2.out.cell 0).trans rfl
  have z1 : W.cell? ⟨w.heap.size, 1, none⟩ = some (.int .i64 a) := (HX2.out.cell 1).trans rfl
  have hxg : w.heap.size ≠ g := by have := HL.out; omega
  have BP : Hid (Below g w (W.setCell ⟨g, 23, none⟩ (.int .i64 ((j : Int) + 1)))) := hid_into (B0.out.trans ((Only.set _ _ _ _).below (Nat.le_refl _)))
  have HXP : Hid (Cw (W.setCell ⟨g, 23, none⟩ (.int .i64 ((j : Int) + 1))) w.heap.size [.int .i64 21, .int .i64 a] 66) := hid_into (two_blocks HX2.out hxg _ _)
  have HPw := hid_into HP.out
  have BPw := hid_into BP.out
  have hsd := HP.out.wf.seed
  simp only at hsd
  have hrn := rndI_in hsd
  have hsd0 := hsd.1
  have hsd1 := hsd.2
  have p0 := HP.out.seed
  have pf := HP.out.row.frozen 17
  simp only at p0
  have HS := hid_into (HP.out.setSeed (rndI seed) hrn)
  have HW : wrap32 (bits .and .u32 (rndI seed) 65535) = rndI seed % 65536 := by rw [and16 _ hrn]; unfold wrap32; omega
  have HC := rpush_room (rndI seed % 65536) ⟨by omega, by omega⟩ HS.out hl
  have HZs : Hid (zs ++ [rndI seed % 65536] = ((rndI seed % 65536) :: zs.reverse).reverse) := by show _ = _; simp
  rw [← HW] at HC
  have HC' := hid_into HC
  have HW' := hid_into HW
  clear HC HW hrn hsd
  clear HR HX2 B0
  go_wp2_with (go_at_call 82; refine HC'.out.mono ?_; rintro e W2 ⟨rfl, sv2, hR2, hB2⟩; have b25 := hR2.bad; have p23 := hR2.pc; simp only at b25 p23)
  go_ret
  exact ⟨_, _, _, _, rfl, hR2, BPw.out.trans (((Only.set _ _ _ _).below (Nat.le_refl _)).trans hB2), Or.inl ⟨_, HD.out, rfl, rfl, rfl, by rw [HW'.out]; exact HZs.out, rfl, decide_eq_decide.2 (by show (j : Int) + 1 < (n : Int) ↔ j + 1 < n; omega), fun _ => ⟨by show (j : Int) + 1 = ((j + 1 : Nat) : Int); omega, rfl⟩⟩⟩
set_option maxRecDepth 20000 in
set_option maxHeartbeats 1000000 in
theorem does_5_few (a : Int) (n j : Nat) (hf : zs.length < 2) (h : Rw w g fr i0 i1 zs ⟨cells, seed, (j : Int), -1, false⟩ sv) : DoesC w g n j fr i0 i1 cells seed zs (5, a) := by
  have hd : doI fr i0 i1 n (5, a) ⟨cells, seed, zs.reverse, j, none⟩ = none := by
    match zs, hf with
    | [], _ => rfl
    | [z], _ => rfl
  have HD := hid_into hd
  have hf' : (zs.length : Int) < 2 := by omega
  clear hd
  have HX : Hid (Cw (w.alloc (.cells #[.int .i64 5, .int .i64 a] 66)) w.heap.size [.int .i64 5, .int .i64 a] 66) := Cw.new _ _ _
  have HA := hid_into (h.below ((Below.refl w.heap.size w).alloc (Nat.le_refl _) (.cells #[.int .i64 5, .int .i64 a] 66)))
  have HL := hid_into h.lt
  have c22 := HA.out.slice
  have c23 := HA.out.pc
  have c25 := HA.out.bad
  have f23 := HA.out.row.frozen 23
  have f25 := HA.out.row.frozen 25
  have hlz := h.len
  obtain ⟨ao, cp, hsv, hc1, hc2⟩ := h.st.form
  subst hsv
  simp only at c23 c25
  clear h hc1 hc2
  unfold DoesC
  go_enter Tryz.func61, Tryz.ntmps61
  go_wp2_with fail
  go_quiet ((go_at_call 81; refine Calls.quiet_of_same ((takes_5 _).mono fun _ _ h => ⟨h.1, h.2⟩)))
  go_wp2_with fail
  go_ret
  refine ⟨false, zs, _, _, rfl, (HA.out.setBad true).sm ⟨rfl, rfl, rfl, rfl⟩, ?_, Or.inr ⟨HD.out, rfl, rfl⟩⟩
  exact (((Below.refl g w).alloc (by have := HL.out; omega) _).trans ((Only.set g 25 _ (.bool true)).below (Nat.le_refl _))).trans ((Sm.drewN _ _).below _)
set_option maxRecDepth 20000 in
set_option maxHeartbeats 1000000 in
theorem does_9_few (a : Int) (n j : Nat) (hf : zs.length < 2) (h : Rw w g fr i0 i1 zs ⟨cells, seed, (j : Int), -1, false⟩ sv) : DoesC w g n j fr i0 i1 cells seed zs (9, a) := by
  have hd : doI fr i0 i1 n (9, a) ⟨cells, seed, zs.reverse, j, none⟩ = none := by
    match zs, hf with
    | [], _ => rfl
    | [z], _ => rfl
  have HD := hid_into hd
  have hf' : (zs.length : Int) < 2 := by omega
  clear hd
  have HX : Hid (Cw (w.alloc (.cells #[.int .i64 9, .int .i64 a] 66)) w.heap.size [.int .i64 9, .int .i64 a] 66) := Cw.new _ _ _
  have HA := hid_into (h.below ((Below.refl w.heap.size w).alloc (Nat.le_refl _) (.cells #[.int .i64 9, .int .i64 a] 66)))
  have HL := hid_into h.lt
  have c22 := HA.out.slice
  have c23 := HA.out.pc
  have c25 := HA.out.bad
  have f23 := HA.out.row.frozen 23
  have f25 := HA.out.row.frozen 25
  have hlz := h.len
  obtain ⟨ao, cp, hsv, hc1, hc2⟩ := h.st.form
  subst hsv
  simp only at c23 c25
  clear h hc1 hc2
  unfold DoesC
  go_enter Tryz.func61, Tryz.ntmps61
  go_wp2_with fail
  go_quiet ((go_at_call 81; refine Calls.quiet_of_same ((takes_9 _).mono fun _ _ h => ⟨h.1, h.2⟩)))
  go_wp2_with fail
  go_ret
  refine ⟨false, zs, _, _, rfl, (HA.out.setBad true).sm ⟨rfl, rfl, rfl, rfl⟩, ?_, Or.inr ⟨HD.out, rfl, rfl⟩⟩
  exact (((Below.refl g w).alloc (by have := HL.out; omega) _).trans ((Only.set g 25 _ (.bool true)).below (Nat.le_refl _))).trans ((Sm.drewN _ _).below _)
set_option maxRecDepth 20000 in
set_option maxHeartbeats 1000000 in
theorem does_13_few (a : Int) (n j : Nat) (hf : zs.length < 1) (h : Rw w g fr i0 i1 zs ⟨cells, seed, (j : Int), -1, false⟩ sv) : DoesC w g n j fr i0 i1 cells seed zs (13, a) := by
  have hd : doI fr i0 i1 n (13, a) ⟨cells, seed, zs.reverse, j, none⟩ = none := by
    obtain rfl : zs = [] := List.eq_nil_of_length_eq_zero (by omega)
    rfl
  have HD := hid_into hd
  have hf' : (zs.length : Int) < 1 := by omega
  clear hd
  have HX : Hid (Cw (w.alloc (.cells #[.int .i64 13, .int .i64 a] 66)) w.heap.size [.int .i64 13, .int .i64 a] 66) := Cw.new _ _ _
  have HA := hid_into (h.below ((Below.refl w.heap.size w).alloc (Nat.le_refl _) (.cells #[.int .i64 13, .int .i64 a] 66)))
  have HL := hid_into h.lt
  have c22 := HA.out.slice
  have c23 := HA.out.pc
  have c25 := HA.out.bad
  have f23 := HA.out.row.frozen 23
  have f25 := HA.out.row.frozen 25
  have hlz := h.len
  obtain ⟨ao, cp, hsv, hc1, hc2⟩ := h.st.form
  subst hsv
  simp only at c23 c25
  clear h hc1 hc2
  unfold DoesC
  go_enter Tryz.func61, Tryz.ntmps61
  go_wp2_with fail
  go_quiet ((go_at_call 81; refine Calls.quiet_of_same ((takes_13 _).mono fun _ _ h => ⟨h.1, h.2⟩)))
  go_wp2_with fail
  go_ret
  refine ⟨false, zs, _, _, rfl, (HA.out.setBad true).sm ⟨rfl, rfl, rfl, rfl⟩, ?_, Or.inr ⟨HD.out, rfl, rfl⟩⟩
  exact (((Below.refl g w).alloc (by have := HL.out; omega) _).trans ((Only.set g 25 _ (.bool true)).below (Nat.le_refl _))).trans ((Sm.drewN _ _).below _)
end Go.Proofs.YtbfldcieibdapabGreat
end
