/-
  Joined from: Does3.
-/
import Derived.Test.YtbfldcieibdapabGreatM26
section
/-
  The document's does, in parts: each instruction, by a contract.
-/
namespace Go.Proofs.YtbfldcieibdapabGreat
open Go.RowKit
variable {fr i0 i1 : Int} {sv : Value} {cells : List Int} {seed : Int} {w w' : World} {g : Nat} {zs : List Int}
set_option maxRecDepth 20000 in
set_option maxHeartbeats 2000000 in
theorem does_17 (a : Int) (n j : Nat) (hj : j < 256) (hl : zs.length < 32) (hi : Ins3 fr i0 i1) (h : Rw w g fr i0 i1 zs ⟨cells, seed, (j : Int), -1, false⟩ sv) : DoesC w g n j fr i0 i1 cells seed zs (17, a) := by
  have hjj : (j : Int) < 256 := by omega
  have HD : Hid (doI fr i0 i1 n (17, a) ⟨cells, seed, (zs : List Int).reverse, j, none⟩ = some ⟨cells, seed, fr :: zs.reverse, j + 1, none⟩) := hid_into (by show (if (zs.reverse).length < 32 then _ else _) = _; rw [if_pos (by simp; omega)]; rfl)
  have hT : (0 : Int) ≤ ((zs : List Int).length : Int) := by omega
  have HI := hid_into hi
  have fr1 := hi.fr.1
  have fr2 := hi.fr.2
  have n1 := hi.i0.1
  have n2 := hi.i0.2
  have n3 := hi.i1.1
  have n4 := hi.i1.2
  clear hi
  have HX : Hid (Cw (w.alloc (.cells #[.int .i64 17, .int .i64 a] 66)) w.heap.size [.int .i64 17, .int .i64 a] 66) := Cw.new _ _ _
  have HA := hid_into (h.below ((Below.refl w.heap.size w).alloc (Nat.le_refl _) (.cells #[.int .i64 17, .int .i64 a] 66)))
  have HL := hid_into h.lt
  have c22 := HA.out.slice
  have c23 := HA.out.pc
  have c25 := HA.out.bad
  have f23 := HA.out.row.frozen 23
  have f25 := HA.out.row.frozen 25
  have hlz := h.len
  obtain ⟨ao, cp, hsv, hc1, hc2⟩ := h.st.form
  subst hsv
  simp only at c23 c25
  clear h hc1 hc2
  unfold DoesC
  go_enter Tryz.func61, Tryz.ntmps61
  go_wp2_with fail
  go_quiet ((go_at_call 81; refine Calls.quiet_of_same ((takes_17 _).mono fun _ _ h => ⟨h.1, h.2⟩)))
  have hs : Sm (w.alloc (.cells #[.int .i64 17, .int .i64 a] 66)) ((w.alloc (.cells #[.int .i64 17, .int .i64 a] 66)).drewN nq) := Sm.drewN _ _
  generalize (w.alloc (.cells #[.int .i64 17, .int .i64 a] 66)).drewN nq = W at hs ⊢
  have HR := hid_into (HA.out.sm hs)
  have HX2 := hid_into (hs.cw HX.out)
  have B0 : Hid (Below g w W) := hid_into (((Below.refl g w).alloc (by have := HL.out; omega) _).trans (hs.below g))
  clear c22 c23 c25 f23 f25 HA HX hs
  have c23 := HR.out.pc
  have f23 := HR.out.row.frozen 23
  simp only at c23
  have HP := hid_into (HR.out.setPc ((j : Int) + 1))
  have z0 : W.cell? ⟨w.heap.size, 0, none⟩ = some (.int .i64 17) := (HX2.out.cell 0).trans rfl
  have z1 : W.cell? ⟨w.heap.size, 1, none⟩ = some (.int .i64 a) := (HX2.out.cell 1).trans rfl
  have hxg : w.heap.size ≠ g := by have := HL.out; omega
  have BP : Hid (Below g w (W.setCell ⟨g, 23, none⟩ (.int .i64 ((j : Int) + 1)))) := hid_into (B0.out.trans ((Only.set _ _ _ _).below (Nat.le_refl _)))
  have HXP : Hid (Cw (W.setCell ⟨g, 23, none⟩ (.int .i64 ((j : Int) + 1))) w.heap.size [.int .i64 17, .int .i64 a] 66) := hid_into (two_blocks HX2.out hxg _ _)
  have HPw := hid_into HP.out
  have BPw := hid_into BP.out
  have c0 := HR.out.frame
  have HV : Hid (In32 fr) := ⟨by omega, by omega⟩
  clear HR HX2 B0
  go_wp2_with (go_at_call 82; refine (rpush_room fr HV.out HPw.out hl).mono ?_; rintro e W2 ⟨rfl, sv2, hR2, hB2⟩; have b25 := hR2.bad; have p23 := hR2.pc; simp only at b25 p23)
  go_ret
  exact ⟨_, _, _, _, rfl, hR2, BPw.out.trans hB2, Or.inl ⟨_, HD.out, rfl, rfl, rfl, by simp, rfl, decide_eq_decide.2 (by show (j : Int) + 1 < (n : Int) ↔ j + 1 < n; omega), fun _ => ⟨by show (j : Int) + 1 = ((j + 1 : Nat) : Int); omega, rfl⟩⟩⟩
set_option maxRecDepth 20000 in
set_option maxHeartbeats 2000000 in
theorem does_16_0 (n j : Nat) (hj : j < 256) (hl : zs.length < 32) (hi : Ins3 fr i0 i1) (h : Rw w g fr i0 i1 zs ⟨cells, seed, (j : Int), -1, false⟩ sv) : DoesC w g n j fr i0 i1 cells seed zs (16, 0) := by
  have hjj : (j : Int) < 256 := by omega
  have HD : Hid (doI fr i0 i1 n (16, 0) ⟨cells, seed, (zs : List Int).reverse, j, none⟩ = some ⟨cells, seed, i0 :: zs.reverse, j + 1, none⟩) := hid_into (by show (Mp.mk cells seed zs.reverse (j + 1) none).push (if (0 : Int) = 0 then i0 else i1) = _; rw [if_pos rfl]; show (if (zs.reverse).length < 32 then _ else _) = _; rw [if_pos (by simp; omega)])
  have hT : (0 : Int) ≤ ((zs : List Int).length : Int) := by omega
  have HI := hid_into hi
  have fr1 := hi.fr.1
  have fr2 := hi.fr.2
  have n1 := hi.i0.1
  have n2 := hi.i0.2
  have n3 := hi.i1.1
  have n4 := hi.i1.2
  clear hi
  have HX : Hid (Cw (w.alloc (.cells #[.int .i64 16, .int .i64 0] 66)) w.heap.size [.int .i64 16, .int .i64 0] 66) := Cw.new _ _ _
  have HA := hid_into (h.below ((Below.refl w.heap.size w).alloc (Nat.le_refl _) (.cells #[.int .i64 16, .int .i64 0] 66)))
  have HL := hid_into h.lt
  have c22 := HA.out.slice
  have c23 := HA.out.pc
  have c25 := HA.out.bad
  have f23 := HA.out.row.frozen 23
  have f25 := HA.out.row.frozen 25
  have hlz := h.len
  obtain ⟨ao, cp, hsv, hc1, hc2⟩ := h.st.form
  subst hsv
  simp only at c23 c25
  clear h hc1 hc2
  unfold DoesC
  go_enter Tryz.func61, Tryz.ntmps61
  go_wp2_with fail
  go_quiet ((go_at_call 81; refine Calls.quiet_of_same ((takes_16 _).mono fun _ _ h => ⟨h.1, h.2⟩)))
  have hs : Sm (w.alloc (.cells #[.int .i64 16, .int .i64 0] 66)) ((w.alloc (.cells #[.int .i64 16, .int .i64 0] 66)).drewN nq) := Sm.drewN _ _
  generalize (w.alloc (.cells #[.int .i64 16, .int .i64 0] 66)).drewN nq = W at hs ⊢
  have HR := hid_into (HA.out.sm hs)
  have HX2 := hid_into (hs.cw HX.out)
  have B0 : Hid (Below g w W) := hid_into (((Below.refl g w).alloc (by have := HL.out; omega) _).trans (hs.below g))
  clear c22 c23 c25 f23 f25 HA HX hs
  have c23 := HR.out.pc
  have f23 := HR.out.row.frozen 23
  simp only at c23
  have HP := hid_into (HR.out.setPc ((j : Int) + 1))
  have z0 : W.cell? ⟨w.heap.size, 0, none⟩ = some (.int .i64 16) := (HX2.out.cell 0).trans rfl
  have z1 : W.cell? ⟨w.heap.size, 1, none⟩ = some (.int .i64 0) := (HX2.out.cell 1).trans rfl
  have hxg : w.heap.size ≠ g := by have := HL.out; omega
  have BP : Hid (Below g w (W.setCell ⟨g, 23, none⟩ (.int .i64 ((j : Int) + 1)))) := hid_into (B0.out.trans ((Only.set _ _ _ _).below (Nat.le_refl _)))
  have HXP : Hid (Cw (W.setCell ⟨g, 23, none⟩ (.int .i64 ((j : Int) + 1))) w.heap.size [.int .i64 16, .int .i64 0] 66) := hid_into (two_blocks HX2.out hxg _ _)
  have HPw := hid_into (HP.out.sm (w' := (W.setCell ⟨g, 23, none⟩ (.int .i64 ((j : Int) + 1))).drew) ⟨rfl, rfl, rfl, rfl⟩)
  have BPw : Hid (Below g w (W.setCell ⟨g, 23, none⟩ (.int .i64 ((j : Int) + 1))).drew) := hid_into BP.out.drew
  have y1 : (W.setCell ⟨g, 23, none⟩ (.int .i64 ((j : Int) + 1))).cell? ⟨w.heap.size, 1, none⟩ = some (.int .i64 0) := (HXP.out.cell 1).trans rfl
  have y2 := HP.out.in0
  have HV : Hid (In32 i0) := ⟨by omega, by omega⟩
  have HWp : Hid (IntKind.i32.wrap i0 = i0) := by show _ = _; simp [IntKind.wrap, IntKind.signed, IntKind.bits]; omega
  clear HR HX2 B0
  go_wp2_with fail
  go_region_with (go_at_call 82; rw [HWp.out]; refine (rpush_room i0 HV.out HPw.out hl).mono ?_; rintro e W2 ⟨rfl, sv2, hR2, hB2⟩; have b25 := hR2.bad; have p23 := hR2.pc; simp only at b25 p23)
  go_wp2_with fail
  go_ret
  exact ⟨_, _, _, _, rfl, hR2, BPw.out.trans hB2, Or.inl ⟨_, HD.out, rfl, rfl, rfl, by simp, rfl, decide_eq_decide.2 (by show (j : Int) + 1 < (n : Int) ↔ j + 1 < n; omega), fun _ => ⟨by show (j : Int) + 1 = ((j + 1 : Nat) : Int); omega, rfl⟩⟩⟩
set_option maxRecDepth 20000 in
set_option maxHeartbeats 2000000 in
theorem does_3 (n j : Nat) (hj : j < 256) {ys : List Int} {z : Int} (i : Nat) (hi16 : i < 16) (hi : Ins3 fr i0 i1) (h : Rw w g fr i0 i1 (ys ++ [z]) ⟨cells, seed, (j : Int), -1, false⟩ sv) : DoesC w g n j fr i0 i1 cells seed (ys ++ [z]) (3, (i : Int)) := by
  have hjj : (j : Int) < 256 := by omega
  have HD : Hid (doI fr i0 i1 n (3, (i : Int)) ⟨cells, seed, ((ys ++ [z]) : List Int).reverse, j, none⟩ = some ⟨cells.set i z, seed, ys.reverse, j + 1, none⟩) := hid_into (by rw [List.reverse_append]; rfl)
  have hT : (1 : Int) ≤ (((ys ++ [z]) : List Int).length : Int) := by simp; omega
  have HI := hid_into hi
  have fr1 := hi.fr.1
  have fr2 := hi.fr.2
  have n1 := hi.i0.1
  have n2 := hi.i0.2
  have n3 := hi.i1.1
  have n4 := hi.i1.2
  clear hi
  have HX : Hid (Cw (w.alloc (.cells #[.int .i64 3, .int .i64 (i : Int)] 66)) w.heap.size [.int .i64 3, .int .i64 (i : Int)] 66) := Cw.new _ _ _
  have HA := hid_into (h.below ((Below.refl w.heap.size w).alloc (Nat.le_refl _) (.cells #[.int .i64 3, .int .i64 (i : Int)] 66)))
  have HL := hid_into h.lt
  have c22 := HA.out.slice
  have c23 := HA.out.pc
  have c25 := HA.out.bad
  have f23 := HA.out.row.frozen 23
  have f25 := HA.out.row.frozen 25
  have hlz := h.len
  obtain ⟨ao, cp, hsv, hc1, hc2⟩ := h.st.form
  subst hsv
  simp only at c23 c25
  clear h hc1 hc2
  unfold DoesC
  go_enter Tryz.func61, Tryz.ntmps61
  go_wp2_with fail
  go_quiet ((go_at_call 81; refine Calls.quiet_of_same ((takes_3 _).mono fun _ _ h => ⟨h.1, h.2⟩)))
  have hs : Sm (w.alloc (.cells #[.int .i64 3, .int .i64 (i : Int)] 66)) ((w.alloc (.cells #[.int .i64 3, .int .i64 (i : Int)] 66)).drewN nq) := Sm.drewN _ _
  generalize (w.alloc (.cells #[.int .i64 3, .int .i64 (i : Int)] 66)).drewN nq = W at hs ⊢
  have HR := hid_into (HA.out.sm hs)
  have HX2 := hid_into (hs.cw HX.out)
  have B0 : Hid (Below g w W) := hid_into (((Below.refl g w).alloc (by have := HL.out; omega) _).trans (hs.below g))
  clear c22 c23 c25 f23 f25 HA HX hs
  have c23 := HR.out.pc
  have f23 := HR.out.row.frozen 23
  simp only at c23
  have HP := hid_into (HR.out.setPc ((j : Int) + 1))
  have z0 : W.cell? ⟨w.heap.size, 0, none⟩ = some (.int .i64 3) := (HX2.out.cell 0).trans rfl
  have z1 : W.cell? ⟨w.heap.size, 1, none⟩ = some (.int .i64 (i : Int)) := (HX2.out.cell 1).trans rfl
  have hxg : w.heap.size ≠ g := by have := HL.out; omega
  have BP : Hid (Below g w (W.setCell ⟨g, 23, none⟩ (.int .i64 ((j : Int) + 1)))) := hid_into (B0.out.trans ((Only.set _ _ _ _).below (Nat.le_refl _)))
  have HXP : Hid (Cw (W.setCell ⟨g, 23, none⟩ (.int .i64 ((j : Int) + 1))) w.heap.size [.int .i64 3, .int .i64 (i : Int)] 66) := hid_into (two_blocks HX2.out hxg _ _)
  have HPw := hid_into (HP.out.sm (w' := (W.setCell ⟨g, 23, none⟩ (.int .i64 ((j : Int) + 1))).drew) ⟨rfl, rfl, rfl, rfl⟩)
  have BPw : Hid (Below g w (W.setCell ⟨g, 23, none⟩ (.int .i64 ((j : Int) + 1))).drew) := hid_into BP.out.drew
  have y1 : (W.setCell ⟨g, 23, none⟩ (.int .i64 ((j : Int) + 1))).cell? ⟨w.heap.size, 1, none⟩ = some (.int .i64 (i : Int)) := (HXP.out.cell 1).trans rfl
  have hz := hid_into (HP.out.sin z (by simp))
  have hi16' : (i : Int) < 16 := by omega
  clear HR HX2 B0
  go_wp2_with fail
  go_region_with (go_at_call 83; refine (rpop_some ys z HPw.out).mono ?_; rintro e W2 ⟨rfl, sv2, hR2, hO2⟩; have y2 : W2.cell? ⟨w.heap.size, 1, none⟩ = some (.int .i64 (i : Int)) := (World.cell?_of_block (w := (W.setCell ⟨g, 23, none⟩ (.int .i64 ((j : Int) + 1)))) (a := ⟨w.heap.size, 1, none⟩) (hO2.block _ hxg)).trans y1; have y3 := hR2.cell i hi16; have y4 := hR2.row.frozen (1 + i); have H3 := hid_into (hR2.setCell i hi16 z hz.out); have b25 := H3.out.bad; have p23 := H3.out.pc; simp only at b25 p23; have hB3 := hid_into (BPw.out.trans ((hO2.below (Nat.le_refl _)).trans ((Only.set g (1 + i) W2 (.int .i32 z)).below (Nat.le_refl _)))); clear hR2)
  all_goals
    go_wp2_with fail
    go_ret
    exact ⟨_, _, _, _, rfl, H3.out, hB3.out, Or.inl ⟨_, HD.out, rfl, rfl, rfl, by simp, rfl, decide_eq_decide.2 (by show (j : Int) + 1 < (n : Int) ↔ j + 1 < n; omega), fun _ => ⟨by show (j : Int) + 1 = ((j + 1 : Nat) : Int); omega, rfl⟩⟩⟩
set_option maxRecDepth 20000 in
set_option maxHeartbeats 2000000 in
theorem does_7 (a : Int) (n j : Nat) (hj : j < 256) {ys : List Int} {b c : Int} (hi : Ins3 fr i0 i1) (h : Rw w g fr i0 i1 (ys ++ [b] ++ [c]) ⟨cells, seed, (j : Int), -1, false⟩ sv) : DoesC w g n j fr i0 i1 cells seed (ys ++ [b] ++ [c]) (7, a) := by
  have hjj : (j : Int) < 256 := by omega
  have HD : Hid (doI fr i0 i1 n (7, a) ⟨cells, seed, ((ys ++ [b] ++ [c]) : List Int).reverse, j, none⟩ = some ⟨cells, seed, twoI 7 b c :: ys.reverse, j + 1, none⟩) := hid_into (by rw [List.reverse_append, List.reverse_append]; rfl)
  have hT : (2 : Int) ≤ (((ys ++ [b] ++ [c]) : List Int).length : Int) := by simp; omega
  have HI := hid_into hi
  have fr1 := hi.fr.1
  have fr2 := hi.fr.2
  have n1 := hi.i0.1
  have n2 := hi.i0.2
  have n3 := hi.i1.1
  have n4 := hi.i1.2
  clear hi
  have HX : Hid (Cw (w.alloc (.cells #[.int .i64 7, .int .i64 a] 66)) w.heap.size [.int .i64 7, .int .i64 a] 66) := Cw.new _ _ _
  have HA := hid_into (h.below ((Below.refl w.heap.size w).alloc (Nat.le_refl _) (.cells #[.int .i64 7, .int .i64 a] 66)))
  have HL := hid_into h.lt
  have c22 := HA.out.slice
  have c23 := HA.out.pc
  have c25 := HA.out.bad
  have f23 := HA.out.row.frozen 23
  have f25 := HA.out.row.frozen 25
  have hlz := h.len
  obtain ⟨ao, cp, hsv, hc1, hc2⟩ := h.st.form
  subst hsv
  simp only at c23 c25
  clear h hc1 hc2
  unfold DoesC
  go_enter Tryz.func61, Tryz.ntmps61
  go_wp2_with fail
  go_quiet ((go_at_call 81; refine Calls.quiet_of_same ((takes_7 _).mono fun _ _ h => ⟨h.1, h.2⟩)))
  have hs : Sm (w.alloc (.cells #[.int .i64 7, .int .i64 a] 66)) ((w.alloc (.cells #[.int .i64 7, .int .i64 a] 66)).drewN nq) := Sm.drewN _ _
  generalize (w.alloc (.cells #[.int .i64 7, .int .i64 a] 66)).drewN nq = W at hs ⊢
  have HR := hid_into (HA.out.sm hs)
  have HX2 := hid_into (hs.cw HX.out)
  have B0 : Hid (Below g w W) := hid_into (((Below.refl g w).alloc (by have := HL.out; omega) _).trans (hs.below g))
  clear c22 c23 c25 f23 f25 HA HX hs
  have c23 := HR.out.pc
  have f23 := HR.out.row.frozen 23
  simp only at c23
  have HP := hid_into (HR.out.setPc ((j : Int) + 1))
  have z0 : W.cell? ⟨w.heap.size, 0, none⟩ = some (.int .i64 7) := (HX2.out.cell 0).trans rfl
  have z1 : W.cell? ⟨w.heap.size, 1, none⟩ = some (.int .i64 a) := (HX2.out.cell 1).trans rfl
  have hxg : w.heap.size ≠ g := by have := HL.out; omega
  have BP : Hid (Below g w (W.setCell ⟨g, 23, none⟩ (.int .i64 ((j : Int) + 1)))) := hid_into (B0.out.trans ((Only.set _ _ _ _).below (Nat.le_refl _)))
  have HXP : Hid (Cw (W.setCell ⟨g, 23, none⟩ (.int .i64 ((j : Int) + 1))) w.heap.size [.int .i64 7, .int .i64 a] 66) := hid_into (two_blocks HX2.out hxg _ _)
  have HPw := hid_into HP.out
  have BPw := hid_into BP.out
  have hb := hid_into (HP.out.sin b (by simp))
  have hc := hid_into (HP.out.sin c (by simp))
  clear HR HX2 B0
  go_wp2_with (first
    | (go_at_call 83; refine (rpop_some (ys ++ [b]) c HPw.out).mono ?_; rintro e W2 ⟨rfl, svW2, hRW2, hOW2⟩; have HW2 := hid_into hRW2; clear hRW2 HPw)
    | (go_at_call 83; refine (rpop_some ys b HW2.out).mono ?_; rintro e W3 ⟨rfl, svW3, hRW3, hOW3⟩; have HW3 := hid_into hRW3; clear hRW3; have y0 : W3.cell? ⟨w.heap.size, 0, none⟩ = some (.int .i64 7) := (World.cell?_of_block (w := W2) (a := ⟨w.heap.size, 0, none⟩) (hOW3.block _ hxg)).trans ((World.cell?_of_block (w := (W.setCell ⟨g, 23, none⟩ (.int .i64 ((j : Int) + 1)))) (a := ⟨w.heap.size, 0, none⟩) (hOW2.block _ hxg)).trans ((HXP.out.cell 0).trans rfl)))
    | (go_at_call 85; refine (two_7 b c hb.out hc.out _).mono ?_; rintro e w' ⟨rfl, rfl⟩)
    | (go_at_call 82; refine (rpush_room (twoI 7 b c) (twoI_in hb.out hc.out) HW3.out (by have := hlz; simp at this; omega)).mono ?_; rintro e W4 ⟨rfl, svW4, hRW4, hBW4⟩; have b25 := hRW4.bad; have p23 := hRW4.pc; simp only at b25 p23; have HW4 := hid_into hRW4; clear hRW4 HW3))
  go_ret
  exact ⟨_, _, _, _, rfl, HW4.out, BPw.out.trans ((hOW2.below (Nat.le_refl _)).trans ((hOW3.below (Nat.le_refl _)).trans hBW4)), Or.inl ⟨_, HD.out, rfl, rfl, rfl, by simp, rfl, decide_eq_decide.2 (by show (j : Int) + 1 < (n : Int) ↔ j + 1 < n; omega), fun _ => ⟨by show (j : Int) + 1 = ((j + 1 : Nat) : Int); omega, rfl⟩⟩⟩
set_option maxRecDepth 20000 in
set_option maxHeartbeats 2000000 in
theorem does_11 (a : Int) (n j : Nat) (hj : j < 256) {ys : List Int} {b c : Int} (hi : Ins3 fr i0 i1) (h : Rw w g fr i0 i1 (ys ++ [b] ++ [c]) ⟨cells, seed, (j : Int), -1, false⟩ sv) : DoesC w g n j fr i0 i1 cells seed (ys ++ [b] ++ [c]) (11, a) := by
  have hjj : (j : Int) < 256 := by omega
  have HD : Hid (doI fr i0 i1 n (11, a) ⟨cells, seed, ((ys ++ [b] ++ [c]) : List Int).reverse, j, none⟩ = some ⟨cells, seed, twoI 11 b c :: ys.reverse, j + 1, none⟩) := hid_into (by rw [List.reverse_append, List.reverse_append]; rfl)
  have hT : (2 : Int) ≤ (((ys ++ [b] ++ [c]) : List Int).length : Int) := by simp; omega
  have HI := hid_into hi
  have fr1 := hi.fr.1
  have fr2 := hi.fr.2
  have n1 := hi.i0.1
  have n2 := hi.i0.2
  have n3 := hi.i1.1
  have n4 := hi.i1.2
  clear hi
  have HX : Hid (Cw (w.alloc (.cells #[.int .i64 11, .int .i64 a] 66)) w.heap.size [.int .i64 11, .int .i64 a] 66) := Cw.new _ _ _
  have HA := hid_into (h.below ((Below.refl w.heap.size w).alloc (Nat.le_refl _) (.cells #[.int .i64 11, .int .i64 a] 66)))
  have HL := hid_into h.lt
  have c22 := HA.out.slice
  have c23 := HA.out.pc
  have c25 := HA.out.bad
  have f23 := HA.out.row.frozen 23
  have f25 := HA.out.row.frozen 25
  have hlz := h.len
  obtain ⟨ao, cp, hsv, hc1, hc2⟩ := h.st.form
  subst hsv
  simp only at c23 c25
  clear h hc1 hc2
  unfold DoesC
  go_enter Tryz.func61, Tryz.ntmps61
  go_wp2_with fail
  go_quiet ((go_at_call 81; refine Calls.quiet_of_same ((takes_11 _).mono fun _ _ h => ⟨h.1, h.2⟩)))
  have hs : Sm (w.alloc (.cells #[.int .i64 11, .int .i64 a] 66)) ((w.alloc (.cells #[.int .i64 11, .int .i64 a] 66)).drewN nq) := Sm.drewN _ _
  generalize (w.alloc (.cells #[.int .i64 11, .int .i64 a] 66)).drewN nq = W at hs ⊢
  have HR := hid_into (HA.out.sm hs)
  have HX2 := hid_into (hs.cw HX.out)
  have B0 : Hid (Below g w W) := hid_into (((Below.refl g w).alloc (by have := HL.out; omega) _).trans (hs.below g))
  clear c22 c23 c25 f23 f25 HA HX hs
  have c23 := HR.out.pc
  have f23 := HR.out.row.frozen 23
  simp only at c23
  have HP := hid_into (HR.out.setPc ((j : Int) + 1))
  have z0 : W.cell? ⟨w.heap.size, 0, none⟩ = some (.int .i64 11) := (HX2.out.cell 0).trans rfl
  have z1 : W.cell? ⟨w.heap.size, 1, none⟩ = some (.int .i64 a) := (HX2.out.cell 1).trans rfl
  have hxg : w.heap.size ≠ g := by have := HL.out; omega
  have BP : Hid (Below g w (W.setCell ⟨g, 23, none⟩ (.int .i64 ((j : Int) + 1)))) := hid_into (B0.out.trans ((Only.set _ _ _ _).below (Nat.le_refl _)))
  have HXP : Hid (Cw (W.setCell ⟨g, 23, none⟩ (.int .i64 ((j : Int) + 1))) w.heap.size [.int .i64 11, .int .i64 a] 66) := hid_into (two_blocks HX2.out hxg _ _)
  have HPw := hid_into HP.out
  have BPw := hid_into BP.out
  have hb := hid_into (HP.out.sin b (by simp))
  have hc := hid_into (HP.out.sin c (by simp))
  clear HR HX2 B0
  go_wp2_with (first
    | (go_at_call 83; refine (rpop_some (ys ++ [b]) c HPw.out).mono ?_; rintro e W2 ⟨rfl, svW2, hRW2, hOW2⟩; have HW2 := hid_into hRW2; clear hRW2 HPw)
    | (go_at_call 83; refine (rpop_some ys b HW2.out).mono ?_; rintro e W3 ⟨rfl, svW3, hRW3, hOW3⟩; have HW3 := hid_into hRW3; clear hRW3; have y0 : W3.cell? ⟨w.heap.size, 0, none⟩ = some (.int .i64 11) := (World.cell?_of_block (w := W2) (a := ⟨w.heap.size, 0, none⟩) (hOW3.block _ hxg)).trans ((World.cell?_of_block (w := (W.setCell ⟨g, 23, none⟩ (.int .i64 ((j : Int) + 1)))) (a := ⟨w.heap.size, 0, none⟩) (hOW2.block _ hxg)).trans ((HXP.out.cell 0).trans rfl)))
    | (go_at_call 85; refine (two_11 b c hb.out hc.out _).mono ?_; rintro e w' ⟨rfl, rfl⟩)
    | (go_at_call 82; refine (rpush_room (twoI 11 b c) (twoI_in hb.out hc.out) HW3.out (by have := hlz; simp at this; omega)).mono ?_; rintro e W4 ⟨rfl, svW4, hRW4, hBW4⟩; have b25 := hRW4.bad; have p23 := hRW4.pc; simp only at b25 p23; have HW4 := hid_into hRW4; clear hRW4 HW3))
  go_ret
  exact ⟨_, _, _, _, rfl, HW4.out, BPw.out.trans ((hOW2.below (Nat.le_refl _)).trans ((hOW3.below (Nat.le_refl _)).trans hBW4)), Or.inl ⟨_, HD.out, rfl, rfl, rfl, by simp, rfl, decide_eq_decide.2 (by show (j : Int) + 1 < (n : Int) ↔ j + 1 < n; omega), fun _ => ⟨by show (j : Int) + 1 = ((j + 1 : Nat) : Int); omega, rfl⟩⟩⟩
set_option maxRecDepth 20000 in
set_option maxHeartbeats 2000000 in
theorem does_14 (a : Int) (n j : Nat) (hj : j < 256) {ys : List Int} {b c : Int} (hi : Ins3 fr i0 i1) (h : Rw w g fr i0 i1 (ys ++ [b] ++ [c]) ⟨cells, seed, (j : Int), -1, false⟩ sv) : DoesC w g n j fr i0 i1 cells seed (ys ++ [b] ++ [c]) (14, a) := by
  have hjj : (j : Int) < 256 := by omega
  have HD : Hid (doI fr i0 i1 n (14, a) ⟨cells, seed, ((ys ++ [b] ++ [c]) : List Int).reverse, j, none⟩ = some ⟨cells, seed, b :: c :: ys.reverse, j + 1, none⟩) := hid_into (by rw [List.reverse_append, List.reverse_append]; rfl)
  have hT : (2 : Int) ≤ (((ys ++ [b] ++ [c]) : List Int).length : Int) := by simp; omega
  have HI := hid_into hi
  have fr1 := hi.fr.1
  have fr2 := hi.fr.2
  have n1 := hi.i0.1
  have n2 := hi.i0.2
  have n3 := hi.i1.1
  have n4 := hi.i1.2
  clear hi
  have HX : Hid (Cw (w.alloc (.cells #[.int .i64 14, .int .i64 a] 66)) w.heap.size [.int .i64 14, .int .i64 a] 66) := Cw.new _ _ _
  have HA := hid_into (h.below ((Below.refl w.heap.size w).alloc (Nat.le_refl _) (.cells #[.int .i64 14, .int .i64 a] 66)))
  have HL := hid_into h.lt
  have c22 := HA.out.slice
  have c23 := HA.out.pc
  have c25 := HA.out.bad
  have f23 := HA.out.row.frozen 23
  have f25 := HA.out.row.frozen 25
  have hlz := h.len
  obtain ⟨ao, cp, hsv, hc1, hc2⟩ := h.st.form
  subst hsv
  simp only at c23 c25
  clear h hc1 hc2
  unfold DoesC
  go_enter Tryz.func61, Tryz.ntmps61
  go_wp2_with fail
  go_quiet ((go_at_call 81; refine Calls.quiet_of_same ((takes_14 _).mono fun _ _ h => ⟨h.1, h.2⟩)))
  have hs : Sm (w.alloc (.cells #[.int .i64 14, .int .i64 a] 66)) ((w.alloc (.cells #[.int .i64 14, .int .i64 a] 66)).drewN nq) := Sm.drewN _ _
  generalize (w.alloc (.cells #[.int .i64 14, .int .i64 a] 66)).drewN nq = W at hs ⊢
  have HR := hid_into (HA.out.sm hs)
  have HX2 := hid_into (hs.cw HX.out)
  have B0 : Hid (Below g w W) := hid_into (((Below.refl g w).alloc (by have := HL.out; omega) _).trans (hs.below g))
  clear c22 c23 c25 f23 f25 HA HX hs
  have c23 := HR.out.pc
  have f23 := HR.out.row.frozen 23
  simp only at c23
  have HP := hid_into (HR.out.setPc ((j : Int) + 1))
  have z0 : W.cell? ⟨w.heap.size, 0, none⟩ = some (.int .i64 14) := (HX2.out.cell 0).trans rfl
  have z1 : W.cell? ⟨w.heap.size, 1, none⟩ = some (.int .i64 a) := (HX2.out.cell 1).trans rfl
  have hxg : w.heap.size ≠ g := by have := HL.out; omega
  have BP : Hid (Below g w (W.setCell ⟨g, 23, none⟩ (.int .i64 ((j : Int) + 1)))) := hid_into (B0.out.trans ((Only.set _ _ _ _).below (Nat.le_refl _)))
  have HXP : Hid (Cw (W.setCell ⟨g, 23, none⟩ (.int .i64 ((j : Int) + 1))) w.heap.size [.int .i64 14, .int .i64 a] 66) := hid_into (two_blocks HX2.out hxg _ _)
  have HPw := hid_into HP.out
  have BPw := hid_into BP.out
  have hb := hid_into (HP.out.sin b (by simp))
  have hc := hid_into (HP.out.sin c (by simp))
  clear HR HX2 B0
  go_wp2_with (first
    | (go_at_call 83; refine (rpop_some (ys ++ [b]) c HPw.out).mono ?_; rintro e W2 ⟨rfl, svW2, hRW2, hOW2⟩; have HW2 := hid_into hRW2; clear hRW2 HPw)
    | (go_at_call 83; refine (rpop_some ys b HW2.out).mono ?_; rintro e W3 ⟨rfl, svW3, hRW3, hOW3⟩; have HW3 := hid_into hRW3; clear hRW3 HW2)
    | (go_at_call 82; refine (rpush_room c hc.out HW3.out (by have := hlz; simp at this; omega)).mono ?_; rintro e W4 ⟨rfl, svW4, hRW4, hBW4⟩; have HW4 := hid_into hRW4; clear hRW4 HW3)
    | (go_at_call 82; refine (rpush_room b hb.out HW4.out (by have := hlz; simp at this ⊢; omega)).mono ?_; rintro e W5 ⟨rfl, svW5, hRW5, hBW5⟩; have b25 := hRW5.bad; have p23 := hRW5.pc; simp only at b25 p23; have HW5 := hid_into hRW5; clear hRW5 HW4))
  go_ret
  exact ⟨_, _, _, _, rfl, HW5.out, BPw.out.trans ((hOW2.below (Nat.le_refl _)).trans ((hOW3.below (Nat.le_refl _)).trans (hBW4.trans hBW5))), Or.inl ⟨_, HD.out, rfl, rfl, rfl, by simp, rfl, decide_eq_decide.2 (by show (j : Int) + 1 < (n : Int) ↔ j + 1 < n; omega), fun _ => ⟨by show (j : Int) + 1 = ((j + 1 : Nat) : Int); omega, rfl⟩⟩⟩
set_option maxRecDepth 20000 in
set_option maxHeartbeats 2000000 in
theorem does_19_no (a : Int) (n j : Nat) (hj : j < 256) {ys : List Int} {z : Int} (hz0 : z ≠ 0) (hi : Ins3 fr i0 i1) (h : Rw w g fr i0 i1 (ys ++ [z]) ⟨cells, seed, (j : Int), -1, false⟩ sv) : DoesC w g n j fr i0 i1 cells seed (ys ++ [z]) (19, a) := by
  have hjj : (j : Int) < 256 := by omega
  have HD : Hid (doI fr i0 i1 n (19, a) ⟨cells, seed, ((ys ++ [z]) : List Int).reverse, j, none⟩ = some ⟨cells, seed, ys.reverse, j + 1, none⟩) := hid_into (by rw [List.reverse_append]; show some (Mp.mk cells seed ys.reverse (if z = 0 then a.toNat else j + 1) none) = _; rw [if_neg hz0])
  have hT : (1 : Int) ≤ (((ys ++ [z]) : List Int).length : Int) := by simp; omega
  have HI := hid_into hi
  have fr1 := hi.fr.1
  have fr2 := hi.fr.2
  have n1 := hi.i0.1
  have n2 := hi.i0.2
  have n3 := hi.i1.1
  have n4 := hi.i1.2
  clear hi
  have HX : Hid (Cw (w.alloc (.cells #[.int .i64 19, .int .i64 a] 66)) w.heap.size [.int .i64 19, .int .i64 a] 66) := Cw.new _ _ _
  have HA := hid_into (h.below ((Below.refl w.heap.size w).alloc (Nat.le_refl _) (.cells #[.int .i64 19, .int .i64 a] 66)))
  have HL := hid_into h.lt
  have c22 := HA.out.slice
  have c23 := HA.out.pc
  have c25 := HA.out.bad
  have f23 := HA.out.row.frozen 23
  have f25 := HA.out.row.frozen 25
  have hlz := h.len
  obtain ⟨ao, cp, hsv, hc1, hc2⟩ := h.st.form
  subst hsv
  simp only at c23 c25
  clear h hc1 hc2
  unfold DoesC
  go_enter Tryz.func61, Tryz.ntmps61
  go_wp2_with fail
  go_quiet ((go_at_call 81; refine Calls.quiet_of_same ((takes_19 _).mono fun _ _ h => ⟨h.1, h.2⟩)))
  have hs : Sm (w.alloc (.cells #[.int .i64 19, .int .i64 a] 66)) ((w.alloc (.cells #[.int .i64 19, .int .i64 a] 66)).drewN nq) := Sm.drewN _ _
  generalize (w.alloc (.cells #[.int .i64 19, .int .i64 a] 66)).drewN nq = W at hs ⊢
  have HR := hid_into (HA.out.sm hs)
  have HX2 := hid_into (hs.cw HX.out)
  have B0 : Hid (Below g w W) := hid_into (((Below.refl g w).alloc (by have := HL.out; omega) _).trans (hs.below g))
  clear c22 c23 c25 f23 f25 HA HX hs
  have c23 := HR.out.pc
  have f23 := HR.out.row.frozen 23
  simp only at c23
  have HP := hid_into (HR.out.setPc ((j : Int) + 1))
  have z0 : W.cell? ⟨w.heap.size, 0, none⟩ = some (.int .i64 19) := (HX2.out.cell 0).trans rfl
  have z1 : W.cell? ⟨w.heap.size, 1, none⟩ = some (.int .i64 a) := (HX2.out.cell 1).trans rfl
  have hxg : w.heap.size ≠ g := by have := HL.out; omega
  have BP : Hid (Below g w (W.setCell ⟨g, 23, none⟩ (.int .i64 ((j : Int) + 1)))) := hid_into (B0.out.trans ((Only.set _ _ _ _).below (Nat.le_refl _)))
  have HXP : Hid (Cw (W.setCell ⟨g, 23, none⟩ (.int .i64 ((j : Int) + 1))) w.heap.size [.int .i64 19, .int .i64 a] 66) := hid_into (two_blocks HX2.out hxg _ _)
  have HPw := hid_into HP.out
  have BPw := hid_into BP.out
  clear HR HX2 B0
  have hz0' : (z == 0) = false := by simp [hz0]
  go_wp2_with (go_at_call 83; refine (rpop_some ys z HPw.out).mono ?_; rintro e W2 ⟨rfl, svW2, hRW2, hOW2⟩; have y1 : W2.cell? ⟨w.heap.size, 1, none⟩ = some (.int .i64 a) := (World.cell?_of_block (w := (W.setCell ⟨g, 23, none⟩ (.int .i64 ((j : Int) + 1)))) (a := ⟨w.heap.size, 1, none⟩) (hOW2.block _ hxg)).trans ((HXP.out.cell 1).trans rfl); have b25 := hRW2.bad; have p23 := hRW2.pc; simp only at b25 p23; have pf := hRW2.row.frozen 23; have H3 := hid_into (hRW2.setPc a); have q23 := H3.out.pc; have q25 := H3.out.bad; simp only at q23 q25; have HW2 := hid_into hRW2; clear hRW2)
  go_ret
  exact ⟨_, _, _, _, rfl, HW2.out, BPw.out.trans (hOW2.below (Nat.le_refl _)), Or.inl ⟨_, HD.out, rfl, rfl, rfl, by simp, rfl, decide_eq_decide.2 (by show (j : Int) + 1 < (n : Int) ↔ j + 1 < n; omega), fun _ => ⟨by show (j : Int) + 1 = ((j + 1 : Nat) : Int); omega, rfl⟩⟩⟩
set_option maxRecDepth 20000 in
set_option maxHeartbeats 2000000 in
theorem does_21_full (a : Int) (n j : Nat) (hj : j < 256) (hl : zs.length = 32) (hi : Ins3 fr i0 i1) (h : Rw w g fr i0 i1 zs ⟨cells, seed, (j : Int), -1, false⟩ sv) : DoesC w g n j fr i0 i1 cells seed zs (21, a) := by
  have hjj : (j : Int) < 256 := by omega
  have HD : Hid (doI fr i0 i1 n (21, a) ⟨cells, seed, (zs : List Int).reverse, j, none⟩ = none) := hid_into (by show (if (zs.reverse).length < 32 then _ else _) = _; rw [if_neg (by simp; omega)])
  have hT : (0 : Int) ≤ ((zs : List Int).length : Int) := by omega
  have HI := hid_into hi
  have fr1 := hi.fr.1
  have fr2 := hi.fr.2
  have n1 := hi.i0.1
  have n2 := hi.i0.2
  have n3 := hi.i1.1
  have n4 := hi.i1.2
  clear hi
  have HX : Hid (Cw (w.alloc (.cells #[.int .i64 21, .int .i64 a] 66)) w.heap.size [.int .i64 21, .int .i64 a] 66) := Cw.new _ _ _
  have HA := hid_into (h.below ((Below.refl w.heap.size w).alloc (Nat.le_refl _) (.cells #[.int .i64 21, .int .i64 a] 66)))
  have HL := hid_into h.lt
  have c22 := HA.out.slice
  have c23 := HA.out.pc
  have c25 := HA.out.bad
  have f23 := HA.out.row.frozen 23
  have f25 := HA.out.row.frozen 25
  have hlz := h.len
  obtain ⟨ao, cp, hsv, hc1, hc2⟩ := h.st.form
  subst hsv
  simp only at c23 c25
  clear h hc1 hc2
  unfold DoesC
  go_enter Tryz.func61, Tryz.ntmps61
  go_wp2_with fail
  go_quiet ((go_at_call 81; refine Calls.quiet_of_same ((takes_21 _).mono fun _ _ h => ⟨h.1, h.2⟩)))
  have hs : Sm (w.alloc (.cells #[.int .i64 21, .int .i64 a] 66)) ((w.alloc (.cells #[.int .i64 21, .int .i64 a] 66)).drewN nq) := Sm.drewN _ _
  generalize (w.alloc (.cells #[.int .i64 21, .int .i64 a] 66)).drewN nq = W at hs ⊢
  have HR := hid_into (HA.out.sm hs)
  have HX2 := hid_into (hs.cw HX.out)
  have B0 : Hid (Below g w W) := hid_into (((Below.refl g w).alloc (by have := HL.out; omega) _).trans (hs.below g))
  clear c22 c23 c25 f23 f25 HA HX hs
  have c23 := HR.out.pc
  have f23 := HR.out.row.frozen 23
  simp only at c23
  have HP := hid_into (HR.out.setPc ((j : Int) + 1))
  have z0 : W.cell? ⟨w.heap.size, 0, none⟩ = some (.int .i64 21) := (HX2.out.cell 0).trans rfl
  have z1 : W.cell? ⟨w.heap.size, 1, none⟩ = some (.int .i64 a) := (HX2.out.cell 1).trans rfl
  have hxg : w.heap.size ≠ g := by have := HL.out; omega
  have BP : Hid (Below g w (W.setCell ⟨g, 23, none⟩ (.int .i64 ((j : Int) + 1)))) := hid_into (B0.out.trans ((Only.set _ _ _ _).below (Nat.le_refl _)))
  have HXP : Hid (Cw (W.setCell ⟨g, 23, none⟩ (.int .i64 ((j : Int) + 1))) w.heap.size [.int .i64 21, .int .i64 a] 66) := hid_into (two_blocks HX2.out hxg _ _)
  have HPw := hid_into HP.out
  have BPw := hid_into BP.out
  have hsd := HP.out.wf.seed
  simp only at hsd
  have hrn := rndI_in hsd
  have hsd0 := hsd.1
  have hsd1 := hsd.2
  have p0 := HP.out.seed
  have pf := HP.out.row.frozen 17
  simp only at p0
  have HS := hid_into (HP.out.setSeed (rndI seed) hrn)
  have HW : wrap32 (bits .and .u32 (rndI seed) 65535) = rndI seed % 65536 := by rw [and16 _ hrn]; unfold wrap32; omega
  have HC := rpush_full (rndI seed % 65536) HS.out hl
  have HZs : Hid (zs ++ [rndI seed % 65536] = ((rndI seed % 65536) :: zs.reverse).reverse) := by show _ = _; simp
  rw [← HW] at HC
  have HC' := hid_into HC
  have HW' := hid_into HW
  clear HC HW hrn hsd
  clear HR HX2 B0
  go_wp2_with (go_at_call 82; refine HC'.out.mono ?_; rintro e W2 ⟨rfl, hR2, hB2⟩; have b25 := hR2.bad; have p23 := hR2.pc; simp only at b25 p23)
  go_ret
  exact ⟨_, _, _, _, rfl, hR2, BPw.out.trans (((Only.set _ _ _ _).below (Nat.le_refl _)).trans hB2), Or.inr ⟨HD.out, rfl, rfl⟩⟩
set_option maxRecDepth 20000 in
set_option maxHeartbeats 1000000 in
theorem does_6_few (a : Int) (n j : Nat) (hf : zs.length < 2) (h : Rw w g fr i0 i1 zs ⟨cells, seed, (j : Int), -1, false⟩ sv) : DoesC w g n j fr i0 i1 cells seed zs (6, a) := by
  have hd : doI fr i0 i1 n (6, a) ⟨cells, seed, zs.reverse, j, none⟩ = none := by
    match zs, hf with
    | [], _ => rfl
    | [z], _ => rfl
  have HD := hid_into hd
  have hf' : (zs.length : Int) < 2 := by omega
  clear hd
  have HX : Hid (Cw (w.alloc (.cells #[.int .i64 6, .int .i64 a] 66)) w.heap.size [.int .i64 6, .int .i64 a] 66) := Cw.new _ _ _
  have HA := hid_into (h.below ((Below.refl w.heap.size w).alloc (Nat.le_refl _) (.cells #[.int .i64 6, .int .i64 a] 66)))
  have HL := hid_into h.lt
  have c22 := HA.out.slice
  have c23 := HA.out.pc
  have c25 := HA.out.bad
  have f23 := HA.out.row.frozen 23
  have f25 := HA.out.row.frozen 25
  have hlz := h.len
  obtain ⟨ao, cp, hsv, hc1, hc2⟩ := h.st.form
  subst hsv
  simp only at c23 c25
  clear h hc1 hc2
  unfold DoesC
  go_enter Tryz.func61, Tryz.ntmps61
  go_wp2_with fail
  go_quiet ((go_at_call 81; refine Calls.quiet_of_same ((takes_6 _).mono fun _ _ h => ⟨h.1, h.2⟩)))
  go_wp2_with fail
  go_ret
  refine ⟨false, zs, _, _, rfl, (HA.out.setBad true).sm ⟨rfl, rfl, rfl, rfl⟩, ?_, Or.inr ⟨HD.out, rfl, rfl⟩⟩
  exact (((Below.refl g w).alloc (by have := HL.out; omega) _).trans ((Only.set g 25 _ (.bool true)).below (Nat.le_refl _))).trans ((Sm.drewN _ _).below _)
set_option maxRecDepth 20000 in
set_option maxHeartbeats 1000000 in
theorem does_10_few (a : Int) (n j : Nat) (hf : zs.length < 2) (h : Rw w g fr i0 i1 zs ⟨cells, seed, (j : Int), -1, false⟩ sv) : DoesC w g n j fr i0 i1 cells seed zs (10, a) := by
  have hd : doI fr i0 i1 n (10, a) ⟨cells, seed, zs.reverse, j, none⟩ = none := by
    match zs, hf with
    | [], _ => rfl
    | [z], _ => rfl
  have HD := hid_into hd
  have hf' : (zs.length : Int) < 2 := by omega
  clear hd
  have HX : Hid (Cw (w.alloc (.cells #[.int .i64 10, .int .i64 a] 66)) w.heap.size [.int .i64 10, .int .i64 a] 66) := Cw.new _ _ _
  have HA := hid_into (h.below ((Below.refl w.heap.size w).alloc (Nat.le_refl _) (.cells #[.int .i64 10, .int .i64 a] 66)))
  have HL := hid_into h.lt
  have c22 := HA.out.slice
  have c23 := HA.out.pc
  have c25 := HA.out.bad
  have f23 := HA.out.row.frozen 23
  have f25 := HA.out.row.frozen 25
  have hlz := h.len
  obtain ⟨ao, cp, hsv, hc1, hc2⟩ := h.st.form
  subst hsv
  simp only at c23 c25
  clear h hc1 hc2
  unfold DoesC
  go_enter Tryz.func61, Tryz.ntmps61
  go_wp2_with fail
  go_quiet ((go_at_call 81; refine Calls.quiet_of_same ((takes_10 _).mono fun _ _ h => ⟨h.1, h.2⟩)))
  go_wp2_with fail
  go_ret
  refine ⟨false, zs, _, _, rfl, (HA.out.setBad true).sm ⟨rfl, rfl, rfl, rfl⟩, ?_, Or.inr ⟨HD.out, rfl, rfl⟩⟩
  exact (((Below.refl g w).alloc (by have := HL.out; omega) _).trans ((Only.set g 25 _ (.bool true)).below (Nat.le_refl _))).trans ((Sm.drewN _ _).below _)
set_option maxRecDepth 20000 in
set_option maxHeartbeats 1000000 in
theorem does_14_few (a : Int) (n j : Nat) (hf : zs.length < 2) (h : Rw w g fr i0 i1 zs ⟨cells, seed, (j : Int), -1, false⟩ sv) : DoesC w g n j fr i0 i1 cells seed zs (14, a) := by
  have hd : doI fr i0 i1 n (14, a) ⟨cells, seed, zs.reverse, j, none⟩ = none := by
    match zs, hf with
    | [], _ => rfl
    | [z], _ => rfl
  have HD := hid_into hd
  have hf' : (zs.length : Int) < 2 := by omega
  clear hd
  have HX : Hid (Cw (w.alloc (.cells #[.int .i64 14, .int .i64 a] 66)) w.heap.size [.int .i64 14, .int .i64 a] 66) := Cw.new _ _ _
  have HA := hid_into (h.below ((Below.refl w.heap.size w).alloc (Nat.le_refl _) (.cells #[.int .i64 14, .int .i64 a] 66)))
  have HL := hid_into h.lt
  have c22 := HA.out.slice
  have c23 := HA.out.pc
  have c25 := HA.out.bad
  have f23 := HA.out.row.frozen 23
  have f25 := HA.out.row.frozen 25
  have hlz := h.len
  obtain ⟨ao, cp, hsv, hc1, hc2⟩ := h.st.form
  subst hsv
  simp only at c23 c25
  clear h hc1 hc2
  unfold DoesC
  go_enter Tryz.func61, Tryz.ntmps61
  go_wp2_with fail
  go_quiet ((go_at_call 81; refine Calls.quiet_of_same ((takes_14 _).mono fun _ _ h => ⟨h.1, h.2⟩)))
  go_wp2_with fail
  go_ret
  refine ⟨false, zs, _, _, rfl, (HA.out.setBad true).sm ⟨rfl, rfl, rfl, rfl⟩, ?_, Or.inr ⟨HD.out, rfl, rfl⟩⟩
  exact (((Below.refl g w).alloc (by have := HL.out; omega) _).trans ((Only.set g 25 _ (.bool true)).below (Nat.le_refl _))).trans ((Sm.drewN _ _).below _)
end Go.Proofs.YtbfldcieibdapabGreat
end
