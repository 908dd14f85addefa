/-
  FrameSees, walked: for all bytes, whatever stands behind, every place and every byte it answers true, and writes nothing that was there.
-/
import Derived.Test.YteinhklopnlgbaaDoorRowsK
import Derived.Test.YteinhklopnlgbaaDoorFrameEb
namespace Go.Proofs.YteinhklopnlgbaaDoor
open Go.RowKit

theorem xor_byte (a b : Int) (ha0 : 0 ≤ a) (ha : a < 256) (hb0 : 0 ≤ b) (hb : b < 256) (hb1 : b ≠ 0) : ∃ x : Int, bits .xor .u8 a b = x ∧ 0 ≤ x ∧ x < 256 ∧ x ≠ a := by
  obtain ⟨A, rfl⟩ := Int.eq_ofNat_of_zero_le ha0
  obtain ⟨B, rfl⟩ := Int.eq_ofNat_of_zero_le hb0
  have e : bits .xor .u8 (A : Int) (B : Int) = ((A ^^^ B : Nat) : Int) := u8_xor_nat A B (by omega) (by omega)
  have hlt : A ^^^ B < 256 := Nat.xor_lt_two_pow (n := 8) (by omega) (by omega)
  refine ⟨_, e, by omega, by omega, fun h => ?_⟩
  have h' : A ^^^ B = A := by omega
  have : B = 0 := by
    have h2 : A ^^^ B = A ^^^ 0 := by rw [h', Nat.xor_zero]
    exact xor_cancel_left h2
  omega

set_option maxHeartbeats 6400000 in
set_option maxRecDepth 20000 in
theorem sees_walk (vp vm : Value) (ps ms : List Int) (pl x : Int) (w : World) (hp : Bs w vp ps) (hm : Bs w vm ms) (yp : Byt ps) (ym : Byt ms) (lp : ps.length ≤ 140737488355328) (lm : ms.length ≤ 140737488355328) (hx : 0 ≤ x ∧ x < 256) (ht : Tab w) :
    Calls Tryd.prog 5 #[vp, vm, .int .i64 pl, .int .u8 x] w fun e w' => e = .returned (.bool true) ∧ Below w.heap.size w w' := by
  have htl := ht.lt
  obtain ⟨ap, cp, hvp, mp⟩ := hp.len
  obtain ⟨am, cm, hvm, mm⟩ := hm.len
  subst hvp; subst hvm
  by_cases hbig : 4000 < ps.length + ms.length
  · have hbig' : (4000 : Int) < (ps.length : Int) + (ms.length : Int) := by omega
    clear hp hm
    go_enter Tryd.func5, Tryd.ntmps5
    go_wp2
    go_ret
    exact ⟨rfl, Below.refl _ _⟩
  have hsm : (ps.length : Int) + (ms.length : Int) ≤ 4000 := by omega
  have hl : ps.length ≤ 65536 := by omega
  by_cases hx0 : x = 0
  · subst hx0
    clear hp hm
    go_enter Tryd.func5, Tryd.ntmps5
    go_wp2
    go_ret
    exact ⟨rfl, Below.refl _ _⟩
  obtain ⟨A, hA, hA30⟩ := and30 pl
  have C1 := enc_any2 _ ps w hp yp hl ht
  have yR := recN_byt yp
  have lR : Hid ((recN ps).length ≤ 5000) := by show _ ≤ _; rw [recN_len]; omega
  have lR0 : 0 < (recN ps).length := by rw [recN_len]; omega
  have lR1 : (recN ps).length ≤ 5000 := lR.out
  obtain ⟨i, qi⟩ : ∃ i : Nat, i = A % (recN ps).length := ⟨_, rfl⟩
  have hi : i < (recN ps).length := by rw [qi]; exact Nat.mod_lt _ lR0
  have hb := yR _ (getD_mem (recN ps) i hi)
  obtain ⟨y, hy1, hy0, hy2, hy3⟩ := xor_byte ((recN ps).getD i 0) x hb.1 hb.2 hx.1 hx.2 hx0
  have dE := dec_other ps ms yp hl i y hi ⟨hy0, hy2⟩ hy3
  have hmod : ((A : Int) % ((recN ps).length : Int)) = (i : Int) := by rw [qi]; simp
  have yS : Byt ((recN ps).set i y) := yR.set i ⟨hy0, hy2⟩
  have lS : Hid (((recN ps).set i y).length = (recN ps).length) := by show _ = _; simp
  have hR0 : (((recN ps).length : Int) == 0) = false := by rw [beq_eq_false_iff_ne]; omega
  have hRn : Hid (recN ps ≠ []) := fun e => by rw [e] at lR0; simp at lR0
  have hx0' : (x == 0) = false := by simpa using hx0
  clear qi hb
  generalize recN ps = R at *
  go_enter Tryd.func5, Tryd.ntmps5
  go_wp2_with fail
  refine C1.mono ?_
  rintro e w1 ⟨ao1, cap1, rfl, ho1, B1⟩
  have B1a : Below w.heap.size w (w1.alloc (.cells #[] 5)) := B1.alloc B1.size _
  have ho2 : Ow (w1.alloc (.cells #[] 5)) w.heap.size (.slice (some ⟨w1.heap.size, 0, none⟩) 0 0) [] := Ow_of_block (heap_alloc_new w1 _) (by simp) B1.size
  have hb2 : Bs (w1.alloc (.cells #[] 5)) (.slice ao1 R.length cap1) R := ho1.bs.below ((Below.refl _ _).alloc (Nat.le_refl _) _) (Nat.le_refl _)
  clear C1
  go_wp2_with (at_builtin; refine wpList_append_bs _ rfl (.tmp 36) (.tmp 37) rfl w.heap.size _ [] rfl ho2 _ R rfl hb2 (by have := lR.out; simp; omega) B1a.size ?_)
  intro ao3 cap3 w3 ho3 hg3 hat3
  have B3 : Below w.heap.size w w3 := B1a.trans (grown_below hg3 B1a.size ho2.from)
  have ho3' : Ow w3 w.heap.size (.slice ao3 R.length cap3) R := by simpa using ho3
  clear ho2 hb2 hg3 hat3 B1a ho3 ho1
  obtain ⟨g, rfl, hg0, hglt, -, hgc, hgm⟩ := ho3'.grow_form hRn.out
  unfold maxLen at hgm
  have hci := ho3'.cell i hi
  have hfi := ho3'.frozen i
  have ho4 := ho3'.set i y
  have B4 : Below w.heap.size w (w3.setCell ⟨g, i, none⟩ (.int .u8 y)) := B3.trans ⟨rfl, rfl, rfl, by simp [World.setCell], fun k hk => Below.heap_setCell _ _ _ _ (by simp; omega)⟩
  have hm4 := hm.below B4 (Nat.le_refl _)
  generalize R.getD i 0 = r0 at *
  have f1 : (i : Int) < (R.length : Int) := by omega
  have f0 : (0 : Int) ≤ (i : Int) := by omega
  have ho4' : Ow (w3.setCell ⟨g, i, none⟩ (.int .u8 y)) w.heap.size (.slice (some ⟨g, 0, none⟩) R.length cap3) (R.set i y) := ho4
  clear ho3' ho4 hm
  generalize R.set i y = S at *
  go_wp2_with (at_builtin; refine wpList_append_bs _ rfl (.tmp 51) (.tmp 52) rfl w.heap.size (.slice (some ⟨g, 0, none⟩) R.length cap3) S (by rfl) ho4' _ ms rfl hm4 (by rw [lS.out]; omega) B4.size ?_)
  intro ao5 cap5 w5 ho5 hg5 hat5
  have B5 : Below w.heap.size w w5 := B4.trans (grown_below hg5 B4.size ho4'.from)
  rw [← List.length_append] at ho5
  rw [← List.length_append]
  have lT : Hid ((S ++ ms).length ≤ 9000) := by show _ ≤ _; rw [List.length_append, lS.out]; omega
  have C5 := dec_any _ _ w5 ho5.bs (yS.app ym) (by have := lT.out; omega) (ht.below B5 htl)
  rw [decP_bad dE, decN_bad dE] at C5
  generalize decE (S ++ ms) = er at *
  have hEr : (er != 0) = true := by simpa using dE
  clear ho4' hm4 hg5 hat5 B4 hci hfi
  generalize S ++ ms = U at *
  go_wp2_with fail
  refine C5.mono ?_
  rintro e w6 ⟨ao6, cap6, rfl, ho6, hB6⟩
  have B6 : Below w.heap.size w w6 := B5.trans (hB6.mono B5.size)
  have C7 := known_any w6 (ht.below B6 htl)
  clear C5 ho6
  go_wp2_with fail
  refine C7.mono ?_
  rintro e w7 ⟨rfl, hB7⟩
  go_wp2
  go_ret
  exact ⟨rfl, B6.trans (hB7.mono B6.size)⟩
end Go.Proofs.YteinhklopnlgbaaDoor
