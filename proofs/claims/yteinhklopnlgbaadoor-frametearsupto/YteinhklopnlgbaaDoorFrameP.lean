/-
  frame's own functions, by contract: four, vouched, heldBytes, Decode.
-/
import Derived.Test.YteinhklopnlgbaaDoorSpec
import Derived.Test.YteinhklopnlgbaaDoorSlices
import Derived.Deep.RegionHeld3
import Derived.OwnWalk
namespace Go.Proofs.YteinhklopnlgbaaDoor
open Go.RowKit

theorem rowR_four {zs : List Int} (h : 4 ≤ zs.length) : (rowR [0, 0, 0, 0] zs 0).1 = zs.take 4 := by
  rw [rowR_yes (by simpa using h)]; rfl

set_option maxHeartbeats 800000 in
theorem four_any (sv : Value) (zs : List Int) (w : World) (hb : Bs w sv zs) (hy : Byt zs) (hl : 4 ≤ zs.length) (hz : zs.length ≤ 100000000000000) :
    Calls Tryd.prog 34 #[sv] w fun e w' => e = .returned (.int .u32 (fourV (zs.take 4))) ∧ Below w.heap.size w w' := by
  have HR : Hid ((rowR [0, 0, 0, 0] zs 0).1 = zs.take 4) := rowR_four hl
  go_enter Tryd.func34, Tryd.ntmps34
  go_wp2_with fail
  refine (newReader_any sv zs _ hb hz).mono ?_
  rintro e w1 ⟨b, v, rfl, hr, hbel, hbs, hvs⟩
  have hv : ∀ k, v.ownBlock = some k → k < w1.heap.size := hr.2.1.lt (fun e => by rw [e] at hl; simp at hl)
  go_wp2_with fail
  refine (rfour_any b v zs 0 _ hr hy hv).mono ?_
  rintro e w2 ⟨rfl, hleft⟩
  have hB : Below w.heap.size w w2 := by
    obtain ⟨v', _, hst, _⟩ := hleft
    exact hbel.trans (hst.below hbs (by have := hr.lt; omega))
  clear hleft
  rw [HR.out]
  go_wp2
  go_ret
  exact ⟨rfl, hB⟩

/-- Whether the sum that is told is the bytes' own. -/
def vouchB (xa xb : List Int) : Bool := ((sumOf xa : Nat) : Int) == fourV (xb.take 4)

set_option maxHeartbeats 800000 in
theorem vouched_any (va vb : Value) (xa xb : List Int) (w : World) (ha : Bs w va xa) (hb : Bs w vb xb) (hya : Byt xa) (hyb : Byt xb) (hl : 4 ≤ xb.length) (hz : xb.length ≤ 100000000000000) (ht : Tab w) :
    Calls Tryd.prog 29 #[va, vb] w fun e w' => e = .returned (.bool (vouchB xa xb)) ∧ Below w.heap.size w w' := by
  go_enter Tryd.func29, Tryd.ntmps29
  go_wp2_with fail
  refine (sum_any va xa _ ha hya ht).mono ?_
  rintro e w1 ⟨rfl, rfl⟩
  go_wp2_with fail
  refine (four_any vb xb _ hb hyb hl hz).mono ?_
  rintro e w2 ⟨rfl, hB⟩
  go_wp2
  go_ret
  exact ⟨rfl, hB⟩

/-- How many bytes the head tells, where it is right. -/
def heldV (zs : List Int) : Nat := if headE zs = 0 then heldN zs else 0

set_option maxHeartbeats 1600000 in
theorem held_any (sv : Value) (zs : List Int) (w : World) (hb : Bs w sv zs) (hy : Byt zs) (hz : zs.length ≤ 100000000000000) (ht : Tab w) :
    Calls Tryd.prog 28 #[sv] w fun e w' => e = .returned (.tuple #[.int .i64 (heldV zs), .int .i64 (headE zs)]) ∧ Below w.heap.size w w' := by
  by_cases h8 : zs.length < 8
  · have e1 : headE zs = 2 := headE_short h8
    have e2 : heldV zs = 0 := by unfold heldV; rw [e1]; rfl
    rw [e1, e2]
    obtain ⟨ao, cap, hsv, hm⟩ := hb.len
    subst hsv
    go_enter Tryd.func28, Tryd.ntmps28
    go_wp2
    go_ret2
    exact ⟨rfl, Below.refl _ _⟩
  rcases hb with ⟨h0, _⟩ | ⟨hne, b, off, cap, rfl, hc1, hc2, hcell⟩
  · rw [h0] at h8; exact absurd (by decide) h8
  have hb : Bs w (.slice (some ⟨b, off, none⟩) zs.length cap) zs := Or.inr ⟨hne, b, off, cap, rfl, hc1, hc2, hcell⟩
  clear hcell
  have hf : Bs w (.slice (some ⟨b, off, none⟩) 4 cap) (zs.take 4) := hb.front 4 (by omega)
  have hg : Bs w (.slice (some ⟨b, off + 4, none⟩) 4 (cap - 4)) ((zs.drop 4).take 4) := (hb.suffix 4 (by omega) hne).front 4 (by simp; omega)
  have yf := hy.take 4
  have yg := (hy.drop 4).take 4
  have lf : (zs.take 4).length = 4 := by simp; omega
  have lg : ((zs.drop 4).take 4).length = 4 := by simp; omega
  have tg : ((zs.drop 4).take 4).take 4 = (zs.drop 4).take 4 := List.take_of_length_le (by omega)
  have tf : (zs.take 4).take 4 = zs.take 4 := List.take_of_length_le (by omega)
  have C1 := vouched_any _ _ _ _ w hf hg yf yg (by omega) (by omega) ht
  have HV : Hid (vouchB (zs.take 4) ((zs.drop 4).take 4) = decide (((sumOf (zs.take 4) : Nat) : Int) = fourV ((zs.drop 4).take 4))) := by
    show _ = _
    unfold vouchB; rw [tg]; rfl
  unfold maxLen at hc2
  have hr := fourV_range (zs.take 4) yf
  by_cases hv : ((sumOf (zs.take 4) : Nat) : Int) = fourV ((zs.drop 4).take 4)
  · have hv1 : vouchB (zs.take 4) ((zs.drop 4).take 4) = true := by rw [HV.out]; exact decide_eq_true hv
    rw [hv1] at C1
    have HF : ∀ w1 : World, Below w.heap.size w w1 → Bs w1 (.slice (some ⟨b, off, none⟩) 4 cap) (zs.take 4) := fun w1 h => hf.below h (Nat.le_refl _)
    have hx : ∃ x : Nat, fourV (zs.take 4) = (x : Int) ∧ x < 4294967296 := ⟨(fourV (zs.take 4)).toNat, by omega, by omega⟩
    obtain ⟨x, hx1, hx2⟩ := hx
    have hxn : heldN zs = x := by unfold heldN; rw [hx1]; exact Int.toNat_natCast x
    by_cases h3 : 65536 < x
    · have e1 : headE zs = 5 := headE_long h8 hv (by omega)
      have e2 : heldV zs = 0 := by unfold heldV; rw [e1]; rfl
      rw [e1, e2]
      have HX : Hid (fourV ((zs.take 4).take 4) = (x : Int)) := by show _ = _; rw [tf]; exact hx1
      clear hv hv1 HV hr tg lg yg hf hg e1 e2 hxn tf hx1
      go_enter Tryd.func28, Tryd.ntmps28
      go_wp2_with fail
      refine C1.mono ?_
      rintro e w1 ⟨rfl, hB⟩
      go_wp2_with fail
      refine (four_any _ _ w1 (HF w1 hB) yf (by omega) (by omega)).mono ?_
      rintro e w2 ⟨rfl, hB2⟩
      rw [HX.out]
      go_wp2
      go_ret2
      exact ⟨rfl, hB.trans (hB2.mono hB.size)⟩
    · have e1 : headE zs = 0 := headE_good h8 hv (by omega)
      have e2 : heldV zs = x := by unfold heldV; rw [e1, hxn]; rfl
      rw [e1, e2]
      have HX : Hid (fourV ((zs.take 4).take 4) = (x : Int)) := by show _ = _; rw [tf]; exact hx1
      clear hv hv1 HV hr tg lg yg hf hg e1 e2 hxn tf hx1
      go_enter Tryd.func28, Tryd.ntmps28
      go_wp2_with fail
      refine C1.mono ?_
      rintro e w1 ⟨rfl, hB⟩
      go_wp2_with fail
      refine (four_any _ _ w1 (HF w1 hB) yf (by omega) (by omega)).mono ?_
      rintro e w2 ⟨rfl, hB2⟩
      rw [HX.out]
      go_wp2
      go_ret2
      exact ⟨rfl, hB.trans (hB2.mono hB.size)⟩
  · have e1 : headE zs = 4 := headE_sum h8 hv
    have e2 : heldV zs = 0 := by unfold heldV; rw [e1]; rfl
    have hv1 : vouchB (zs.take 4) ((zs.drop 4).take 4) = false := by rw [HV.out]; exact decide_eq_false hv
    rw [e1, e2]
    rw [hv1] at C1
    clear hv hv1 HV hr tf tg lf lg yf yg hf hg e1 e2
    go_enter Tryd.func28, Tryd.ntmps28
    go_wp2_with fail
    refine C1.mono ?_
    rintro e w1 ⟨rfl, hB⟩
    go_wp2
    go_ret2
    exact ⟨rfl, hB⟩

set_option maxHeartbeats 3200000 in
set_option maxRecDepth 20000 in
theorem dec_any (sv : Value) (zs : List Int) (w : World) (hb : Bs w sv zs) (hy : Byt zs) (hz : zs.length ≤ 100000000000000) (ht : Tab w) :
    Calls Tryd.prog 13 #[sv] w fun e w' => ∃ ao cap, e = .returned (.tuple #[.slice ao (decP zs).length cap, .int .i64 (decN zs), .int .i64 (decE zs)]) ∧ Ow w' w.heap.size (.slice ao (decP zs).length cap) (decP zs) ∧ Below w.heap.size w w' := by
  have C1 := held_any sv zs w hb hy hz ht
  obtain ⟨ao, cap, hsv, hm⟩ := hb.len
  subst hsv
  have nilO : ∀ w' : World, Ow w' w.heap.size (.slice none ([] : List Int).length 0) [] := fun w' => World.ownsRow_nil _ _ _ _
  by_cases hh : headE zs = 0
  · have hv0 : heldV zs = heldN zs := if_pos hh
    have hn := heldN_le hh
    have h8 := (headE_inv hh).1
    rw [hh, hv0] at C1
    by_cases h12 : zs.length < 12 + heldN zs
    · have e1 : decE zs = 2 := decE_short hh h12
      have e2 : decP zs = [] := decP_bad (by rw [e1]; decide)
      have e3 : decN zs = 0 := decN_bad (by rw [e1]; decide)
      rw [e1, e2, e3]
      generalize heldN zs = n at *
      clear e1 e2 e3 hh
      go_enter Tryd.func13, Tryd.ntmps13
      go_wp2_with fail
      refine C1.mono ?_
      rintro e w1 ⟨rfl, hB⟩
      go_wp2
      go_ret3
      exact ⟨_, _, rfl, nilO _, hB⟩
    · rcases hb with ⟨h0, _⟩ | ⟨hne, b, off, cap2, hsv2, hc1, hc2, hcell⟩
      · rw [h0] at h8; exact absurd h8 (by decide)
      simp only [Value.slice.injEq] at hsv2
      obtain ⟨rfl, _, rfl⟩ := hsv2
      have hb : Bs w (.slice (some ⟨b, off, none⟩) zs.length cap) zs := Or.inr ⟨hne, b, off, cap, rfl, hc1, hc2, hcell⟩
      clear hcell
      have hf : Bs w (.slice (some ⟨b, off, none⟩) (8 + heldN zs) cap) (zs.take (8 + heldN zs)) := hb.front _ (by omega)
      have hg : Bs w (.slice (some ⟨b, off + (8 + heldN zs), none⟩) 4 (cap - (8 + heldN zs))) ((zs.drop (8 + heldN zs)).take 4) := (hb.suffix _ (by omega) hne).front 4 (by simp; omega)
      have hk : Bs w (.slice (some ⟨b, off + 8, none⟩) (heldN zs) (cap - 8)) ((zs.drop 8).take (heldN zs)) := (hb.suffix 8 (by omega) hne).front _ (by simp; omega)
      have yf := hy.take (8 + heldN zs)
      have yg := (hy.drop (8 + heldN zs)).take 4
      have lg : ((zs.drop (8 + heldN zs)).take 4).length = 4 := by simp; omega
      have lk : ((zs.drop 8).take (heldN zs)).length = heldN zs := by simp; omega
      have tg : ((zs.drop (8 + heldN zs)).take 4).take 4 = (zs.drop (8 + heldN zs)).take 4 := List.take_of_length_le (by omega)
      have C2 : ∀ w1 : World, Below w.heap.size w w1 → Calls Tryd.prog 29 #[.slice (some ⟨b, off, none⟩) (8 + heldN zs) cap, .slice (some ⟨b, off + (8 + heldN zs), none⟩) 4 (cap - (8 + heldN zs))] w1 fun e w' => e = .returned (.bool (vouchB (zs.take (8 + heldN zs)) ((zs.drop (8 + heldN zs)).take 4))) ∧ Below w1.heap.size w1 w' :=
        fun w1 h1 => vouched_any _ _ _ _ w1 (hf.below h1 (Nat.le_refl _)) (hg.below h1 (Nat.le_refl _)) yf yg (by omega) (by omega) (ht.below h1 ht.lt)
      unfold maxLen at hc2
      by_cases hv : ((sumOf (zs.take (8 + heldN zs)) : Nat) : Int) = fourV ((zs.drop (8 + heldN zs)).take 4)
      · have hv1 : vouchB (zs.take (8 + heldN zs)) ((zs.drop (8 + heldN zs)).take 4) = true := by unfold vouchB; rw [tg]; simpa using hv
        have e1 : decE zs = 0 := decE_good hh h12 hv
        have C3 : ∀ w1 : World, Below w.heap.size w w1 → Calls Tryd.prog 30 #[.slice (some ⟨b, off + 8, none⟩) (heldN zs) (cap - 8)] w1 fun e w' => ∃ ao cap, e = .returned (.slice ao ((zs.drop 8).take (heldN zs)).length cap) ∧ Ow w' w1.heap.size (.slice ao ((zs.drop 8).take (heldN zs)).length cap) ((zs.drop 8).take (heldN zs)) ∧ Below w1.heap.size w1 w' :=
          fun w1 h1 => clone_any _ _ w1 (hk.below h1 (Nat.le_refl _)) (by omega)
        rw [e1, decP_good e1, decN_good e1]
        rw [hv1] at C2
        generalize (zs.drop 8).take (heldN zs) = ps at *
        generalize heldN zs = n at *
        clear e1 hh hv hv1 tg lg yf yg hf hg hk hv0
        go_enter Tryd.func13, Tryd.ntmps13
        go_wp2_with fail
        refine C1.mono ?_
        rintro e w1 ⟨rfl, hB⟩
        go_wp2_with fail
        obtain ⟨m, qm⟩ : ∃ m : Nat, m = 8 + n := ⟨_, rfl⟩
        obtain ⟨m4, qm4⟩ : ∃ m4 : Nat, m4 = 12 + n := ⟨_, rfl⟩
        rw [show (8 : Int) + (n : Int) + 4 = (m4 : Int) by omega, show (8 : Int) + (n : Int) = (m : Int) by omega]
        have f1 : (0 : Int) ≤ (m : Int) := by omega
        have f2 : (m : Int) ≤ (cap : Int) := by omega
        have f3 : (0 : Int) ≤ (m4 : Int) := by omega
        have f4 : (m4 : Int) ≤ (cap : Int) := by omega
        have f5 : (m : Int) ≤ (m4 : Int) := by omega
        have f6 : ¬ cap = m := by omega
        have f7 : m ≤ m4 := by omega
        have f8 : m4 - m = 4 := by omega
        have D2 : Calls Tryd.prog 29 #[.slice (some ⟨b, off, none⟩) m cap, .slice (some ⟨b, off + m, none⟩) 4 (cap - m)] w1.drew fun e w' => e = .returned (.bool true) ∧ Below w1.heap.size w1 w' := by
          rw [qm]; exact (C2 w1.drew hB.drew).mono fun e w' ⟨h1, h2⟩ => ⟨h1, ⟨h2.os, h2.tape, h2.output, h2.size, h2.block⟩⟩
        have f9 : ¬ cap = 8 := by omega
        have g1 : (8 : Int) ≤ (m : Int) := by omega
        have g2 : (8 : Int) ≤ (cap : Int) := by omega
        have D3 : ∀ w2 : World, Below w1.heap.size w1 w2 → Calls Tryd.prog 30 #[.slice (some ⟨b, off + 8, none⟩) (m - 8) (cap - 8)] w2 fun e w' => ∃ ao cap, e = .returned (.slice ao ps.length cap) ∧ Ow w' w2.heap.size (.slice ao ps.length cap) ps ∧ Below w2.heap.size w2 w' := by
          intro w2 h2; rw [show m - 8 = n by omega]; exact C3 w2 (hB.trans (h2.mono hB.size))
        have H2 : Hid ((m4 : Int) = ((12 + n : Nat) : Int)) := by show _ = _; omega
        clear qm qm4 C2 C3 h12 lk hn
        go_region_held3 (fun w' => True) (trivial)
          (first
            | (go_at_call 29; refine D2.mono ?_; rintro e w2 ⟨rfl, hB2⟩))
        have hB2' : Below w.heap.size w w2 := hB.trans (hB2.mono hB.size)
        go_wp2_with fail
        refine (D3 w2 hB2).mono ?_
        rintro e w3 ⟨ao3, cap3, rfl, ho3, hB3⟩
        go_wp2
        go_ret3
        exact ⟨ao3, cap3, by rw [← H2.out]; rfl, ho3.mono hB2'.size, hB2'.trans (hB3.mono hB2'.size)⟩
      · have hv1 : vouchB (zs.take (8 + heldN zs)) ((zs.drop (8 + heldN zs)).take 4) = false := by unfold vouchB; rw [tg]; simpa using hv
        have e1 : decE zs = 4 := decE_sum hh h12 hv
        rw [e1, decP_bad (by rw [e1]; decide), decN_bad (by rw [e1]; decide)]
        rw [hv1] at C2
        generalize heldN zs = n at *
        clear e1 hh hv hv1 tg lg yf yg hf hg hk hv0
        go_enter Tryd.func13, Tryd.ntmps13
        go_wp2_with fail
        refine C1.mono ?_
        rintro e w1 ⟨rfl, hB⟩
        go_wp2_with fail
        obtain ⟨m, qm⟩ : ∃ m : Nat, m = 8 + n := ⟨_, rfl⟩
        obtain ⟨m4, qm4⟩ : ∃ m4 : Nat, m4 = 12 + n := ⟨_, rfl⟩
        rw [show (8 : Int) + (n : Int) + 4 = (m4 : Int) by omega, show (8 : Int) + (n : Int) = (m : Int) by omega]
        have f1 : (0 : Int) ≤ (m : Int) := by omega
        have f2 : (m : Int) ≤ (cap : Int) := by omega
        have f3 : (0 : Int) ≤ (m4 : Int) := by omega
        have f4 : (m4 : Int) ≤ (cap : Int) := by omega
        have f5 : (m : Int) ≤ (m4 : Int) := by omega
        have f6 : ¬ cap = m := by omega
        have f7 : m ≤ m4 := by omega
        have f8 : m4 - m = 4 := by omega
        have D2 : Calls Tryd.prog 29 #[.slice (some ⟨b, off, none⟩) m cap, .slice (some ⟨b, off + m, none⟩) 4 (cap - m)] w1.drew fun e w' => e = .returned (.bool false) ∧ Below w1.heap.size w1 w' := by
          rw [qm]; exact (C2 w1.drew hB.drew).mono fun e w' ⟨h1, h2⟩ => ⟨h1, ⟨h2.os, h2.tape, h2.output, h2.size, h2.block⟩⟩
        clear qm qm4 C2 h12 lk hn
        go_region_held3 (fun w' => True) (trivial)
          (first
            | (go_at_call 29; refine D2.mono ?_; rintro e w2 ⟨rfl, hB2⟩))
        have hB2' : Below w.heap.size w w2 := hB.trans (hB2.mono hB.size)
        go_wp2
        go_ret3
        exact ⟨_, _, rfl, nilO _, hB2'⟩
  · have e1 : decE zs = headE zs := decE_head hh
    have e2 : decP zs = [] := decP_bad (by rw [e1]; exact hh)
    have e3 : decN zs = 0 := decN_bad (by rw [e1]; exact hh)
    have e4 : heldV zs = 0 := if_neg hh
    rw [e1, e2, e3]
    rw [e4] at C1
    generalize headE zs = er at *
    clear e1 e2 e3 e4
    go_enter Tryd.func13, Tryd.ntmps13
    go_wp2_with fail
    refine C1.mono ?_
    rintro e w1 ⟨rfl, hB⟩
    go_wp2
    go_ret3
    exact ⟨_, _, rfl, nilO _, hB⟩
end Go.Proofs.YteinhklopnlgbaaDoor
