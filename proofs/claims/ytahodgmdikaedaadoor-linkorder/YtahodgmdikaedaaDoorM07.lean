/-
  Joined from: FrameP, FrameE, RefReader, RefReaderB, FrameR.
-/
import Derived.Test.YtahodgmdikaedaaDoorM06
import Derived.Deep.RegionHeld3
import Derived.OwnWalk
import Derived.Deep.QuietTactic
import Derived.BigQuiet
section
/-
  frame's own functions, by contract: four, vouched, heldBytes, Decode.
-/
namespace Go.Proofs.YtahodgmdikaedaaDoor
open Go.RowKit

theorem rowR_four {zs : List Int} (h : 4 ≤ zs.length) : (rowR [0, 0, 0, 0] zs 0).1 = zs.take 4 := by
  rw [rowR_yes (by simpa using h)]; rfl

set_option maxHeartbeats 800000 in
theorem four_any (sv : Value) (zs : List Int) (w : World) (hb : Bs w sv zs) (hy : Byt zs) (hl : 4 ≤ zs.length) (hz : zs.length ≤ 100000000000000) :
    Calls Tryd.prog 70 #[sv] w fun e w' => e = .returned (.int .u32 (fourV (zs.take 4))) ∧ Below w.heap.size w w' := by
  have HR : Hid ((rowR [0, 0, 0, 0] zs 0).1 = zs.take 4) := rowR_four hl
  go_enter Tryd.func70, Tryd.ntmps70
  go_wp2_with fail
  refine (newReader_any sv zs _ hb hz).mono ?_
  rintro e w1 ⟨b, v, rfl, hr, hbel, hbs, hvs⟩
  have hv : ∀ k, v.ownBlock = some k → k < w1.heap.size := hr.2.1.lt (fun e => by rw [e] at hl; simp at hl)
  go_wp2_with fail
  refine (rfour_any b v zs 0 _ hr hy hv).mono ?_
  rintro e w2 ⟨rfl, hleft⟩
  have hB : Below w.heap.size w w2 := by
    obtain ⟨v', _, hst, _⟩ := hleft
    exact hbel.trans (hst.below hbs (by have := hr.lt; omega))
  clear hleft
  rw [HR.out]
  go_wp2
  go_ret
  exact ⟨rfl, hB⟩

/-- Whether the sum that is told is the bytes' own. -/
def vouchB (xa xb : List Int) : Bool := ((sumOf xa : Nat) : Int) == fourV (xb.take 4)

set_option maxHeartbeats 800000 in
theorem vouched_any (va vb : Value) (xa xb : List Int) (w : World) (ha : Bs w va xa) (hb : Bs w vb xb) (hya : Byt xa) (hyb : Byt xb) (hl : 4 ≤ xb.length) (hz : xb.length ≤ 100000000000000) (ht : Tab w) :
    Calls Tryd.prog 59 #[va, vb] w fun e w' => e = .returned (.bool (vouchB xa xb)) ∧ Below w.heap.size w w' := by
  go_enter Tryd.func59, Tryd.ntmps59
  go_wp2_with fail
  refine (sum_any va xa _ ha hya ht).mono ?_
  rintro e w1 ⟨rfl, rfl⟩
  go_wp2_with fail
  refine (four_any vb xb _ hb hyb hl hz).mono ?_
  rintro e w2 ⟨rfl, hB⟩
  go_wp2
  go_ret
  exact ⟨rfl, hB⟩

/-- How many bytes the head tells, where it is right. -/
def heldV (zs : List Int) : Nat := if headE zs = 0 then heldN zs else 0

set_option maxHeartbeats 1600000 in
theorem held_any (sv : Value) (zs : List Int) (w : World) (hb : Bs w sv zs) (hy : Byt zs) (hz : zs.length ≤ 100000000000000) (ht : Tab w) :
    Calls Tryd.prog 58 #[sv] w fun e w' => e = .returned (.tuple #[.int .i64 (heldV zs), .int .i64 (headE zs)]) ∧ Below w.heap.size w w' := by
  by_cases h8 : zs.length < 8
  · have e1 : headE zs = 2 := headE_short h8
    have e2 : heldV zs = 0 := by unfold heldV; rw [e1]; rfl
    rw [e1, e2]
    obtain ⟨ao, cap, hsv, hm⟩ := hb.len
    subst hsv
    go_enter Tryd.func58, Tryd.ntmps58
    go_wp2
    go_ret2
    exact ⟨rfl, Below.refl _ _⟩
  rcases hb with ⟨h0, _⟩ | ⟨hne, b, off, cap, rfl, hc1, hc2, hcell⟩
  · rw [h0] at h8; exact absurd (by decide) h8
  have hb : Bs w (.slice (some ⟨b, off, none⟩) zs.length cap) zs := Or.inr ⟨hne, b, off, cap, rfl, hc1, hc2, hcell⟩
  clear hcell
  have hf : Bs w (.slice (some ⟨b, off, none⟩) 4 cap) (zs.take 4) := hb.front 4 (by omega)
  have hg : Bs w (.slice (some ⟨b, off + 4, none⟩) 4 (cap - 4)) ((zs.drop 4).take 4) := (hb.suffix 4 (by omega) hne).front 4 (by simp; omega)
  have yf := hy.take 4
  have yg := (hy.drop 4).take 4
  have lf : (zs.take 4).length = 4 := by simp; omega
  have lg : ((zs.drop 4).take 4).length = 4 := by simp; omega
  have tg : ((zs.drop 4).take 4).take 4 = (zs.drop 4).take 4 := List.take_of_length_le (by omega)
  have tf : (zs.take 4).take 4 = zs.take 4 := List.take_of_length_le (by omega)
  have C1 := vouched_any _ _ _ _ w hf hg yf yg (by omega) (by omega) ht
  have HV : Hid (vouchB (zs.take 4) ((zs.drop 4).take 4) = decide (((sumOf (zs.take 4) : Nat) : Int) = fourV ((zs.drop 4).take 4))) := by
    show _ = _
    unfold vouchB; rw [tg]; rfl
  unfold maxLen at hc2
  have hr := fourV_range (zs.take 4) yf
  by_cases hv : ((sumOf (zs.take 4) : Nat) : Int) = fourV ((zs.drop 4).take 4)
  · have hv1 : vouchB (zs.take 4) ((zs.drop 4).take 4) = true := by rw [HV.out]; exact decide_eq_true hv
    rw [hv1] at C1
    have HF : ∀ w1 : World, Below w.heap.size w w1 → Bs w1 (.slice (some ⟨b, off, none⟩) 4 cap) (zs.take 4) := fun w1 h => hf.below h (Nat.le_refl _)
    have hx : ∃ x : Nat, fourV (zs.take 4) = (x : Int) ∧ x < 4294967296 := ⟨(fourV (zs.take 4)).toNat, by omega, by omega⟩
    obtain ⟨x, hx1, hx2⟩ := hx
    have hxn : heldN zs = x := by unfold heldN; rw [hx1]; exact Int.toNat_natCast x
    by_cases h3 : 65536 < x
    · have e1 : headE zs = 5 := headE_long h8 hv (by omega)
      have e2 : heldV zs = 0 := by unfold heldV; rw [e1]; rfl
      rw [e1, e2]
      have HX : Hid (fourV ((zs.take 4).take 4) = (x : Int)) := by show _ = _; rw [tf]; exact hx1
      clear hv hv1 HV hr tg lg yg hf hg e1 e2 hxn tf hx1
      go_enter Tryd.func58, Tryd.ntmps58
      go_wp2_with fail
      refine C1.mono ?_
      rintro e w1 ⟨rfl, hB⟩
      go_wp2_with fail
      refine (four_any _ _ w1 (HF w1 hB) yf (by omega) (by omega)).mono ?_
      rintro e w2 ⟨rfl, hB2⟩
      rw [HX.out]
      go_wp2
      go_ret2
      exact ⟨rfl, hB.trans (hB2.mono hB.size)⟩
    · have e1 : headE zs = 0 := headE_good h8 hv (by omega)
      have e2 : heldV zs = x := by unfold heldV; rw [e1, hxn]; rfl
      rw [e1, e2]
      have HX : Hid (fourV ((zs.take 4).take 4) = (x : Int)) := by show _ = _; rw [tf]; exact hx1
      clear hv hv1 HV hr tg lg yg hf hg e1 e2 hxn tf hx1
      go_enter Tryd.func58, Tryd.ntmps58
      go_wp2_with fail
      refine C1.mono ?_
      rintro e w1 ⟨rfl, hB⟩
      go_wp2_with fail
      refine (four_any _ _ w1 (HF w1 hB) yf (by omega) (by omega)).mono ?_
      rintro e w2 ⟨rfl, hB2⟩
      rw [HX.out]
      go_wp2
      go_ret2
      exact ⟨rfl, hB.trans (hB2.mono hB.size)⟩
  · have e1 : headE zs = 4 := headE_sum h8 hv
    have e2 : heldV zs = 0 := by unfold heldV; rw [e1]; rfl
    have hv1 : vouchB (zs.take 4) ((zs.drop 4).take 4) = false := by rw [HV.out]; exact decide_eq_false hv
    rw [e1, e2]
    rw [hv1] at C1
    clear hv hv1 HV hr tf tg lf lg yf yg hf hg e1 e2
    go_enter Tryd.func58, Tryd.ntmps58
    go_wp2_with fail
    refine C1.mono ?_
    rintro e w1 ⟨rfl, hB⟩
    go_wp2
    go_ret2
    exact ⟨rfl, hB⟩

set_option maxHeartbeats 3200000 in
set_option maxRecDepth 20000 in
theorem dec_any (sv : Value) (zs : List Int) (w : World) (hb : Bs w sv zs) (hy : Byt zs) (hz : zs.length ≤ 100000000000000) (ht : Tab w) :
    Calls Tryd.prog 51 #[sv] w fun e w' => ∃ ao cap, e = .returned (.tuple #[.slice ao (decP zs).length cap, .int .i64 (decN zs), .int .i64 (decE zs)]) ∧ Ow w' w.heap.size (.slice ao (decP zs).length cap) (decP zs) ∧ Below w.heap.size w w' := by
  have C1 := held_any sv zs w hb hy hz ht
  obtain ⟨ao, cap, hsv, hm⟩ := hb.len
  subst hsv
  have nilO : ∀ w' : World, Ow w' w.heap.size (.slice none ([] : List Int).length 0) [] := fun w' => World.ownsRow_nil _ _ _ _
  by_cases hh : headE zs = 0
  · have hv0 : heldV zs = heldN zs := if_pos hh
    have hn := heldN_le hh
    have h8 := (headE_inv hh).1
    rw [hh, hv0] at C1
    by_cases h12 : zs.length < 12 + heldN zs
    · have e1 : decE zs = 2 := decE_short hh h12
      have e2 : decP zs = [] := decP_bad (by rw [e1]; decide)
      have e3 : decN zs = 0 := decN_bad (by rw [e1]; decide)
      rw [e1, e2, e3]
      generalize heldN zs = n at *
      clear e1 e2 e3 hh
      go_enter Tryd.func51, Tryd.ntmps51
      go_wp2_with fail
      refine C1.mono ?_
      rintro e w1 ⟨rfl, hB⟩
      go_wp2
      go_ret3
      exact ⟨_, _, rfl, nilO _, hB⟩
    · rcases hb with ⟨h0, _⟩ | ⟨hne, b, off, cap2, hsv2, hc1, hc2, hcell⟩
      · rw [h0] at h8; exact absurd h8 (by decide)
      simp only [Value.slice.injEq] at hsv2
      obtain ⟨rfl, _, rfl⟩ := hsv2
      have hb : Bs w (.slice (some ⟨b, off, none⟩) zs.length cap) zs := Or.inr ⟨hne, b, off, cap, rfl, hc1, hc2, hcell⟩
      clear hcell
      have hf : Bs w (.slice (some ⟨b, off, none⟩) (8 + heldN zs) cap) (zs.take (8 + heldN zs)) := hb.front _ (by omega)
      have hg : Bs w (.slice (some ⟨b, off + (8 + heldN zs), none⟩) 4 (cap - (8 + heldN zs))) ((zs.drop (8 + heldN zs)).take 4) := (hb.suffix _ (by omega) hne).front 4 (by simp; omega)
      have hk : Bs w (.slice (some ⟨b, off + 8, none⟩) (heldN zs) (cap - 8)) ((zs.drop 8).take (heldN zs)) := (hb.suffix 8 (by omega) hne).front _ (by simp; omega)
      have yf := hy.take (8 + heldN zs)
      have yg := (hy.drop (8 + heldN zs)).take 4
      have lg : ((zs.drop (8 + heldN zs)).take 4).length = 4 := by simp; omega
      have lk : ((zs.drop 8).take (heldN zs)).length = heldN zs := by simp; omega
      have tg : ((zs.drop (8 + heldN zs)).take 4).take 4 = (zs.drop (8 + heldN zs)).take 4 := List.take_of_length_le (by omega)
      have C2 : ∀ w1 : World, Below w.heap.size w w1 → Calls Tryd.prog 59 #[.slice (some ⟨b, off, none⟩) (8 + heldN zs) cap, .slice (some ⟨b, off + (8 + heldN zs), none⟩) 4 (cap - (8 + heldN zs))] w1 fun e w' => e = .returned (.bool (vouchB (zs.take (8 + heldN zs)) ((zs.drop (8 + heldN zs)).take 4))) ∧ Below w1.heap.size w1 w' :=
        fun w1 h1 => vouched_any _ _ _ _ w1 (hf.below h1 (Nat.le_refl _)) (hg.below h1 (Nat.le_refl _)) yf yg (by omega) (by omega) (ht.below h1 ht.lt)
      unfold maxLen at hc2
      by_cases hv : ((sumOf (zs.take (8 + heldN zs)) : Nat) : Int) = fourV ((zs.drop (8 + heldN zs)).take 4)
      · have hv1 : vouchB (zs.take (8 + heldN zs)) ((zs.drop (8 + heldN zs)).take 4) = true := by unfold vouchB; rw [tg]; simpa using hv
        have e1 : decE zs = 0 := decE_good hh h12 hv
        have C3 : ∀ w1 : World, Below w.heap.size w w1 → Calls Tryd.prog 34 #[.slice (some ⟨b, off + 8, none⟩) (heldN zs) (cap - 8)] w1 fun e w' => ∃ ao cap, e = .returned (.slice ao ((zs.drop 8).take (heldN zs)).length cap) ∧ Ow w' w1.heap.size (.slice ao ((zs.drop 8).take (heldN zs)).length cap) ((zs.drop 8).take (heldN zs)) ∧ Below w1.heap.size w1 w' :=
          fun w1 h1 => clone_any _ _ w1 (hk.below h1 (Nat.le_refl _)) (by omega)
        rw [e1, decP_good e1, decN_good e1]
        rw [hv1] at C2
        generalize (zs.drop 8).take (heldN zs) = ps at *
        generalize heldN zs = n at *
        clear e1 hh hv hv1 tg lg yf yg hf hg hk hv0
        go_enter Tryd.func51, Tryd.ntmps51
        go_wp2_with fail
        refine C1.mono ?_
        rintro e w1 ⟨rfl, hB⟩
        go_wp2_with fail
        obtain ⟨m, qm⟩ : ∃ m : Nat, m = 8 + n := ⟨_, rfl⟩
        obtain ⟨m4, qm4⟩ : ∃ m4 : Nat, m4 = 12 + n := ⟨_, rfl⟩
        rw [show (8 : Int) + (n : Int) + 4 = (m4 : Int) by omega, show (8 : Int) + (n : Int) = (m : Int) by omega]
        have f1 : (0 : Int) ≤ (m : Int) := by omega
        have f2 : (m : Int) ≤ (cap : Int) := by omega
        have f3 : (0 : Int) ≤ (m4 : Int) := by omega
        have f4 : (m4 : Int) ≤ (cap : Int) := by omega
        have f5 : (m : Int) ≤ (m4 : Int) := by omega
        have f6 : ¬ cap = m := by omega
        have f7 : m ≤ m4 := by omega
        have f8 : m4 - m = 4 := by omega
        have D2 : Calls Tryd.prog 59 #[.slice (some ⟨b, off, none⟩) m cap, .slice (some ⟨b, off + m, none⟩) 4 (cap - m)] w1.drew fun e w' => e = .returned (.bool true) ∧ Below w1.heap.size w1 w' := by
          rw [qm]; exact (C2 w1.drew hB.drew).mono fun e w' ⟨h1, h2⟩ => ⟨h1, ⟨h2.os, h2.tape, h2.output, h2.size, h2.block⟩⟩
        have f9 : ¬ cap = 8 := by omega
        have g1 : (8 : Int) ≤ (m : Int) := by omega
        have g2 : (8 : Int) ≤ (cap : Int) := by omega
        have D3 : ∀ w2 : World, Below w1.heap.size w1 w2 → Calls Tryd.prog 34 #[.slice (some ⟨b, off + 8, none⟩) (m - 8) (cap - 8)] w2 fun e w' => ∃ ao cap, e = .returned (.slice ao ps.length cap) ∧ Ow w' w2.heap.size (.slice ao ps.length cap) ps ∧ Below w2.heap.size w2 w' := by
          intro w2 h2; rw [show m - 8 = n by omega]; exact C3 w2 (hB.trans (h2.mono hB.size))
        have H2 : Hid ((m4 : Int) = ((12 + n : Nat) : Int)) := by show _ = _; omega
        clear qm qm4 C2 C3 h12 lk hn
        go_region_held3 (fun w' => True) (trivial)
          (first
            | (go_at_call 59; refine D2.mono ?_; rintro e w2 ⟨rfl, hB2⟩))
        have hB2' : Below w.heap.size w w2 := hB.trans (hB2.mono hB.size)
        go_wp2_with fail
        refine (D3 w2 hB2).mono ?_
        rintro e w3 ⟨ao3, cap3, rfl, ho3, hB3⟩
        go_wp2
        go_ret3
        exact ⟨ao3, cap3, by rw [← H2.out]; rfl, ho3.mono hB2'.size, hB2'.trans (hB3.mono hB2'.size)⟩
      · have hv1 : vouchB (zs.take (8 + heldN zs)) ((zs.drop (8 + heldN zs)).take 4) = false := by unfold vouchB; rw [tg]; simpa using hv
        have e1 : decE zs = 4 := decE_sum hh h12 hv
        rw [e1, decP_bad (by rw [e1]; decide), decN_bad (by rw [e1]; decide)]
        rw [hv1] at C2
        generalize heldN zs = n at *
        clear e1 hh hv hv1 tg lg yf yg hf hg hk hv0
        go_enter Tryd.func51, Tryd.ntmps51
        go_wp2_with fail
        refine C1.mono ?_
        rintro e w1 ⟨rfl, hB⟩
        go_wp2_with fail
        obtain ⟨m, qm⟩ : ∃ m : Nat, m = 8 + n := ⟨_, rfl⟩
        obtain ⟨m4, qm4⟩ : ∃ m4 : Nat, m4 = 12 + n := ⟨_, rfl⟩
        rw [show (8 : Int) + (n : Int) + 4 = (m4 : Int) by omega, show (8 : Int) + (n : Int) = (m : Int) by omega]
        have f1 : (0 : Int) ≤ (m : Int) := by omega
        have f2 : (m : Int) ≤ (cap : Int) := by omega
        have f3 : (0 : Int) ≤ (m4 : Int) := by omega
        have f4 : (m4 : Int) ≤ (cap : Int) := by omega
        have f5 : (m : Int) ≤ (m4 : Int) := by omega
        have f6 : ¬ cap = m := by omega
        have f7 : m ≤ m4 := by omega
        have f8 : m4 - m = 4 := by omega
        have D2 : Calls Tryd.prog 59 #[.slice (some ⟨b, off, none⟩) m cap, .slice (some ⟨b, off + m, none⟩) 4 (cap - m)] w1.drew fun e w' => e = .returned (.bool false) ∧ Below w1.heap.size w1 w' := by
          rw [qm]; exact (C2 w1.drew hB.drew).mono fun e w' ⟨h1, h2⟩ => ⟨h1, ⟨h2.os, h2.tape, h2.output, h2.size, h2.block⟩⟩
        clear qm qm4 C2 h12 lk hn
        go_region_held3 (fun w' => True) (trivial)
          (first
            | (go_at_call 59; refine D2.mono ?_; rintro e w2 ⟨rfl, hB2⟩))
        have hB2' : Below w.heap.size w w2 := hB.trans (hB2.mono hB.size)
        go_wp2
        go_ret3
        exact ⟨_, _, rfl, nilO _, hB2'⟩
  · have e1 : decE zs = headE zs := decE_head hh
    have e2 : decP zs = [] := decP_bad (by rw [e1]; exact hh)
    have e3 : decN zs = 0 := decN_bad (by rw [e1]; exact hh)
    have e4 : heldV zs = 0 := if_neg hh
    rw [e1, e2, e3]
    rw [e4] at C1
    generalize headE zs = er at *
    clear e1 e2 e3 e4
    go_enter Tryd.func51, Tryd.ntmps51
    go_wp2_with fail
    refine C1.mono ?_
    rintro e w1 ⟨rfl, hB⟩
    go_wp2
    go_ret3
    exact ⟨_, _, rfl, nilO _, hB⟩
end Go.Proofs.YtahodgmdikaedaaDoor
end

section
/-
  frame.Encode, by contract: the record of bytes, in new memory.
-/
namespace Go.Proofs.YtahodgmdikaedaaDoor
open Go.RowKit

set_option maxHeartbeats 800000 in
theorem layLength_w (b : Nat) (v : Value) (xs : List Int) (sv : Value) (zs : List Int) (w : World) (hw : Wr w b v xs) (hb : Bs w sv zs) (hn : xs.length ≤ 500000000000) (hz : zs.length ≤ 65536) :
    Calls Tryd.prog 80 #[.func (.func 81) #[.pointer (some ⟨b, 0, none⟩)] #[], sv] w fun e w' => e = .returned (.tuple #[]) ∧ ∃ v', Wr w' b v' (xs ++ fourB (zs.length : Int)) ∧ Wstep b w v w' v' := by
  obtain ⟨ao, cap, hsv, hm⟩ := hb.len
  subst hsv
  have C := four_w b v xs (zs.length : Int) w hw hn
  have hu : (zs.length : Int) % 4294967296 = zs.length := by omega
  go_enter Tryd.func80, Tryd.ntmps80
  go_wp2_with fail
  refine C.mono ?_
  rintro e w1 ⟨rfl, v', hw', hs'⟩
  go_wp2
  go_end0
  exact ⟨rfl, v', hw', hs'⟩

set_option maxHeartbeats 800000 in
theorem laySum_w (b : Nat) (v : Value) (xs : List Int) (sv : Value) (zs : List Int) (w : World) (hw : Wr w b v xs) (hb : Bs w sv zs) (hy : Byt zs) (ht : Tab w) (hn : xs.length ≤ 500000000000) :
    Calls Tryd.prog 82 #[.func (.func 81) #[.pointer (some ⟨b, 0, none⟩)] #[], sv] w fun e w' => e = .returned (.tuple #[]) ∧ ∃ v', Wr w' b v' (xs ++ fourB (sumOf zs : Nat)) ∧ Wstep b w v w' v' := by
  go_enter Tryd.func82, Tryd.ntmps82
  go_wp2_with fail
  refine (sum_any sv zs _ hb hy ht).mono ?_
  rintro e w1 ⟨rfl, rfl⟩
  go_wp2_with fail
  refine (four_w b v xs _ _ hw hn).mono ?_
  rintro e w1 ⟨rfl, v', hw', hs'⟩
  go_wp2
  go_end0
  exact ⟨rfl, v', hw', hs'⟩

set_option maxHeartbeats 800000 in
theorem layHeld_w (b : Nat) (v : Value) (xs : List Int) (sv : Value) (zs : List Int) (w : World) (hw : Wr w b v xs) (hb : Bs w sv zs) (hsep : ∀ k, sv.ownBlock = some k → k ≠ b ∧ some k ≠ v.ownBlock)
    (hn : xs.length ≤ 500000000000) (hz : zs.length ≤ 400000000000) :
    Calls Tryd.prog 83 #[.func (.func 79) #[.pointer (some ⟨b, 0, none⟩)] #[], sv] w fun e w' => e = .returned (.tuple #[]) ∧ ∃ v', Wr w' b v' (xs ++ zs) ∧ Wstep b w v w' v' := by
  obtain ⟨ao, cap, hsv, hm⟩ := hb.len
  subst hsv
  go_enter Tryd.func83, Tryd.ntmps83
  go_wp2
  go_loopw [8] (fun i wr => ∃ (k : Nat) (v1 : Value), k ≤ zs.length ∧ i = .int .i64 k ∧ Wr wr b v1 (xs ++ zs.take k) ∧ Wstep b w v wr v1) (fun i _ => zs.length - (intOf i).toNat)
  case atStart => exact ⟨0, v, Nat.zero_le _, rfl, by simpa using hw, Wstep.refl _ _ _⟩
  case round =>
    obtain ⟨k, v1, hk, rfl, hw1, hs1⟩ := hrel
    by_cases hlt : k < zs.length
    · have hb1 := hb.step hs1 hsep
      rcases hb1 with ⟨h0, _⟩ | ⟨_, b2, off, cap2, he, hc1, hc2, hcell⟩
      · subst h0; simp at hlt
      · simp only [Value.slice.injEq] at he
        obtain ⟨rfl, _, rfl⟩ := he
        have hck := hcell k hlt
        clear hcell
        have hl2 : (xs ++ zs.take k).length ≤ 1000000000000 := by simp; omega
        go_wp2_with (go_at_call 79; refine (byte_w b v1 _ _ _ hw1 hl2).mono ?_; rintro e w' ⟨rfl, v2, hw2, hs2⟩)
        go_roundw
        case rel => exact ⟨k + 1, v2, by omega, by go_num, by simpa using hw2, hs1.trans hs2⟩
        case measure => simp [intOf]; omega
    · have hke : zs.take k = zs := List.take_of_length_le (by omega)
      go_wp2
      go_end0
      rw [hke] at hw1
      exact ⟨rfl, v1, hw1, hs1⟩


theorem Wr.keepB {w w' : World} {b : Nat} {v : Value} {xs : List Int} (h : Wr w b v xs) (hb : Below w.heap.size w w') : Wr w' b v xs :=
  ⟨by rw [hb.block b h.lt]; exact h.1, h.2.keep fun k _ hk => hb.block k hk⟩

set_option maxHeartbeats 3200000 in
set_option maxRecDepth 20000 in
theorem enc_any (sv : Value) (zs : List Int) (w : World) (hb : Bs w sv zs) (hy : Byt zs) (hz : zs.length ≤ 65536) (ht : Tab w) (hsl : ∀ k, sv.ownBlock = some k → k < w.heap.size) :
    Calls Tryd.prog 68 #[sv] w fun e w' => ∃ ao cap, e = .returned (.tuple #[.slice ao (recN zs).length cap, .int .i64 0]) ∧ Ow w' w.heap.size (.slice ao (recN zs).length cap) (recN zs) ∧ Below w.heap.size w w' := by
  have hw0 := Wr_new w
  have B0 : Below w.heap.size w (w.alloc (.cells #[.slice none 0 0] 114)) := (Below.refl _ _).alloc (Nat.le_refl _) _
  have hsep : ∀ (v : Value) (W : World) (xs : List Int), Wr W w.heap.size v xs → ∀ k, sv.ownBlock = some k → k ≠ w.heap.size ∧ some k ≠ v.ownBlock := by
    intro v W xs hW k hk
    have := hsl k hk
    refine ⟨by omega, fun e => ?_⟩
    have := World.ownsRow.lt hW.2 k e.symm
    omega
  obtain ⟨ao, cap, hsv, hm⟩ := hb.len
  subst hsv
  have HSEP : Hid (∀ (v : Value) (W : World) (xs : List Int), Wr W w.heap.size v xs → ∀ k, (Value.slice ao zs.length cap).ownBlock = some k → k ≠ w.heap.size ∧ some k ≠ v.ownBlock) := hsep
  clear hsep
  go_enter Tryd.func68, Tryd.ntmps68
  go_wp2_with fail
  refine (layLength_w w.heap.size _ [] _ zs _ hw0 (hb.below B0 (Nat.le_refl _)) (by decide) hz).mono ?_
  rintro e w1 ⟨rfl, v1, hw1, hs1⟩
  have B1 : Below w.heap.size w w1 := B0.trans (hw0.below hs1 (Nat.le_refl _))
  rw [List.nil_append] at hw1
  go_wp2_with fail
  refine (out_w w.heap.size v1 _ _ hw1 (by rw [fourB_len]; decide)).mono ?_
  rintro e w2 ⟨ao2, cap2, rfl, ho2, hb2⟩
  have hw2 := hw1.keepB hb2
  have B2 : Below w.heap.size w w2 := B1.trans (hb2.mono B1.size)
  go_wp2_with fail
  refine (laySum_w w.heap.size v1 _ _ _ _ hw2 ho2.bs (fourB_byt _) (ht.below B2 ht.lt) (by rw [fourB_len]; decide)).mono ?_
  rintro e w3 ⟨rfl, v3, hw3, hs3⟩
  have B3 : Below w.heap.size w w3 := B2.trans (hw2.below hs3 (Nat.le_refl _))
  have hw3' : Wr w3 w.heap.size v3 (headN zs.length) := hw3
  clear hw0 hw1 hw2 hw3 hs1 hs3 ho2 hb2 B0 B1 B2
  go_wp2_with fail
  refine (layHeld_w w.heap.size v3 _ _ zs _ hw3' (hb.below B3 (Nat.le_refl _)) (HSEP.out _ _ _ hw3') (by rw [headN_len]; decide) (by omega)).mono ?_
  rintro e w4 ⟨rfl, v4, hw4, hs4⟩
  have B4 : Below w.heap.size w w4 := B3.trans (hw3'.below hs4 (Nat.le_refl _))
  have hl4 : (headN zs.length ++ zs).length ≤ 70000 := by rw [List.length_append, headN_len]; omega
  have hy4 : Byt (headN zs.length ++ zs) := (headN_byt _).app hy
  have HY : Hid (headN zs.length ++ zs ++ fourB (sumOf (headN zs.length ++ zs) : Nat) = recN zs) := rfl
  generalize headN zs.length ++ zs = ys at *
  go_wp2_with fail
  refine (out_w w.heap.size v4 _ _ hw4 (by omega)).mono ?_
  rintro e w5 ⟨ao5, cap5, rfl, ho5, hb5⟩
  have hw5 := hw4.keepB hb5
  have B5 : Below w.heap.size w w5 := B4.trans (hb5.mono B4.size)
  go_wp2_with fail
  refine (laySum_w w.heap.size v4 _ _ _ _ hw5 ho5.bs hy4 (ht.below B5 ht.lt) (by omega)).mono ?_
  rintro e w6 ⟨rfl, v6, hw6, hs6⟩
  have B6 : Below w.heap.size w w6 := B5.trans (hw5.below hs6 (Nat.le_refl _))
  rw [HY.out] at hw6
  have hw6' : Wr w6 w.heap.size v6 (recN zs) := hw6
  clear hw3' hw4 hw5 hw6 hs4 hs6 ho5 hb5 B3 B4 B5
  go_wp2_with fail
  refine (out_w w.heap.size v6 _ _ hw6' (by rw [recN_len]; omega)).mono ?_
  rintro e w7 ⟨ao7, cap7, rfl, ho7, hb7⟩
  have B7 : Below w.heap.size w w7 := B6.trans (hb7.mono B6.size)
  go_wp2
  go_ret2
  exact ⟨ao7, cap7, rfl, ho7.mono B6.size, B7⟩
end Go.Proofs.YtahodgmdikaedaaDoor
end

section
/-
  The document's own Reader, by contracts: raw, Byte, Two, Four, Num, Bytes, Left, End.
-/
namespace Go.Proofs.YtahodgmdikaedaaDoor
open Go.RowKit

/-- Block b is the document's Reader that has zs left and the error e; its slice is v. -/
def Rf (w : World) (b : Nat) (v : Value) (zs : List Int) (e : Int) : Prop := w.heap[b]? = some (.cells #[v, .int .i64 e] 90 (0, 0)) ∧ Bs w v zs ∧ v.ownBlock ≠ some b

theorem Rf.lt {w : World} {b : Nat} {v : Value} {zs : List Int} {e : Int} (h : Rf w b v zs e) : b < w.heap.size := (Array.getElem?_eq_some_iff.1 h.1).1
theorem Rf.cell0 {w : World} {b : Nat} {v : Value} {zs : List Int} {e : Int} (h : Rf w b v zs e) : w.cell? ⟨b, 0, none⟩ = some v := by
  rw [cell_of_row w b 0 _ _ _ h.1]; rfl
theorem Rf.cell1 {w : World} {b : Nat} {v : Value} {zs : List Int} {e : Int} (h : Rf w b v zs e) : w.cell? ⟨b, 1, none⟩ = some (.int .i64 e) := by
  rw [cell_of_row w b 1 _ _ _ h.1]; rfl
theorem Rf.frozen {w : World} {b : Nat} {v : Value} {zs : List Int} {e : Int} (h : Rf w b v zs e) (i : Nat) : w.frozen? ⟨b, i, none⟩ = false := by
  simp [World.frozen?, h.1]
/-- Another slice in the Reader's first field. -/
theorem Rf.set0 {w : World} {b : Nat} {v v' : Value} {zs zs' : List Int} {e : Int} (h : Rf w b v zs e) (hb : Bs w v' zs') (hv : v'.ownBlock ≠ some b) : Rf (w.setCell ⟨b, 0, none⟩ v') b v' zs' e ∧ Rstep b w (w.setCell ⟨b, 0, none⟩ v') := by
  refine ⟨⟨?_, hb.keep fun k hk _ => Below.heap_setCell _ _ _ _ (fun e => hv (by rw [hk, e])), hv⟩, ⟨rfl, rfl, rfl, by simp [World.setCell], fun k _ hkb => Below.heap_setCell _ _ _ _ hkb⟩⟩
  simp only [World.setCell, Array.getElem?_modify, h.1]
  simp
theorem Rf.set1 {w : World} {b : Nat} {v : Value} {zs : List Int} {e e' : Int} (h : Rf w b v zs e) : Rf (w.setCell ⟨b, 1, none⟩ (.int .i64 e')) b v zs e' ∧ Rstep b w (w.setCell ⟨b, 1, none⟩ (.int .i64 e')) := by
  refine ⟨⟨?_, h.2.1.keep fun k hk _ => Below.heap_setCell _ _ _ _ (fun e => h.2.2 (by rw [hk, e])), h.2.2⟩, ⟨rfl, rfl, rfl, by simp [World.setCell], fun k _ hkb => Below.heap_setCell _ _ _ _ hkb⟩⟩
  simp only [World.setCell, Array.getElem?_modify, h.1]
  simp
theorem Rf.sm {w w' : World} {b : Nat} {v : Value} {zs : List Int} {e : Int} (h : Rf w b v zs e) (hs : Sm w w') : Rf w' b v zs e := ⟨by rw [hs.heap]; exact h.1, hs.bs h.2.1, h.2.2⟩
theorem Rf.keep {w w' : World} {b : Nat} {v : Value} {zs : List Int} {e : Int} (h : Rf w b v zs e) (hb : w'.heap[b]? = w.heap[b]?) (hk : ∀ k, v.ownBlock = some k → k < w.heap.size → w'.heap[k]? = w.heap[k]?) : Rf w' b v zs e :=
  ⟨by rw [hb]; exact h.1, h.2.1.keep hk, h.2.2⟩
theorem Rf.below {w w' : World} {b B : Nat} {v : Value} {zs : List Int} {e : Int} (h : Rf w b v zs e) (hB : Below B w w') (hs : w.heap.size ≤ B) : Rf w' b v zs e :=
  h.keep (hB.block b (by have := h.lt; omega)) (fun k _ hk => hB.block k (by omega))


/-- What a taking leaves. -/
def Fleft (w : World) (b : Nat) (v : Value) (w' : World) (zs : List Int) (e : Int) : Prop := ∃ v', Rf w' b v' zs e ∧ Rstep b w w' ∧ (v'.ownBlock = v.ownBlock ∨ v'.ownBlock = none)

set_option maxHeartbeats 1600000 in
theorem raw_yes (b : Nat) (v : Value) (zs : List Int) (n : Nat) (w : World) (hr : Rf w b v zs 0) (hn : n ≤ zs.length) (hn0 : 0 < n) :
    Calls Tryd.prog 56 #[.pointer (some ⟨b, 0, none⟩), .int .i64 n] w fun r w' => ∃ x, r = .returned x ∧ Bs w' x (zs.take n) ∧ Fleft w b v w' (zs.drop n) 0 := by
  have hc0 := hr.cell0
  have hc1 := hr.cell1
  have hf0 := hr.frozen 0
  rcases hr.2.1 with ⟨h0, _⟩ | ⟨hz, b2, off, cap, hv, hca, hcb, hcell⟩
  · subst h0; simp at hn; omega
  subst hv
  have hpre := hr.2.1.front n hn
  have hsuf := hr.2.1.suffix n hn hz
  have hnb : b2 ≠ b := fun e => hr.2.2 (by simp [Value.ownBlock, e])
  unfold maxLen at hcb
  by_cases hcm : cap = n
  · have hd : zs.drop n = [] := List.drop_eq_nil_of_le (by omega)
    have R := hr.set0 (v' := .slice (some ⟨b2, off, none⟩) 0 0) (zs' := []) (Or.inl ⟨rfl, _, 0, rfl, by simp [maxLen], fun e => by cases e⟩) (by simpa [Value.ownBlock] using hnb)
    have hpre2 : Bs (w.setCell ⟨b, 0, none⟩ (.slice (some ⟨b2, off, none⟩) 0 0)) (.slice (some ⟨b2, off, none⟩) n cap) (zs.take n) := hpre.keep fun k hk _ => Below.heap_setCell _ _ _ _ (fun e => hnb (by simpa [Value.ownBlock, e] using hk))
    have hzm : zs.length - n = 0 := by omega
    have HD : Hid (zs.drop n = []) := hd
    clear hcell hsuf hpre hd
    subst hcm
    go_enter Tryd.func56, Tryd.ntmps56
    go_wp2
    go_ret
    rw [HD.out]
    exact ⟨_, rfl, hpre2, _, R.1, R.2, Or.inl rfl⟩
  · have R := hr.set0 hsuf (by simpa [Value.ownBlock] using hnb)
    have hpre2 : Bs (w.setCell ⟨b, 0, none⟩ (.slice (some ⟨b2, off + n, none⟩) (zs.length - n) (cap - n))) (.slice (some ⟨b2, off, none⟩) n cap) (zs.take n) := hpre.keep fun k hk _ => Below.heap_setCell _ _ _ _ (fun e => hnb (by simpa [Value.ownBlock, e] using hk))
    clear hcell hsuf hpre
    go_enter Tryd.func56, Tryd.ntmps56
    go_wp2
    go_ret
    exact ⟨_, rfl, hpre2, _, R.1, R.2, Or.inl rfl⟩

theorem mk1 (w : World) : (Instr.makeSlice 29 (.int .i64 1) (.int .i64 1)).run Tryd.prog w = .ok (.slice (some ⟨w.heap.size, 0, none⟩) 1 1) (w.alloc (.cells (cellsOf [0]).toArray 5)) := by kernel_rfl
theorem mk2 (w : World) : (Instr.makeSlice 29 (.int .i64 2) (.int .i64 2)).run Tryd.prog w = .ok (.slice (some ⟨w.heap.size, 0, none⟩) 2 2) (w.alloc (.cells (cellsOf [0, 0]).toArray 5)) := by kernel_rfl
theorem mk4 (w : World) : (Instr.makeSlice 29 (.int .i64 4) (.int .i64 4)).run Tryd.prog w = .ok (.slice (some ⟨w.heap.size, 0, none⟩) 4 4) (w.alloc (.cells (cellsOf [0, 0, 0, 0]).toArray 5)) := by kernel_rfl

/-- The error behind a taking that finds too little. -/
def errR (e : Int) : Int := if e = 0 then 2 else e
theorem Rf.alloc {w : World} {b : Nat} {v : Value} {zs : List Int} {e : Int} (h : Rf w b v zs e) (o : Obj) : Rf (w.alloc o) b v zs e := h.below ((Below.refl _ _).alloc (Nat.le_refl _) _) (Nat.le_refl _)
theorem Rstep.alloc {b : Nat} {w w' : World} (h : Rstep b w w') (o : Obj) : Rstep b w (w'.alloc o) := h.trans (Rstep.of_below ((Below.refl _ _).alloc (Nat.le_refl _) _) (Nat.le_refl _))
theorem Bs_new (w W : World) (zs : List Int) (hs : W.heap.size = w.heap.size) (hm : zs.length ≤ maxLen) : Bs (W.alloc (.cells (cellsOf zs).toArray 5)) (.slice (some ⟨w.heap.size, 0, none⟩) zs.length zs.length) zs := by
  have := Bs_of_block (heap_alloc_new W (.cells (cellsOf zs).toArray 5)) hm
  rw [hs] at this
  exact this

set_option maxHeartbeats 1600000 in
theorem raw_no1 (b : Nat) (v : Value) (zs : List Int) (e : Int) (w : World) (hr : Rf w b v zs e) (hn : e = 0 → zs.length < 1) :
    Calls Tryd.prog 56 #[.pointer (some ⟨b, 0, none⟩), .int .i64 1] w fun r w' => ∃ x, r = .returned x ∧ Bs w' x [0] ∧ Fleft w b v w' [] (errR e) := by
  have hc0 := hr.cell0
  have hc1 := hr.cell1
  have hf0 := hr.frozen 0
  have hf1 := hr.frozen 1
  obtain ⟨ao, cap, hv, hm⟩ := hr.2.1.len
  subst hv
  have hmk := mk1
  have HZ : Hid (([0] : List Int).length ≤ maxLen) := by show _ ≤ _; simp [maxLen]
  by_cases he : e = 0
  · subst he
    have hl := hn rfl
    have R1 := hr.set1 (e' := 2)
    have R2 := R1.1.set0 (Bs_nil _) (by simp [Value.ownBlock])
    have hb := Bs_new w ((w.setCell ⟨b, 1, none⟩ (.int .i64 2)).setCell ⟨b, 0, none⟩ (.slice none 0 0)) [0] (by simp [World.setCell]) HZ.out
    go_enter Tryd.func56, Tryd.ntmps56
    go_wp2
    go_ret
    exact ⟨_, rfl, hb, _, R2.1.alloc _, (R1.2.trans R2.2).alloc _, Or.inr rfl⟩
  · have hne : (e == 0) = false := by simp [he]
    have hne2 : (e != 0) = true := by simp [he]
    have R2 := hr.set0 (Bs_nil _) (by simp [Value.ownBlock])
    have hb := Bs_new w (w.setCell ⟨b, 0, none⟩ (.slice none 0 0)) [0] (by simp [World.setCell]) HZ.out
    have HE : Hid (errR e = e) := by show _ = _; simp [errR, he]
    go_enter Tryd.func56, Tryd.ntmps56
    go_wp2
    go_ret
    rw [HE.out]
    exact ⟨_, rfl, hb, _, R2.1.alloc _, R2.2.alloc _, Or.inr rfl⟩

set_option maxHeartbeats 1600000 in
theorem raw_no2 (b : Nat) (v : Value) (zs : List Int) (e : Int) (w : World) (hr : Rf w b v zs e) (hn : e = 0 → zs.length < 2) :
    Calls Tryd.prog 56 #[.pointer (some ⟨b, 0, none⟩), .int .i64 2] w fun r w' => ∃ x, r = .returned x ∧ Bs w' x [0, 0] ∧ Fleft w b v w' [] (errR e) := by
  have hc0 := hr.cell0
  have hc1 := hr.cell1
  have hf0 := hr.frozen 0
  have hf1 := hr.frozen 1
  obtain ⟨ao, cap, hv, hm⟩ := hr.2.1.len
  subst hv
  have hmk := mk2
  have HZ : Hid (([0, 0] : List Int).length ≤ maxLen) := by show _ ≤ _; simp [maxLen]
  by_cases he : e = 0
  · subst he
    have hl := hn rfl
    have R1 := hr.set1 (e' := 2)
    have R2 := R1.1.set0 (Bs_nil _) (by simp [Value.ownBlock])
    have hb := Bs_new w ((w.setCell ⟨b, 1, none⟩ (.int .i64 2)).setCell ⟨b, 0, none⟩ (.slice none 0 0)) [0, 0] (by simp [World.setCell]) HZ.out
    go_enter Tryd.func56, Tryd.ntmps56
    go_wp2
    go_ret
    exact ⟨_, rfl, hb, _, R2.1.alloc _, (R1.2.trans R2.2).alloc _, Or.inr rfl⟩
  · have hne : (e == 0) = false := by simp [he]
    have hne2 : (e != 0) = true := by simp [he]
    have R2 := hr.set0 (Bs_nil _) (by simp [Value.ownBlock])
    have hb := Bs_new w (w.setCell ⟨b, 0, none⟩ (.slice none 0 0)) [0, 0] (by simp [World.setCell]) HZ.out
    have HE : Hid (errR e = e) := by show _ = _; simp [errR, he]
    go_enter Tryd.func56, Tryd.ntmps56
    go_wp2
    go_ret
    rw [HE.out]
    exact ⟨_, rfl, hb, _, R2.1.alloc _, R2.2.alloc _, Or.inr rfl⟩

set_option maxHeartbeats 1600000 in
theorem raw_no4 (b : Nat) (v : Value) (zs : List Int) (e : Int) (w : World) (hr : Rf w b v zs e) (hn : e = 0 → zs.length < 4) :
    Calls Tryd.prog 56 #[.pointer (some ⟨b, 0, none⟩), .int .i64 4] w fun r w' => ∃ x, r = .returned x ∧ Bs w' x [0, 0, 0, 0] ∧ Fleft w b v w' [] (errR e) := by
  have hc0 := hr.cell0
  have hc1 := hr.cell1
  have hf0 := hr.frozen 0
  have hf1 := hr.frozen 1
  obtain ⟨ao, cap, hv, hm⟩ := hr.2.1.len
  subst hv
  have hmk := mk4
  have HZ : Hid (([0, 0, 0, 0] : List Int).length ≤ maxLen) := by show _ ≤ _; simp [maxLen]
  by_cases he : e = 0
  · subst he
    have hl := hn rfl
    have R1 := hr.set1 (e' := 2)
    have R2 := R1.1.set0 (Bs_nil _) (by simp [Value.ownBlock])
    have hb := Bs_new w ((w.setCell ⟨b, 1, none⟩ (.int .i64 2)).setCell ⟨b, 0, none⟩ (.slice none 0 0)) [0, 0, 0, 0] (by simp [World.setCell]) HZ.out
    go_enter Tryd.func56, Tryd.ntmps56
    go_wp2
    go_ret
    exact ⟨_, rfl, hb, _, R2.1.alloc _, (R1.2.trans R2.2).alloc _, Or.inr rfl⟩
  · have hne : (e == 0) = false := by simp [he]
    have hne2 : (e != 0) = true := by simp [he]
    have R2 := hr.set0 (Bs_nil _) (by simp [Value.ownBlock])
    have hb := Bs_new w (w.setCell ⟨b, 0, none⟩ (.slice none 0 0)) [0, 0, 0, 0] (by simp [World.setCell]) HZ.out
    have HE : Hid (errR e = e) := by show _ = _; simp [errR, he]
    go_enter Tryd.func56, Tryd.ntmps56
    go_wp2
    go_ret
    rw [HE.out]
    exact ⟨_, rfl, hb, _, R2.1.alloc _, R2.2.alloc _, Or.inr rfl⟩

end Go.Proofs.YtahodgmdikaedaaDoor
end

section
/-
  The document's own Reader, by contracts: Byte, Two, Four, Left, End; and octet's Byte in the same words.
-/
namespace Go.Proofs.YtahodgmdikaedaaDoor
open Go.RowKit

/-- Behind an error nothing is left. -/
def Inv (zs : List Int) (e : Int) : Prop := e = 0 ∨ zs = []
theorem rowR_inv (ys zs : List Int) (e : Int) (h : Inv zs e) : Inv (rowR ys zs e).2.1 (rowR ys zs e).2.2 := by
  unfold rowR Inv at *; split
  · split
    · exact Or.inl rfl
    · exact Or.inr rfl
  · exact h
theorem numR_inv (f k u : Nat) (zs : List Int) : Inv (numR f k u zs).2.1 (numR f k u zs).2.2 := by
  by_cases h : (numR f k u zs).2.2 = 0
  · exact Or.inl h
  · exact Or.inr (numR_err f k u zs h).2

theorem raw_row (ys zs : List Int) (e : Int) (w : World) (b : Nat) (v : Value) (n : Nat) (hys : ys.length = n) (hn0 : 0 < n) (hr : Rf w b v zs e) (hi : Inv zs e)
    (hno : (e = 0 → zs.length < n) → Calls Tryd.prog 56 #[.pointer (some ⟨b, 0, none⟩), .int .i64 n] w fun r w' => ∃ x, r = .returned x ∧ Bs w' x ys ∧ Fleft w b v w' [] (errR e)) :
    Calls Tryd.prog 56 #[.pointer (some ⟨b, 0, none⟩), .int .i64 n] w fun r w' => ∃ x, r = .returned x ∧ Bs w' x (rowR ys zs e).1 ∧ Fleft w b v w' (rowR ys zs e).2.1 (rowR ys zs e).2.2 := by
  by_cases he : e = 0
  · subst he
    by_cases hl : ys.length ≤ zs.length
    · rw [rowR_yes hl, hys]
      exact raw_yes b v zs n w hr (by omega) hn0
    · rw [rowR_no hl]
      exact hno (fun _ => by omega)
  · have hz : zs = [] := by rcases hi with h | h; exact absurd h he; exact h
    subst hz
    rw [rowR_err he]
    have := hno (fun h => absurd h he)
    rw [show errR e = e by simp [errR, he]] at this
    exact this

theorem rbyte_u (b : Nat) (v : Value) (zs : List Int) (e : Int) (w : World) (hr : Rd w b v zs e) :
    Calls Tryd.prog 73 #[.pointer (some ⟨b, 0, none⟩)] w fun r w' => r = .returned (.int .u8 ((rowR [0] zs e).1.getD 0 0)) ∧ Rleft w b v w' (rowR [0] zs e).2.1 (rowR [0] zs e).2.2 := by
  by_cases he : e = 0
  · subst he
    cases zs with
    | nil =>
      refine (rbyte_no b v w hr).mono ?_
      rintro r w' ⟨rfl, h1, h2⟩
      exact ⟨rfl, _, h1, h2, Or.inr rfl⟩
    | cons z zs =>
      refine (rbyte_yes b v z zs w hr).mono ?_
      rintro r w' ⟨rfl, v', hv, h1, h2⟩
      rw [rowR_yes (by simp)]
      exact ⟨rfl, v', h1, h2, Or.inl hv⟩
  · refine (rbyte_err b v zs e w hr he).mono ?_
    rintro r w' ⟨rfl, rfl⟩
    rw [rowR_err he]
    exact ⟨rfl, v, hr, Rstep.refl _ _, Or.inl rfl⟩

set_option maxHeartbeats 800000 in
theorem fbyte_u (b : Nat) (v : Value) (zs : List Int) (e : Int) (w : World) (hr : Rf w b v zs e) (hi : Inv zs e) :
    Calls Tryd.prog 55 #[.pointer (some ⟨b, 0, none⟩)] w fun r w' => r = .returned (.int .u8 ((rowR [0] zs e).1.getD 0 0)) ∧ Fleft w b v w' (rowR [0] zs e).2.1 (rowR [0] zs e).2.2 := by
  have hlen := rowR_len [0] zs e
  have hraw := raw_row [0] zs e w b v 1 rfl (by decide) hr hi (raw_no1 b v zs e w hr)
  generalize rowR [0] zs e = R at *
  obtain ⟨row, zs2, e2⟩ := R
  obtain ⟨x0, rfl⟩ : ∃ x0, row = [x0] := by
    match row, hlen with
    | [x0], _ => exact ⟨x0, rfl⟩
  have HR : Hid (Calls Tryd.prog 56 #[.pointer (some ⟨b, 0, none⟩), .int .i64 1] w fun r w' => ∃ x, r = .returned x ∧ Bs w' x [x0] ∧ Fleft w b v w' zs2 e2) := hraw
  clear hraw hlen
  go_enter Tryd.func55, Tryd.ntmps55
  go_wp2_with fail
  refine HR.out.mono ?_
  rintro r w1 ⟨x, rfl, hb, hl⟩
  rcases hb with ⟨h0, _⟩ | ⟨_, b2, off, cap, hx, h1, h2, hcell⟩
  · cases h0
  have hc : w1.cell? ⟨b2, off, none⟩ = some (.int .u8 x0) := by simpa using hcell 0 (by simp)
  have hx' : x = .slice (some ⟨b2, off, none⟩) 1 cap := hx
  rw [hx']
  clear hcell hx hx'
  go_wp2
  go_ret
  exact ⟨rfl, hl⟩

theorem fend_any (b : Nat) (v : Value) (zs : List Int) (e : Int) (w : World) (hr : Rf w b v zs e) :
    Calls Tryd.prog 45 #[.pointer (some ⟨b, 0, none⟩)] w fun r w' => r = .returned (.int .i64 (endR zs e)) ∧ w = w' := by
  have hc0 := hr.cell0
  have hc1 := hr.cell1
  obtain ⟨ao, cap, hv, hm⟩ := hr.2.1.len
  subst hv
  by_cases he : e = 0
  · subst he
    by_cases hz : zs = []
    · have HE : Hid (0 = endR zs 0) := by show _ = _; simp [endR, hz]
      subst hz
      go_enter Tryd.func45, Tryd.ntmps45
      go_wp2
      go_ret
      exact ⟨ret_int HE.out, rfl⟩
    · have HE : Hid (3 = endR zs 0) := by show _ = _; simp [endR, hz]
      have hl : 0 < zs.length := List.length_pos_iff.2 hz
      clear hz
      go_enter Tryd.func45, Tryd.ntmps45
      go_wp2
      go_ret
      exact ⟨ret_int HE.out, rfl⟩
  · have HE : Hid (e = endR zs e) := by show _ = _; simp [endR, he]
    have hne : (e == 0) = false := by simp [he]
    clear he
    go_enter Tryd.func45, Tryd.ntmps45
    go_wp2
    go_ret
    exact ⟨ret_int HE.out, rfl⟩

theorem Fleft.sm {w w1 w2 : World} {b : Nat} {v : Value} {zs : List Int} {e : Int} (h : Fleft w b v w1 zs e) (hs : Sm w1 w2) : Fleft w b v w2 zs e := by
  obtain ⟨v', h1, h2, h3⟩ := h
  exact ⟨v', h1.sm hs, h2.trans (Rstep.of_below (hs.below _) (Nat.le_refl _)), h3⟩

set_option maxHeartbeats 1600000 in
theorem ffour_u (b : Nat) (v : Value) (zs : List Int) (e : Int) (w : World) (hr : Rf w b v zs e) (hi : Inv zs e) (hz : Byt zs) :
    Calls Tryd.prog 77 #[.pointer (some ⟨b, 0, none⟩)] w fun r w' => r = .returned (.int .u32 (fourV (rowR [0, 0, 0, 0] zs e).1)) ∧ Fleft w b v w' (rowR [0, 0, 0, 0] zs e).2.1 (rowR [0, 0, 0, 0] zs e).2.2 := by
  have hlen := rowR_len [0, 0, 0, 0] zs e
  have hby := (rowR_byt (ys := [0, 0, 0, 0]) (e := e) (by intro z hz; simp at hz; omega) hz).1
  have hraw := raw_row [0, 0, 0, 0] zs e w b v 4 rfl (by decide) hr hi (raw_no4 b v zs e w hr)
  generalize rowR [0, 0, 0, 0] zs e = R at *
  obtain ⟨row, zs2, e2⟩ := R
  obtain ⟨x0, x1, x2, x3, rfl⟩ : ∃ x0 x1 x2 x3, row = [x0, x1, x2, x3] := by
    match row, hlen with
    | [x0, x1, x2, x3], _ => exact ⟨x0, x1, x2, x3, rfl⟩
  have HR : Hid (Calls Tryd.prog 56 #[.pointer (some ⟨b, 0, none⟩), .int .i64 4] w fun r w' => ∃ x, r = .returned x ∧ Bs w' x [x0, x1, x2, x3] ∧ Fleft w b v w' zs2 e2) := hraw
  have b0 := hby x0 (by simp)
  have b1 := hby x1 (by simp)
  have b2 := hby x2 (by simp)
  have b3 := hby x3 (by simp)
  have o1 : bits .or .u32 x0 (x1 * 256) = x0 + x1 * 256 := or32 x0 x1 8 (by decide) b0.1 (by simpa using b0.2) b1.1 b1.2
  obtain ⟨y1, hy1⟩ : ∃ y1, y1 = x0 + x1 * 256 := ⟨_, rfl⟩
  rw [← hy1] at o1
  have o2 : bits .or .u32 y1 (x2 * 65536) = y1 + x2 * 65536 := or32 y1 x2 16 (by decide) (by omega) (by simp; omega) b2.1 b2.2
  obtain ⟨y2, hy2⟩ : ∃ y2, y2 = y1 + x2 * 65536 := ⟨_, rfl⟩
  rw [← hy2] at o2
  have o3 : bits .or .u32 y2 (x3 * 16777216) = y2 + x3 * 16777216 := or32 y2 x3 24 (by decide) (by omega) (by simp; omega) b3.1 b3.2
  obtain ⟨y3, hy3⟩ : ∃ y3, y3 = y2 + x3 * 16777216 := ⟨_, rfl⟩
  rw [← hy3] at o3
  have HE : Hid (y3 = fourV [x0, x1, x2, x3]) := by
    have e : fourV [x0, x1, x2, x3] = x0 + 256 * x1 + 65536 * x2 + 16777216 * x3 := rfl
    show _ = _
    rw [e]; omega
  clear hraw hlen hby hy1 hy2 hy3
  go_enter Tryd.func77, Tryd.ntmps77
  go_wp2_with fail
  refine HR.out.mono ?_
  rintro r w1 ⟨x, rfl, hb, hl⟩
  rcases hb with ⟨h0, _⟩ | ⟨_, bb, off, cap, hx, h1, h2, hcell⟩
  · cases h0
  have hc0 : w1.cell? ⟨bb, off, none⟩ = some (.int .u8 x0) := by simpa using hcell 0 (by simp)
  have hc1 : w1.cell? ⟨bb, off + 1, none⟩ = some (.int .u8 x1) := by simpa using hcell 1 (by simp)
  have hc2 : w1.cell? ⟨bb, off + 2, none⟩ = some (.int .u8 x2) := by simpa using hcell 2 (by simp)
  have hc3 : w1.cell? ⟨bb, off + 3, none⟩ = some (.int .u8 x3) := by simpa using hcell 3 (by simp)
  have hx' : x = .slice (some ⟨bb, off, none⟩) 4 cap := hx
  rw [hx']
  clear hcell hx hx'
  go_wp2
  go_quiet (fail)
  go_wp2
  go_ret
  exact ⟨ret_int HE.out, hl.sm (Sm.drewN _ _)⟩
end Go.Proofs.YtahodgmdikaedaaDoor
end

section
/-
  The document's own records (gauntletref4), by contract: four, Encode, Decode.
-/
namespace Go.Proofs.YtahodgmdikaedaaDoor
open Go.RowKit

set_option maxHeartbeats 800000 in
theorem rfour4_any (sv : Value) (zs : List Int) (w : World) (hb : Bs w sv zs) (hy : Byt zs) (hl : 4 ≤ zs.length) :
    Calls Tryd.prog 65 #[sv] w fun e w' => e = .returned (.int .u32 (fourV (zs.take 4))) ∧ Below w.heap.size w w' := by
  have HR : Hid ((rowR [0, 0, 0, 0] zs 0).1 = zs.take 4) := rowR_four hl
  have B0 : Below w.heap.size w (w.alloc (.cells #[sv, .int .i64 0] 90)) := (Below.refl _ _).alloc (Nat.le_refl _) _
  have hr : Rf (w.alloc (.cells #[sv, .int .i64 0] 90)) w.heap.size sv zs 0 :=
    ⟨heap_alloc_new w _, hb.below B0 (Nat.le_refl _), fun e => by
      have := hb.lt (fun e0 => by rw [e0] at hl; simp at hl) _ e
      omega⟩
  obtain ⟨ao, cap, hsv, hm⟩ := hb.len
  subst hsv
  go_enter Tryd.func65, Tryd.ntmps65
  go_wp2_with fail
  refine (ffour_u w.heap.size _ zs 0 _ hr (Or.inl rfl) hy).mono ?_
  rintro e w2 ⟨rfl, hleft⟩
  have hB : Below w.heap.size w w2 := by
    obtain ⟨v', _, hst, _⟩ := hleft
    exact B0.trans (hst.below (Nat.le_refl _) (by have := hr.lt; omega))
  clear hleft
  rw [HR.out]
  go_wp2
  go_ret
  exact ⟨rfl, hB⟩

theorem Ow.grew {w w' : World} {base : Nat} {v : Value} {zs : List Int} {B : Nat} (h : Ow w base v zs) (hk : Below B w w') (hb : w.heap.size ≤ B) : Ow w' base v zs :=
  h.keep fun k _ hlt => hk.block k (by omega)
/-- An append into a row that is new from B on leaves all below B. -/
theorem grown_below {w w' : World} {row : Option Nat} {B : Nat} (h : w.grownBy w' row) (hB : B ≤ w.heap.size) (hr : ∀ k, row = some k → B ≤ k) : Below B w w' :=
  ⟨h.os, h.tape, h.output, h.size, fun k hk => h.block k (by omega) (fun e => by have := hr k e.symm; omega)⟩
theorem Ow.from {w : World} {base : Nat} {v : Value} {zs : List Int} (h : Ow w base v zs) : ∀ k, v.ownBlock = some k → base ≤ k := fun k hk => (World.ownsRow.lt h k hk).1

set_option maxHeartbeats 3200000 in
set_option maxRecDepth 20000 in
theorem renc_any (sv : Value) (zs : List Int) (w : World) (hb : Bs w sv zs) (hy : Byt zs) (hz : zs.length ≤ 65536) :
    Calls Tryd.prog 33 #[sv] w fun e w' => ∃ ao cap, e = .returned (.tuple #[.slice ao (recN zs).length cap, .int .i64 0]) ∧ Ow w' w.heap.size (.slice ao (recN zs).length cap) (recN zs) ∧ Below w.heap.size w w' := by
  obtain ⟨ao, cap, hsv, hm⟩ := hb.len
  subst hsv
  have hu : (zs.length : Int) % 4294967296 = zs.length := by omega
  go_enter Tryd.func33, Tryd.ntmps33
  go_wp2_with fail
  refine (refFour_any _ _).mono ?_
  rintro e w1 ⟨ao1, cap1, rfl, ho1, B1⟩
  have hyA := fourB_byt (zs.length : Int)
  have lA : Hid ((fourB (zs.length : Int)).length = 4) := rfl
  have HY : Hid (recN zs = fourB (zs.length : Int) ++ fourB (sumOf (fourB (zs.length : Int)) : Nat) ++ zs ++ fourB (sumOf (fourB (zs.length : Int) ++ fourB (sumOf (fourB (zs.length : Int)) : Nat) ++ zs) : Nat)) := rfl
  generalize fourB (zs.length : Int) = A at *
  go_wp2_with fail
  refine (refSum_any _ _ _ ho1.bs hyA).mono ?_
  rintro e w1 ⟨rfl, rfl⟩
  go_wp2_with fail
  refine (refFour_any _ _).mono ?_
  rintro e w2 ⟨ao2, cap2, rfl, ho2, B2⟩
  have hyB := fourB_byt ((sumOf A : Nat) : Int)
  have lB : Hid ((fourB ((sumOf A : Nat) : Int)).length = 4) := rfl
  generalize fourB ((sumOf A : Nat) : Int) = B at *
  have ho1' := ho1.grew B2 (Nat.le_refl _)
  have B12 : Below w.heap.size w w2 := B1.trans (B2.mono B1.size)
  go_wp2_with (at_builtin; refine wpList_append_bs _ rfl (.tmp 12) (.tmp 15) rfl w.heap.size _ A rfl ho1' _ B rfl ho2.bs (by rw [lA.out, lB.out]; decide) B12.size ?_)
  intro ao3 cap3 w3 ho3 hg3 hat3
  have B3 : Below w.heap.size w w3 := B12.trans (grown_below hg3 B12.size ho1'.from)
  have hb3 := hb.below B3 (Nat.le_refl _)
  have l3 : Hid ((A ++ B).length = 8) := by show _ = _; rw [List.length_append, lA.out, lB.out]
  rw [← List.length_append] at ho3
  rw [← List.length_append]
  have hy3 : Byt (A ++ B) := hyA.app hyB
  generalize A ++ B = C at *
  clear ho1 ho1' ho2 hg3 hat3 B1 B2 B12
  go_wp2_with (at_builtin; refine wpList_append_bs _ rfl (.tmp 17) (.tmp 18) rfl w.heap.size _ C rfl ho3 _ zs rfl hb3 (by rw [l3.out]; omega) B3.size ?_)
  intro ao4 cap4 w4 ho4 hg4 hat4
  have B4 : Below w.heap.size w w4 := B3.trans (grown_below hg4 B3.size ho3.from)
  have l4 : Hid ((C ++ zs).length ≤ 70000) := by show _ ≤ _; rw [List.length_append, l3.out]; omega
  rw [← List.length_append] at ho4
  rw [← List.length_append]
  have hy4 : Byt (C ++ zs) := hy3.app hy
  generalize C ++ zs = D at *
  clear ho3 hg4 hat4 B3 hb3
  go_wp2_with fail
  refine (refSum_any _ _ _ ho4.bs hy4).mono ?_
  rintro e w4 ⟨rfl, rfl⟩
  go_wp2_with fail
  refine (refFour_any _ _).mono ?_
  rintro e w5 ⟨ao5, cap5, rfl, ho5, B5⟩
  have lE : Hid ((fourB ((sumOf D : Nat) : Int)).length = 4) := rfl
  generalize fourB ((sumOf D : Nat) : Int) = E at *
  have ho4' := ho4.grew B5 (Nat.le_refl _)
  have B45 : Below w.heap.size w w5 := B4.trans (B5.mono B4.size)
  go_wp2_with (at_builtin; refine wpList_append_bs _ rfl (.tmp 20) (.tmp 23) rfl w.heap.size _ D rfl ho4' _ E rfl ho5.bs (by have := l4.out; rw [lE.out]; omega) B45.size ?_)
  intro ao6 cap6 w6 ho6 hg6 hat6
  have B6 : Below w.heap.size w w6 := B45.trans (grown_below hg6 B45.size ho4'.from)
  rw [← List.length_append] at ho6
  rw [← List.length_append]
  rw [← HY.out] at ho6 ⊢
  clear ho4 ho4' ho5 hg6 hat6 B4 B5 B45 HY
  go_wp2
  go_ret2
  exact ⟨ao6, cap6, rfl, ho6, B6⟩

/-- What Decode answers. -/
def DecPost (w : World) (zs : List Int) (e : Ending) (w' : World) : Prop := ∃ ao cap, e = .returned (.tuple #[.slice ao (decP zs).length cap, .int .i64 (decN zs), .int .i64 (decE zs)]) ∧ Ow w' w.heap.size (.slice ao (decP zs).length cap) (decP zs) ∧ Below w.heap.size w w'
theorem DecPost.bad {w w' : World} {zs : List Int} {er : Int} (h : decE zs = er) (h0 : er ≠ 0) (hB : Below w.heap.size w w') : DecPost w zs (.returned (.tuple #[.slice none 0 0, .int .i64 0, .int .i64 er])) w' := by
  subst h
  refine ⟨none, 0, ?_, ?_, hB⟩
  · rw [decP_bad h0, decN_bad h0]; rfl
  · rw [decP_bad h0]; exact World.ownsRow_nil _ _ _ _

set_option maxHeartbeats 6400000 in
set_option maxRecDepth 20000 in
theorem rdec_any (sv : Value) (zs : List Int) (w : World) (hb : Bs w sv zs) (hy : Byt zs) (hz : zs.length ≤ 100000000000000) :
    Calls Tryd.prog 54 #[sv] w (DecPost w zs) := by
  by_cases h8 : zs.length < 8
  · have HE : Hid (decE zs = 2) := by show _ = _; rw [decE_head (by rw [headE_short h8]; decide), headE_short h8]
    obtain ⟨ao, cap, hsv, hm⟩ := hb.len
    subst hsv
    go_enter Tryd.func54, Tryd.ntmps54
    go_wp2
    go_ret3
    exact DecPost.bad HE.out (by decide) (Below.refl _ _)
  rcases hb with ⟨h0, _⟩ | ⟨hne, b, off, cap, rfl, hc1, hc2, hcell⟩
  · rw [h0] at h8; exact absurd (by decide) h8
  have hb : Bs w (.slice (some ⟨b, off, none⟩) zs.length cap) zs := Or.inr ⟨hne, b, off, cap, rfl, hc1, hc2, hcell⟩
  clear hcell
  have hf : Bs w (.slice (some ⟨b, off, none⟩) 4 cap) (zs.take 4) := hb.front 4 (by omega)
  have hg : Bs w (.slice (some ⟨b, off + 4, none⟩) (zs.length - 4) (cap - 4)) (zs.drop 4) := hb.suffix 4 (by omega) hne
  have D1 : ∀ W : World, Below w.heap.size w W → Calls Tryd.prog 65 #[.slice (some ⟨b, off + 4, none⟩) (zs.length - 4) (cap - 4)] W fun e w' => e = .returned (.int .u32 (fourV ((zs.drop 4).take 4))) ∧ Below w.heap.size w w' :=
    fun W hW => (rfour4_any _ _ W (hg.below hW (Nat.le_refl _)) (hy.drop 4) (by simp; omega)).mono fun e w' ⟨h1, h2⟩ => ⟨h1, hW.trans (h2.mono hW.size)⟩
  have D2 : ∀ W : World, Below w.heap.size w W → Calls Tryd.prog 49 #[.slice (some ⟨b, off, none⟩) 4 cap] W fun e w' => e = .returned (.int .u32 (sumOf (zs.take 4) : Nat)) ∧ W = w' :=
    fun W hW => refSum_any _ _ W (hf.below hW (Nat.le_refl _)) (hy.take 4)
  have D3 : ∀ W : World, Below w.heap.size w W → Calls Tryd.prog 65 #[.slice (some ⟨b, off, none⟩) zs.length cap] W fun e w' => e = .returned (.int .u32 (fourV (zs.take 4))) ∧ Below w.heap.size w w' :=
    fun W hW => (rfour4_any _ _ W (hb.below hW (Nat.le_refl _)) hy (by omega)).mono fun e w' ⟨h1, h2⟩ => ⟨h1, hW.trans (h2.mono hW.size)⟩
  have B0 : Below w.heap.size w w := Below.refl _ _
  unfold maxLen at hc2
  have c4 : ¬ cap = 4 := by omega
  have l4 : (4 : Int) ≤ (zs.length : Int) := by omega
  have k4 : (4 : Int) ≤ (cap : Int) := by omega
  by_cases hv : ((sumOf (zs.take 4) : Nat) : Int) = fourV ((zs.drop 4).take 4)
  · have e1 : ∀ n : Nat, fourV (zs.take 4) = (n : Int) → ¬ 65536 < n → headE zs = 0 ∧ heldN zs = n := fun n h1 h2 => ⟨headE_good h8 hv (by omega), by unfold heldN; rw [h1]; exact Int.toNat_natCast n⟩
    have e2 : 65536 < fourV (zs.take 4) → decE zs = 5 := fun h => by rw [decE_head (by rw [headE_long h8 hv h]; decide), headE_long h8 hv h]
    have hr := fourV_range (zs.take 4) (hy.take 4)
    obtain ⟨n, hx1, hx2⟩ : ∃ n : Nat, fourV (zs.take 4) = (n : Int) ∧ n < 4294967296 := ⟨(fourV (zs.take 4)).toNat, by omega, by omega⟩
    rw [hx1] at D3
    rw [← hv] at D1
    by_cases hlong : 65536 < n
    · have HE : Hid (decE zs = 5) := e2 (by omega)
      generalize sumOf (zs.take 4) = s at *
      clear hv e1 e2 hr hx1 hf hg
      go_enter Tryd.func54, Tryd.ntmps54
      go_wp2_with fail
      go_region_held3 (fun w' => True) (trivial)
        (first
          | (go_at_call 65; refine (D1 _ (by exact B0.drew)).mono ?_; rintro e w2 ⟨rfl, hB2⟩)
          | (go_at_call 49; refine (D2 _ (by first | exact hB2 | exact B0.drew)).mono ?_; rintro e w3 ⟨rfl, rfl⟩))
      all_goals
        go_wp2_with fail
        refine (D3 _ hB2).mono ?_
        rintro e w4 ⟨rfl, hB4⟩
        go_wp2
        go_ret3
        exact DecPost.bad HE.out (by decide) hB4
    obtain ⟨hh, hn⟩ := e1 n hx1 hlong
    by_cases h12 : zs.length < 12 + n
    · have HE : Hid (decE zs = 2) := decE_short hh (by rw [hn]; exact h12)
      generalize sumOf (zs.take 4) = s at *
      clear hv e1 e2 hr hx1 hf hg hh hn
      go_enter Tryd.func54, Tryd.ntmps54
      go_wp2_with fail
      go_region_held3 (fun w' => True) (trivial)
        (first
          | (go_at_call 65; refine (D1 _ (by exact B0.drew)).mono ?_; rintro e w2 ⟨rfl, hB2⟩)
          | (go_at_call 49; refine (D2 _ (by first | exact hB2 | exact B0.drew)).mono ?_; rintro e w3 ⟨rfl, rfl⟩))
      all_goals
        go_wp2_with fail
        refine (D3 _ hB2).mono ?_
        rintro e w4 ⟨rfl, hB4⟩
        go_wp2
        go_ret3
        exact DecPost.bad HE.out (by decide) hB4
    obtain ⟨m, qm⟩ : ∃ m : Nat, m = 8 + n := ⟨_, rfl⟩
    have hf2 : Bs w (.slice (some ⟨b, off, none⟩) m cap) (zs.take m) := hb.front m (by omega)
    have hg2 : Bs w (.slice (some ⟨b, off + m, none⟩) (zs.length - m) (cap - m)) (zs.drop m) := hb.suffix m (by omega) hne
    have hk2 : Bs w (.slice (some ⟨b, off + 8, none⟩) (m - 8) (cap - 8)) ((zs.drop 8).take n) := by
      have := (hb.suffix 8 (by omega) hne).front n (by simp; omega)
      rw [show m - 8 = n by omega]; exact this
    have E1 : ∀ W : World, Below w.heap.size w W → Calls Tryd.prog 65 #[.slice (some ⟨b, off + m, none⟩) (zs.length - m) (cap - m)] W fun e w' => e = .returned (.int .u32 (fourV ((zs.drop m).take 4))) ∧ Below w.heap.size w w' :=
      fun W hW => (rfour4_any _ _ W (hg2.below hW (Nat.le_refl _)) (hy.drop m) (by simp; omega)).mono fun e w' ⟨h1, h2⟩ => ⟨h1, hW.trans (h2.mono hW.size)⟩
    have E2 : ∀ W : World, Below w.heap.size w W → Calls Tryd.prog 49 #[.slice (some ⟨b, off, none⟩) m cap] W fun e w' => e = .returned (.int .u32 (sumOf (zs.take m) : Nat)) ∧ W = w' :=
      fun W hW => refSum_any _ _ W (hf2.below hW (Nat.le_refl _)) (hy.take m)
    have lk : ((zs.drop 8).take n).length = n := by simp; omega
    have f1 : (0 : Int) ≤ (m : Int) := by omega
    have f2 : (m : Int) ≤ (cap : Int) := by omega
    have f3 : (m : Int) ≤ (zs.length : Int) := by omega
    have f6 : ¬ cap = m := by omega
    have f7 : ¬ cap = 8 := by omega
    have f8 : (8 : Int) ≤ (m : Int) := by omega
    have f9 : (8 : Int) ≤ (cap : Int) := by omega
    have q8 : IntKind.i64.wrap (8 + (n : Int)) = (m : Int) := by rw [IntKind.wrap_i64]; omega
    have hn2 : (n : Int) ≤ 65536 := by omega
    have hl2 : (12 : Int) + (n : Int) ≤ (zs.length : Int) := by omega
    by_cases hv2 : ((sumOf (zs.take m) : Nat) : Int) = fourV ((zs.drop m).take 4)
    · have g : decE zs = 0 := decE_good hh (by rw [hn]; exact h12) (by rw [hn, ← qm]; exact hv2)
      have HP : Hid (decP zs = (zs.drop 8).take n) := by show _ = _; rw [decP_good g, hn]
      have HN : Hid ((decN zs : Int) = 12 + (n : Int)) := by show _ = _; rw [decN_good g, hn]; omega
      have HE : Hid (decE zs = 0) := g
      have HPost : Hid (∀ w' ao cap, Ow w' w.heap.size (.slice ao n cap) ((zs.drop 8).take n) → Below w.heap.size w w' → DecPost w zs (.returned (.tuple #[.slice ao n cap, .int .i64 (12 + (n : Int)), .int .i64 0])) w') := by
        intro w' ao cap h1 h2
        refine ⟨ao, cap, ?_, ?_, h2⟩
        · rw [HP.out, HE.out, HN.out, lk]
        · rw [HP.out, lk]; exact h1
      rw [← hv2] at E1
      clear HP HN HE
      generalize (zs.drop 8).take n = ps at *
      generalize sumOf (zs.take 4) = s at *
      generalize sumOf (zs.take m) = s2 at *
      clear hv hv2 e1 e2 hr hx1 hf hg hh hn hf2 hg2 g
      have HL : Hid (ps.length = n) := lk
      have HQ : Hid (m = 8 + n) := qm
      clear lk qm
      go_enter Tryd.func54, Tryd.ntmps54
      go_wp2_with fail
      go_region_held3 (fun w' => True) (trivial)
        (first
          | (go_at_call 65; refine (D1 _ (by exact B0.drew)).mono ?_; rintro e w2 ⟨rfl, hB2⟩)
          | (go_at_call 49; refine (D2 _ (by first | exact hB2 | exact B0.drew)).mono ?_; rintro e w3 ⟨rfl, rfl⟩))
      all_goals
        go_wp2_with fail
        refine (D3 _ hB2).mono ?_
        rintro e w4 ⟨rfl, hB4⟩
        go_wp2_with fail
        go_region_held3 (fun w' => True) (trivial)
          (first
            | (go_at_call 65; refine (E1 _ (by exact hB4.drew)).mono ?_; rintro e w5 ⟨rfl, hB5⟩)
            | (go_at_call 49; refine (E2 _ (by first | exact hB5 | exact hB4.drew)).mono ?_; rintro e w6 ⟨rfl, rfl⟩))
        all_goals
          have hk5 := hk2.below (hB5.alloc hB5.size (.cells #[] 5)) (Nat.le_refl _)
          have ho5 : Ow (w5.alloc (.cells #[] 5)) w5.heap.size (.slice (some ⟨w5.heap.size, 0, none⟩) 0 0) [] := Ow_of_block (heap_alloc_new w5 _) (by simp) (Nat.le_refl _)
          go_wp2_with (at_builtin; refine wpList_append_bs _ rfl (.tmp 37) (.tmp 41) rfl w5.heap.size _ [] rfl ho5 _ ps rfl hk5 (by rw [HL.out]; simp; omega) (by simp) ?_)
          intro ao6 cap6 w6 ho6 hg6 hat6
          have B6 : Below w.heap.size w w6 := (hB5.alloc hB5.size _).trans (grown_below hg6 (by have := hB5.size; simp; omega) (fun k hk => by have := ho5.from k hk; have := hB5.size; omega))
          have ho6' : Ow w6 w.heap.size (.slice ao6 n cap6) ps := by
            have h1 := ho6.mono hB5.size
            rw [HL.out] at h1
            exact h1
          rw [HL.out]
          clear ho6 hg6 hat6 ho5 hk5
          go_wp2
          go_ret3
          exact HPost.out _ _ _ ho6' B6
    · have HE : Hid (decE zs = 4) := decE_sum hh (by rw [hn]; exact h12) (by rw [hn, ← qm]; exact hv2)
      generalize sumOf (zs.take 4) = s at *
      generalize sumOf (zs.take m) = s2 at *
      generalize fourV ((zs.drop m).take 4) = x2 at *
      have hv2' : ¬ x2 = (s2 : Int) := fun e => hv2 e.symm
      clear hv hv2 e1 e2 hr hx1 hf hg hh hn hf2 hg2 hk2 lk qm
      go_enter Tryd.func54, Tryd.ntmps54
      go_wp2_with fail
      go_region_held3 (fun w' => True) (trivial)
        (first
          | (go_at_call 65; refine (D1 _ (by exact B0.drew)).mono ?_; rintro e w2 ⟨rfl, hB2⟩)
          | (go_at_call 49; refine (D2 _ (by first | exact hB2 | exact B0.drew)).mono ?_; rintro e w3 ⟨rfl, rfl⟩))
      all_goals
        go_wp2_with fail
        refine (D3 _ hB2).mono ?_
        rintro e w4 ⟨rfl, hB4⟩
        go_wp2_with fail
        go_region_held3 (fun w' => True) (trivial)
          (first
            | (go_at_call 65; refine (E1 _ (by exact hB4.drew)).mono ?_; rintro e w5 ⟨rfl, hB5⟩)
            | (go_at_call 49; refine (E2 _ (by first | exact hB5 | exact hB4.drew)).mono ?_; rintro e w6 ⟨rfl, rfl⟩))
        all_goals
          go_wp2
          go_ret3
          exact DecPost.bad HE.out (by decide) hB5
  · have HE : Hid (decE zs = 4) := by show _ = _; rw [decE_head (by rw [headE_sum h8 hv]; decide), headE_sum h8 hv]
    generalize fourV ((zs.drop 4).take 4) = x at *
    generalize sumOf (zs.take 4) = s at *
    have hv' : ¬ x = (s : Int) := fun e => hv e.symm
    clear hv D3 hf hg
    go_enter Tryd.func54, Tryd.ntmps54
    go_wp2_with fail
    go_region_held3 (fun w' => True) (trivial)
      (first
        | (go_at_call 65; refine (D1 _ (by exact B0.drew)).mono ?_; rintro e w2 ⟨rfl, hB2⟩)
        | (go_at_call 49; refine (D2 _ (by first | exact hB2 | exact B0.drew)).mono ?_; rintro e w3 ⟨rfl, rfl⟩))
    all_goals
      go_wp2
      go_ret3
      exact DecPost.bad HE.out (by decide) hB2
end Go.Proofs.YtahodgmdikaedaaDoor
end
