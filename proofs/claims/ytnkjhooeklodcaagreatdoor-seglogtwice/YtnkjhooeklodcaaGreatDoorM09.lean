/-
  Joined from: FrFrameP, FrFrameE, FrFrameEb.
-/
import Derived.Test.YtnkjhooeklodcaaGreatDoorM06
import Derived.Deep.RegionHeld3
import Derived.OwnWalk
section
/-
  frame's own functions, by contract: four, vouched, heldBytes, Decode.
-/
namespace Go.Proofs.YtnkjhooeklodcaaGreatDoor.Fr
open Go.RowKit

theorem rowR_four {zs : List Int} (h : 4 ≤ zs.length) : (rowR [0, 0, 0, 0] zs 0).1 = zs.take 4 := by
  rw [rowR_yes (by simpa using h)]; rfl

set_option maxHeartbeats 800000 in
theorem four_any (sv : Value) (zs : List Int) (w : World) (hb : Bs w sv zs) (hy : Byt zs) (hl : 4 ≤ zs.length) (hz : zs.length ≤ 100000000000000) :
    Calls Tryz.prog 179 #[sv] w fun e w' => e = .returned (.int .u32 (fourV (zs.take 4))) ∧ Below w.heap.size w w' := by
  have HR : Hid ((rowR [0, 0, 0, 0] zs 0).1 = zs.take 4) := rowR_four hl
  go_enter Tryz.func179, Tryz.ntmps179
  go_wp2_with fail
  refine (newReader_any sv zs _ hb hz).mono ?_
  rintro e w1 ⟨b, v, rfl, hr, hbel, hbs, hvs⟩
  have hv : ∀ k, v.ownBlock = some k → k < w1.heap.size := hr.2.1.lt (fun e => by rw [e] at hl; simp at hl)
  go_wp2_with fail
  refine (rfour_any b v zs 0 _ hr hy hv).mono ?_
  rintro e w2 ⟨rfl, hleft⟩
  have hB : Below w.heap.size w w2 := by
    obtain ⟨v', _, hst, _⟩ := hleft
    exact hbel.trans (hst.below hbs (by have := hr.lt; omega))
  clear hleft
  rw [HR.out]
  go_wp2
  go_ret
  exact ⟨rfl, hB⟩

def vouchB (xa xb : List Int) : Bool := ((sumOf xa : Nat) : Int) == fourV (xb.take 4)

set_option maxHeartbeats 800000 in
theorem vouched_any (va vb : Value) (xa xb : List Int) (w : World) (ha : Bs w va xa) (hb : Bs w vb xb) (hya : Byt xa) (hyb : Byt xb) (hl : 4 ≤ xb.length) (hz : xb.length ≤ 100000000000000) (ht : Tab w) :
    Calls Tryz.prog 156 #[va, vb] w fun e w' => e = .returned (.bool (vouchB xa xb)) ∧ Below w.heap.size w w' := by
  go_enter Tryz.func156, Tryz.ntmps156
  go_wp2_with fail
  refine (sum_any va xa _ ha hya ht).mono ?_
  rintro e w1 ⟨rfl, rfl⟩
  go_wp2_with fail
  refine (four_any vb xb _ hb hyb hl hz).mono ?_
  rintro e w2 ⟨rfl, hB⟩
  go_wp2
  go_ret
  exact ⟨rfl, hB⟩

def heldV (zs : List Int) : Nat := if headE zs = 0 then heldN zs else 0

set_option maxHeartbeats 1600000 in
theorem held_any (sv : Value) (zs : List Int) (w : World) (hb : Bs w sv zs) (hy : Byt zs) (hz : zs.length ≤ 100000000000000) (ht : Tab w) :
    Calls Tryz.prog 155 #[sv] w fun e w' => e = .returned (.tuple #[.int .i64 (heldV zs), .int .i64 (headE zs)]) ∧ Below w.heap.size w w' := by
  by_cases h8 : zs.length < 8
  · have e1 : headE zs = 2 := headE_short h8
    have e2 : heldV zs = 0 := by unfold heldV; rw [e1]; rfl
    rw [e1, e2]
    obtain ⟨ao, cap, hsv, hm⟩ := hb.len
    subst hsv
    go_enter Tryz.func155, Tryz.ntmps155
    go_wp2
    go_ret2
    exact ⟨rfl, Below.refl _ _⟩
  rcases hb with ⟨h0, _⟩ | ⟨hne, b, off, cap, rfl, hc1, hc2, hcell⟩
  · rw [h0] at h8; exact absurd (by decide) h8
  have hb : Bs w (.slice (some ⟨b, off, none⟩) zs.length cap) zs := Or.inr ⟨hne, b, off, cap, rfl, hc1, hc2, hcell⟩
  clear hcell
  have hf : Bs w (.slice (some ⟨b, off, none⟩) 4 cap) (zs.take 4) := hb.front 4 (by omega)
  have hg : Bs w (.slice (some ⟨b, off + 4, none⟩) 4 (cap - 4)) ((zs.drop 4).take 4) := (hb.suffix 4 (by omega) hne).front 4 (by simp; omega)
  have yf := hy.take 4
  have yg := (hy.drop 4).take 4
  have lf : (zs.take 4).length = 4 := by simp; omega
  have lg : ((zs.drop 4).take 4).length = 4 := by simp; omega
  have tg : ((zs.drop 4).take 4).take 4 = (zs.drop 4).take 4 := List.take_of_length_le (by omega)
  have tf : (zs.take 4).take 4 = zs.take 4 := List.take_of_length_le (by omega)
  have C1 := vouched_any _ _ _ _ w hf hg yf yg (by omega) (by omega) ht
  have HV : Hid (vouchB (zs.take 4) ((zs.drop 4).take 4) = decide (((sumOf (zs.take 4) : Nat) : Int) = fourV ((zs.drop 4).take 4))) := by
    show _ = _
    unfold vouchB; rw [tg]; rfl
  unfold maxLen at hc2
  have hr := fourV_range (zs.take 4) yf
  by_cases hv : ((sumOf (zs.take 4) : Nat) : Int) = fourV ((zs.drop 4).take 4)
  · have hv1 : vouchB (zs.take 4) ((zs.drop 4).take 4) = true := by rw [HV.out]; exact decide_eq_true hv
    rw [hv1] at C1
    have HF : ∀ w1 : World, Below w.heap.size w w1 → Bs w1 (.slice (some ⟨b, off, none⟩) 4 cap) (zs.take 4) := fun w1 h => hf.below h (Nat.le_refl _)
    have hx : ∃ x : Nat, fourV (zs.take 4) = (x : Int) ∧ x < 4294967296 := ⟨(fourV (zs.take 4)).toNat, by omega, by omega⟩
    obtain ⟨x, hx1, hx2⟩ := hx
    have hxn : heldN zs = x := by unfold heldN; rw [hx1]; exact Int.toNat_natCast x
    by_cases h3 : 65536 < x
    · have e1 : headE zs = 5 := headE_long h8 hv (by omega)
      have e2 : heldV zs = 0 := by unfold heldV; rw [e1]; rfl
      rw [e1, e2]
      have HX : Hid (fourV ((zs.take 4).take 4) = (x : Int)) := by show _ = _; rw [tf]; exact hx1
      clear hv hv1 HV hr tg lg yg hf hg e1 e2 hxn tf hx1
      go_enter Tryz.func155, Tryz.ntmps155
      go_wp2_with fail
      refine C1.mono ?_
      rintro e w1 ⟨rfl, hB⟩
      go_wp2_with fail
      refine (four_any _ _ w1 (HF w1 hB) yf (by omega) (by omega)).mono ?_
      rintro e w2 ⟨rfl, hB2⟩
      rw [HX.out]
      go_wp2
      go_ret2
      exact ⟨rfl, hB.trans (hB2.mono hB.size)⟩
    · have e1 : headE zs = 0 := headE_good h8 hv (by omega)
      have e2 : heldV zs = x := by unfold heldV; rw [e1, hxn]; rfl
      rw [e1, e2]
      have HX : Hid (fourV ((zs.take 4).take 4) = (x : Int)) := by show _ = _; rw [tf]; exact hx1
      clear hv hv1 HV hr tg lg yg hf hg e1 e2 hxn tf hx1
      go_enter Tryz.func155, Tryz.ntmps155
      go_wp2_with fail
      refine C1.mono ?_
      rintro e w1 ⟨rfl, hB⟩
      go_wp2_with fail
      refine (four_any _ _ w1 (HF w1 hB) yf (by omega) (by omega)).mono ?_
      rintro e w2 ⟨rfl, hB2⟩
      rw [HX.out]
      go_wp2
      go_ret2
      exact ⟨rfl, hB.trans (hB2.mono hB.size)⟩
  · have e1 : headE zs = 4 := headE_sum h8 hv
    have e2 : heldV zs = 0 := by unfold heldV; rw [e1]; rfl
    have hv1 : vouchB (zs.take 4) ((zs.drop 4).take 4) = false := by rw [HV.out]; exact decide_eq_false hv
    rw [e1, e2]
    rw [hv1] at C1
    clear hv hv1 HV hr tf tg lf lg yf yg hf hg e1 e2
    go_enter Tryz.func155, Tryz.ntmps155
    go_wp2_with fail
    refine C1.mono ?_
    rintro e w1 ⟨rfl, hB⟩
    go_wp2
    go_ret2
    exact ⟨rfl, hB⟩

set_option maxHeartbeats 3200000 in
set_option maxRecDepth 20000 in
theorem dec_any (sv : Value) (zs : List Int) (w : World) (hb : Bs w sv zs) (hy : Byt zs) (hz : zs.length ≤ 100000000000000) (ht : Tab w) :
    Calls Tryz.prog 126 #[sv] w fun e w' => ∃ ao cap, e = .returned (.tuple #[.slice ao (decP zs).length cap, .int .i64 (decN zs), .int .i64 (decE zs)]) ∧ Ow w' w.heap.size (.slice ao (decP zs).length cap) (decP zs) ∧ Below w.heap.size w w' := by
  have C1 := held_any sv zs w hb hy hz ht
  obtain ⟨ao, cap, hsv, hm⟩ := hb.len
  subst hsv
  have nilO : ∀ w' : World, Ow w' w.heap.size (.slice none ([] : List Int).length 0) [] := fun w' => World.ownsRow_nil _ _ _ _
  by_cases hh : headE zs = 0
  · have hv0 : heldV zs = heldN zs := if_pos hh
    have hn := heldN_le hh
    have h8 := (headE_inv hh).1
    rw [hh, hv0] at C1
    by_cases h12 : zs.length < 12 + heldN zs
    · have e1 : decE zs = 2 := decE_short hh h12
      have e2 : decP zs = [] := decP_bad (by rw [e1]; decide)
      have e3 : decN zs = 0 := decN_bad (by rw [e1]; decide)
      rw [e1, e2, e3]
      generalize heldN zs = n at *
      clear e1 e2 e3 hh
      go_enter Tryz.func126, Tryz.ntmps126
      go_wp2_with fail
      refine C1.mono ?_
      rintro e w1 ⟨rfl, hB⟩
      go_wp2
      go_ret3
      exact ⟨_, _, rfl, nilO _, hB⟩
    · rcases hb with ⟨h0, _⟩ | ⟨hne, b, off, cap2, hsv2, hc1, hc2, hcell⟩
      · rw [h0] at h8; exact absurd h8 (by decide)
      simp only [Value.slice.injEq] at hsv2
      obtain ⟨rfl, _, rfl⟩ := hsv2
      have hb : Bs w (.slice (some ⟨b, off, none⟩) zs.length cap) zs := Or.inr ⟨hne, b, off, cap, rfl, hc1, hc2, hcell⟩
      clear hcell
      have hf : Bs w (.slice (some ⟨b, off, none⟩) (8 + heldN zs) cap) (zs.take (8 + heldN zs)) := hb.front _ (by omega)
      have hg : Bs w (.slice (some ⟨b, off + (8 + heldN zs), none⟩) 4 (cap - (8 + heldN zs))) ((zs.drop (8 + heldN zs)).take 4) := (hb.suffix _ (by omega) hne).front 4 (by simp; omega)
      have hk : Bs w (.slice (some ⟨b, off + 8, none⟩) (heldN zs) (cap - 8)) ((zs.drop 8).take (heldN zs)) := (hb.suffix 8 (by omega) hne).front _ (by simp; omega)
      have yf := hy.take (8 + heldN zs)
      have yg := (hy.drop (8 + heldN zs)).take 4
      have lg : ((zs.drop (8 + heldN zs)).take 4).length = 4 := by simp; omega
      have lk : ((zs.drop 8).take (heldN zs)).length = heldN zs := by simp; omega
      have tg : ((zs.drop (8 + heldN zs)).take 4).take 4 = (zs.drop (8 + heldN zs)).take 4 := List.take_of_length_le (by omega)
      have C2 : ∀ w1 : World, Below w.heap.size w w1 → Calls Tryz.prog 156 #[.slice (some ⟨b, off, none⟩) (8 + heldN zs) cap, .slice (some ⟨b, off + (8 + heldN zs), none⟩) 4 (cap - (8 + heldN zs))] w1 fun e w' => e = .returned (.bool (vouchB (zs.take (8 + heldN zs)) ((zs.drop (8 + heldN zs)).take 4))) ∧ Below w1.heap.size w1 w' :=
        fun w1 h1 => vouched_any _ _ _ _ w1 (hf.below h1 (Nat.le_refl _)) (hg.below h1 (Nat.le_refl _)) yf yg (by omega) (by omega) (ht.below h1 ht.lt)
      unfold maxLen at hc2
      by_cases hv : ((sumOf (zs.take (8 + heldN zs)) : Nat) : Int) = fourV ((zs.drop (8 + heldN zs)).take 4)
      · have hv1 : vouchB (zs.take (8 + heldN zs)) ((zs.drop (8 + heldN zs)).take 4) = true := by unfold vouchB; rw [tg]; simpa using hv
        have e1 : decE zs = 0 := decE_good hh h12 hv
        have C3 : ∀ w1 : World, Below w.heap.size w w1 → Calls Tryz.prog 50 #[.slice (some ⟨b, off + 8, none⟩) (heldN zs) (cap - 8)] w1 fun e w' => ∃ ao cap, e = .returned (.slice ao ((zs.drop 8).take (heldN zs)).length cap) ∧ Ow w' w1.heap.size (.slice ao ((zs.drop 8).take (heldN zs)).length cap) ((zs.drop 8).take (heldN zs)) ∧ Below w1.heap.size w1 w' :=
          fun w1 h1 => clone_any _ _ w1 (hk.below h1 (Nat.le_refl _)) (by omega)
        rw [e1, decP_good e1, decN_good e1]
        rw [hv1] at C2
        generalize (zs.drop 8).take (heldN zs) = ps at *
        generalize heldN zs = n at *
        clear e1 hh hv hv1 tg lg yf yg hf hg hk hv0
        go_enter Tryz.func126, Tryz.ntmps126
        go_wp2_with fail
        refine C1.mono ?_
        rintro e w1 ⟨rfl, hB⟩
        go_wp2_with fail
        obtain ⟨m, qm⟩ : ∃ m : Nat, m = 8 + n := ⟨_, rfl⟩
        obtain ⟨m4, qm4⟩ : ∃ m4 : Nat, m4 = 12 + n := ⟨_, rfl⟩
        rw [show (8 : Int) + (n : Int) + 4 = (m4 : Int) by omega, show (8 : Int) + (n : Int) = (m : Int) by omega]
        have f1 : (0 : Int) ≤ (m : Int) := by omega
        have f2 : (m : Int) ≤ (cap : Int) := by omega
        have f3 : (0 : Int) ≤ (m4 : Int) := by omega
        have f4 : (m4 : Int) ≤ (cap : Int) := by omega
        have f5 : (m : Int) ≤ (m4 : Int) := by omega
        have f6 : ¬ cap = m := by omega
        have f7 : m ≤ m4 := by omega
        have f8 : m4 - m = 4 := by omega
        have D2 : Calls Tryz.prog 156 #[.slice (some ⟨b, off, none⟩) m cap, .slice (some ⟨b, off + m, none⟩) 4 (cap - m)] w1.drew fun e w' => e = .returned (.bool true) ∧ Below w1.heap.size w1 w' := by
          rw [qm]; exact (C2 w1.drew hB.drew).mono fun e w' ⟨h1, h2⟩ => ⟨h1, ⟨h2.os, h2.tape, h2.output, h2.size, h2.block⟩⟩
        have f9 : ¬ cap = 8 := by omega
        have g1 : (8 : Int) ≤ (m : Int) := by omega
        have g2 : (8 : Int) ≤ (cap : Int) := by omega
        have D3 : ∀ w2 : World, Below w1.heap.size w1 w2 → Calls Tryz.prog 50 #[.slice (some ⟨b, off + 8, none⟩) (m - 8) (cap - 8)] w2 fun e w' => ∃ ao cap, e = .returned (.slice ao ps.length cap) ∧ Ow w' w2.heap.size (.slice ao ps.length cap) ps ∧ Below w2.heap.size w2 w' := by
          intro w2 h2; rw [show m - 8 = n by omega]; exact C3 w2 (hB.trans (h2.mono hB.size))
        have H2 : Hid ((m4 : Int) = ((12 + n : Nat) : Int)) := by show _ = _; omega
        clear qm qm4 C2 C3 h12 lk hn
        go_region_held3 (fun w' => True) (trivial)
          (first
            | (go_at_call 156; refine D2.mono ?_; rintro e w2 ⟨rfl, hB2⟩))
        have hB2' : Below w.heap.size w w2 := hB.trans (hB2.mono hB.size)
        go_wp2_with fail
        refine (D3 w2 hB2).mono ?_
        rintro e w3 ⟨ao3, cap3, rfl, ho3, hB3⟩
        go_wp2
        go_ret3
        exact ⟨ao3, cap3, by rw [← H2.out]; rfl, ho3.mono hB2'.size, hB2'.trans (hB3.mono hB2'.size)⟩
      · have hv1 : vouchB (zs.take (8 + heldN zs)) ((zs.drop (8 + heldN zs)).take 4) = false := by unfold vouchB; rw [tg]; simpa using hv
        have e1 : decE zs = 4 := decE_sum hh h12 hv
        rw [e1, decP_bad (by rw [e1]; decide), decN_bad (by rw [e1]; decide)]
        rw [hv1] at C2
        generalize heldN zs = n at *
        clear e1 hh hv hv1 tg lg yf yg hf hg hk hv0
        go_enter Tryz.func126, Tryz.ntmps126
        go_wp2_with fail
        refine C1.mono ?_
        rintro e w1 ⟨rfl, hB⟩
        go_wp2_with fail
        obtain ⟨m, qm⟩ : ∃ m : Nat, m = 8 + n := ⟨_, rfl⟩
        obtain ⟨m4, qm4⟩ : ∃ m4 : Nat, m4 = 12 + n := ⟨_, rfl⟩
        rw [show (8 : Int) + (n : Int) + 4 = (m4 : Int) by omega, show (8 : Int) + (n : Int) = (m : Int) by omega]
        have f1 : (0 : Int) ≤ (m : Int) := by omega
        have f2 : (m : Int) ≤ (cap : Int) := by omega
        have f3 : (0 : Int) ≤ (m4 : Int) := by omega
        have f4 : (m4 : Int) ≤ (cap : Int) := by omega
        have f5 : (m : Int) ≤ (m4 : Int) := by omega
        have f6 : ¬ cap = m := by omega
        have f7 : m ≤ m4 := by omega
        have f8 : m4 - m = 4 := by omega
        have D2 : Calls Tryz.prog 156 #[.slice (some ⟨b, off, none⟩) m cap, .slice (some ⟨b, off + m, none⟩) 4 (cap - m)] w1.drew fun e w' => e = .returned (.bool false) ∧ Below w1.heap.size w1 w' := by
          rw [qm]; exact (C2 w1.drew hB.drew).mono fun e w' ⟨h1, h2⟩ => ⟨h1, ⟨h2.os, h2.tape, h2.output, h2.size, h2.block⟩⟩
        clear qm qm4 C2 h12 lk hn
        go_region_held3 (fun w' => True) (trivial)
          (first
            | (go_at_call 156; refine D2.mono ?_; rintro e w2 ⟨rfl, hB2⟩))
        have hB2' : Below w.heap.size w w2 := hB.trans (hB2.mono hB.size)
        go_wp2
        go_ret3
        exact ⟨_, _, rfl, nilO _, hB2'⟩
  · have e1 : decE zs = headE zs := decE_head hh
    have e2 : decP zs = [] := decP_bad (by rw [e1]; exact hh)
    have e3 : decN zs = 0 := decN_bad (by rw [e1]; exact hh)
    have e4 : heldV zs = 0 := if_neg hh
    rw [e1, e2, e3]
    rw [e4] at C1
    generalize headE zs = er at *
    clear e1 e2 e3 e4
    go_enter Tryz.func126, Tryz.ntmps126
    go_wp2_with fail
    refine C1.mono ?_
    rintro e w1 ⟨rfl, hB⟩
    go_wp2
    go_ret3
    exact ⟨_, _, rfl, nilO _, hB⟩
end Go.Proofs.YtnkjhooeklodcaaGreatDoor.Fr
end

section
/-
  frame.Encode, by contract: the record of bytes, in new memory.
-/
namespace Go.Proofs.YtnkjhooeklodcaaGreatDoor.Fr
open Go.RowKit

set_option maxHeartbeats 800000 in
theorem layLength_w (b : Nat) (v : Value) (xs : List Int) (sv : Value) (zs : List Int) (w : World) (hw : Wr w b v xs) (hb : Bs w sv zs) (hn : xs.length ≤ 500000000000) (hz : zs.length ≤ 65536) :
    Calls Tryz.prog 104 #[.func (.func 105) #[.pointer (some ⟨b, 0, none⟩)] #[], sv] w fun e w' => e = .returned (.tuple #[]) ∧ ∃ v', Wr w' b v' (xs ++ fourB (zs.length : Int)) ∧ Wstep b w v w' v' := by
  obtain ⟨ao, cap, hsv, hm⟩ := hb.len
  subst hsv
  have C := four_w b v xs (zs.length : Int) w hw hn
  have hu : (zs.length : Int) % 4294967296 = zs.length := by omega
  go_enter Tryz.func104, Tryz.ntmps104
  go_wp2_with fail
  refine C.mono ?_
  rintro e w1 ⟨rfl, v', hw', hs'⟩
  go_wp2
  go_end0
  exact ⟨rfl, v', hw', hs'⟩

set_option maxHeartbeats 800000 in
theorem laySum_w (b : Nat) (v : Value) (xs : List Int) (sv : Value) (zs : List Int) (w : World) (hw : Wr w b v xs) (hb : Bs w sv zs) (hy : Byt zs) (ht : Tab w) (hn : xs.length ≤ 500000000000) :
    Calls Tryz.prog 106 #[.func (.func 105) #[.pointer (some ⟨b, 0, none⟩)] #[], sv] w fun e w' => e = .returned (.tuple #[]) ∧ ∃ v', Wr w' b v' (xs ++ fourB (sumOf zs : Nat)) ∧ Wstep b w v w' v' := by
  go_enter Tryz.func106, Tryz.ntmps106
  go_wp2_with fail
  refine (sum_any sv zs _ hb hy ht).mono ?_
  rintro e w1 ⟨rfl, rfl⟩
  go_wp2_with fail
  refine (four_w b v xs _ _ hw hn).mono ?_
  rintro e w1 ⟨rfl, v', hw', hs'⟩
  go_wp2
  go_end0
  exact ⟨rfl, v', hw', hs'⟩

set_option maxHeartbeats 800000 in
theorem layHeld_w (b : Nat) (v : Value) (xs : List Int) (sv : Value) (zs : List Int) (w : World) (hw : Wr w b v xs) (hb : Bs w sv zs) (hsep : ∀ k, sv.ownBlock = some k → k ≠ b ∧ some k ≠ v.ownBlock)
    (hn : xs.length ≤ 500000000000) (hz : zs.length ≤ 400000000000) :
    Calls Tryz.prog 107 #[.func (.func 103) #[.pointer (some ⟨b, 0, none⟩)] #[], sv] w fun e w' => e = .returned (.tuple #[]) ∧ ∃ v', Wr w' b v' (xs ++ zs) ∧ Wstep b w v w' v' := by
  obtain ⟨ao, cap, hsv, hm⟩ := hb.len
  subst hsv
  go_enter Tryz.func107, Tryz.ntmps107
  go_wp2
  go_loopw [8] (fun i wr => ∃ (k : Nat) (v1 : Value), k ≤ zs.length ∧ i = .int .i64 k ∧ Wr wr b v1 (xs ++ zs.take k) ∧ Wstep b w v wr v1) (fun i _ => zs.length - (intOf i).toNat)
  case atStart => exact ⟨0, v, Nat.zero_le _, rfl, by simpa using hw, Wstep.refl _ _ _⟩
  case round =>
    obtain ⟨k, v1, hk, rfl, hw1, hs1⟩ := hrel
    by_cases hlt : k < zs.length
    · have hb1 := hb.step hs1 hsep
      rcases hb1 with ⟨h0, _⟩ | ⟨_, b2, off, cap2, he, hc1, hc2, hcell⟩
      · subst h0; simp at hlt
      · simp only [Value.slice.injEq] at he
        obtain ⟨rfl, _, rfl⟩ := he
        have hck := hcell k hlt
        clear hcell
        have hl2 : (xs ++ zs.take k).length ≤ 1000000000000 := by simp; omega
        go_wp2_with (go_at_call 103; refine (byte_w b v1 _ _ _ hw1 hl2).mono ?_; rintro e w' ⟨rfl, v2, hw2, hs2⟩)
        go_roundw
        case rel => exact ⟨k + 1, v2, by omega, by go_num, by simpa using hw2, hs1.trans hs2⟩
        case measure => simp [intOf]; omega
    · have hke : zs.take k = zs := List.take_of_length_le (by omega)
      go_wp2
      go_end0
      rw [hke] at hw1
      exact ⟨rfl, v1, hw1, hs1⟩


theorem Wr.keepB {w w' : World} {b : Nat} {v : Value} {xs : List Int} (h : Wr w b v xs) (hb : Below w.heap.size w w') : Wr w' b v xs :=
  ⟨by rw [hb.block b h.lt]; exact h.1, h.2.keep fun k _ hk => hb.block k hk⟩

set_option maxHeartbeats 3200000 in
set_option maxRecDepth 20000 in
theorem enc_any (sv : Value) (zs : List Int) (w : World) (hb : Bs w sv zs) (hy : Byt zs) (hz : zs.length ≤ 65536) (ht : Tab w) (hsl : ∀ k, sv.ownBlock = some k → k < w.heap.size) :
    Calls Tryz.prog 80 #[sv] w fun e w' => ∃ ao cap, e = .returned (.tuple #[.slice ao (recN zs).length cap, .int .i64 0]) ∧ Ow w' w.heap.size (.slice ao (recN zs).length cap) (recN zs) ∧ Below w.heap.size w w' := by
  have hw0 := Wr_new w
  have B0 : Below w.heap.size w (w.alloc (.cells #[.slice none 0 0] 132)) := (Below.refl _ _).alloc (Nat.le_refl _) _
  have hsep : ∀ (v : Value) (W : World) (xs : List Int), Wr W w.heap.size v xs → ∀ k, sv.ownBlock = some k → k ≠ w.heap.size ∧ some k ≠ v.ownBlock := by
    intro v W xs hW k hk
    have := hsl k hk
    refine ⟨by omega, fun e => ?_⟩
    have := World.ownsRow.lt hW.2 k e.symm
    omega
  obtain ⟨ao, cap, hsv, hm⟩ := hb.len
  subst hsv
  have HSEP : Hid (∀ (v : Value) (W : World) (xs : List Int), Wr W w.heap.size v xs → ∀ k, (Value.slice ao zs.length cap).ownBlock = some k → k ≠ w.heap.size ∧ some k ≠ v.ownBlock) := hsep
  clear hsep
  go_enter Tryz.func80, Tryz.ntmps80
  go_wp2_with fail
  refine (layLength_w w.heap.size _ [] _ zs _ hw0 (hb.below B0 (Nat.le_refl _)) (by decide) hz).mono ?_
  rintro e w1 ⟨rfl, v1, hw1, hs1⟩
  have B1 : Below w.heap.size w w1 := B0.trans (hw0.below hs1 (Nat.le_refl _))
  rw [List.nil_append] at hw1
  go_wp2_with fail
  refine (out_w w.heap.size v1 _ _ hw1 (by rw [fourB_len]; decide)).mono ?_
  rintro e w2 ⟨ao2, cap2, rfl, ho2, hb2⟩
  have hw2 := hw1.keepB hb2
  have B2 : Below w.heap.size w w2 := B1.trans (hb2.mono B1.size)
  go_wp2_with fail
  refine (laySum_w w.heap.size v1 _ _ _ _ hw2 ho2.bs (fourB_byt _) (ht.below B2 ht.lt) (by rw [fourB_len]; decide)).mono ?_
  rintro e w3 ⟨rfl, v3, hw3, hs3⟩
  have B3 : Below w.heap.size w w3 := B2.trans (hw2.below hs3 (Nat.le_refl _))
  have hw3' : Wr w3 w.heap.size v3 (headN zs.length) := hw3
  clear hw0 hw1 hw2 hw3 hs1 hs3 ho2 hb2 B0 B1 B2
  go_wp2_with fail
  refine (layHeld_w w.heap.size v3 _ _ zs _ hw3' (hb.below B3 (Nat.le_refl _)) (HSEP.out _ _ _ hw3') (by rw [headN_len]; decide) (by omega)).mono ?_
  rintro e w4 ⟨rfl, v4, hw4, hs4⟩
  have B4 : Below w.heap.size w w4 := B3.trans (hw3'.below hs4 (Nat.le_refl _))
  have hl4 : (headN zs.length ++ zs).length ≤ 70000 := by rw [List.length_append, headN_len]; omega
  have hy4 : Byt (headN zs.length ++ zs) := (headN_byt _).app hy
  have HY : Hid (headN zs.length ++ zs ++ fourB (sumOf (headN zs.length ++ zs) : Nat) = recN zs) := rfl
  generalize headN zs.length ++ zs = ys at *
  go_wp2_with fail
  refine (out_w w.heap.size v4 _ _ hw4 (by omega)).mono ?_
  rintro e w5 ⟨ao5, cap5, rfl, ho5, hb5⟩
  have hw5 := hw4.keepB hb5
  have B5 : Below w.heap.size w w5 := B4.trans (hb5.mono B4.size)
  go_wp2_with fail
  refine (laySum_w w.heap.size v4 _ _ _ _ hw5 ho5.bs hy4 (ht.below B5 ht.lt) (by omega)).mono ?_
  rintro e w6 ⟨rfl, v6, hw6, hs6⟩
  have B6 : Below w.heap.size w w6 := B5.trans (hw5.below hs6 (Nat.le_refl _))
  rw [HY.out] at hw6
  have hw6' : Wr w6 w.heap.size v6 (recN zs) := hw6
  clear hw3' hw4 hw5 hw6 hs4 hs6 ho5 hb5 B3 B4 B5
  go_wp2_with fail
  refine (out_w w.heap.size v6 _ _ hw6' (by rw [recN_len]; omega)).mono ?_
  rintro e w7 ⟨ao7, cap7, rfl, ho7, hb7⟩
  have B7 : Below w.heap.size w w7 := B6.trans (hb7.mono B6.size)
  go_wp2
  go_ret2
  exact ⟨ao7, cap7, rfl, ho7.mono B6.size, B7⟩
end Go.Proofs.YtnkjhooeklodcaaGreatDoor.Fr
end

section
/-
  frame.Encode, by contract, wherever the slice of no bytes points to.
-/
namespace Go.Proofs.YtnkjhooeklodcaaGreatDoor.Fr
open Go.RowKit

set_option maxHeartbeats 800000 in
theorem layHeld2_w (b : Nat) (v : Value) (xs : List Int) (sv : Value) (zs : List Int) (w : World) (hw : Wr w b v xs) (hb : Bs w sv zs) (hsep : zs ≠ [] → ∀ k, sv.ownBlock = some k → k ≠ b ∧ some k ≠ v.ownBlock)
    (hn : xs.length ≤ 500000000000) (hz : zs.length ≤ 400000000000) :
    Calls Tryz.prog 107 #[.func (.func 103) #[.pointer (some ⟨b, 0, none⟩)] #[], sv] w fun e w' => e = .returned (.tuple #[]) ∧ ∃ v', Wr w' b v' (xs ++ zs) ∧ Wstep b w v w' v' := by
  obtain ⟨ao, cap, hsv, hm⟩ := hb.len
  subst hsv
  go_enter Tryz.func107, Tryz.ntmps107
  go_wp2
  go_loopw [8] (fun i wr => ∃ (k : Nat) (v1 : Value), k ≤ zs.length ∧ i = .int .i64 k ∧ Wr wr b v1 (xs ++ zs.take k) ∧ Wstep b w v wr v1) (fun i _ => zs.length - (intOf i).toNat)
  case atStart => exact ⟨0, v, Nat.zero_le _, rfl, by simpa using hw, Wstep.refl _ _ _⟩
  case round =>
    obtain ⟨k, v1, hk, rfl, hw1, hs1⟩ := hrel
    by_cases hlt : k < zs.length
    · have hb1 := hb.step hs1 (hsep (fun e => by rw [e] at hlt; simp at hlt))
      rcases hb1 with ⟨h0, _⟩ | ⟨_, b2, off, cap2, he, hc1, hc2, hcell⟩
      · subst h0; simp at hlt
      · simp only [Value.slice.injEq] at he
        obtain ⟨rfl, _, rfl⟩ := he
        have hck := hcell k hlt
        clear hcell
        have hl2 : (xs ++ zs.take k).length ≤ 1000000000000 := by simp; omega
        go_wp2_with (go_at_call 103; refine (byte_w b v1 _ _ _ hw1 hl2).mono ?_; rintro e w' ⟨rfl, v2, hw2, hs2⟩)
        go_roundw
        case rel => exact ⟨k + 1, v2, by omega, by go_num, by simpa using hw2, hs1.trans hs2⟩
        case measure => simp [intOf]; omega
    · have hke : zs.take k = zs := List.take_of_length_le (by omega)
      go_wp2
      go_end0
      rw [hke] at hw1
      exact ⟨rfl, v1, hw1, hs1⟩



set_option maxHeartbeats 3200000 in
set_option maxRecDepth 20000 in
theorem enc_any2 (sv : Value) (zs : List Int) (w : World) (hb : Bs w sv zs) (hy : Byt zs) (hz : zs.length ≤ 65536) (ht : Tab w) :
    Calls Tryz.prog 80 #[sv] w fun e w' => ∃ ao cap, e = .returned (.tuple #[.slice ao (recN zs).length cap, .int .i64 0]) ∧ Ow w' w.heap.size (.slice ao (recN zs).length cap) (recN zs) ∧ Below w.heap.size w w' := by
  have hw0 := Wr_new w
  have B0 : Below w.heap.size w (w.alloc (.cells #[.slice none 0 0] 132)) := (Below.refl _ _).alloc (Nat.le_refl _) _
  have hsl := hb.lt
  have hsep : zs ≠ [] → ∀ (v : Value) (W : World) (xs : List Int), Wr W w.heap.size v xs → ∀ k, sv.ownBlock = some k → k ≠ w.heap.size ∧ some k ≠ v.ownBlock := by
    intro hne v W xs hW k hk
    have := hsl hne k hk
    refine ⟨by omega, fun e => ?_⟩
    have := World.ownsRow.lt hW.2 k e.symm
    omega
  obtain ⟨ao, cap, hsv, hm⟩ := hb.len
  subst hsv
  have HSEP : Hid (zs ≠ [] → ∀ (v : Value) (W : World) (xs : List Int), Wr W w.heap.size v xs → ∀ k, (Value.slice ao zs.length cap).ownBlock = some k → k ≠ w.heap.size ∧ some k ≠ v.ownBlock) := hsep
  clear hsep hsl
  go_enter Tryz.func80, Tryz.ntmps80
  go_wp2_with fail
  refine (layLength_w w.heap.size _ [] _ zs _ hw0 (hb.below B0 (Nat.le_refl _)) (by decide) hz).mono ?_
  rintro e w1 ⟨rfl, v1, hw1, hs1⟩
  have B1 : Below w.heap.size w w1 := B0.trans (hw0.below hs1 (Nat.le_refl _))
  rw [List.nil_append] at hw1
  go_wp2_with fail
  refine (out_w w.heap.size v1 _ _ hw1 (by rw [fourB_len]; decide)).mono ?_
  rintro e w2 ⟨ao2, cap2, rfl, ho2, hb2⟩
  have hw2 := hw1.keepB hb2
  have B2 : Below w.heap.size w w2 := B1.trans (hb2.mono B1.size)
  go_wp2_with fail
  refine (laySum_w w.heap.size v1 _ _ _ _ hw2 ho2.bs (fourB_byt _) (ht.below B2 ht.lt) (by rw [fourB_len]; decide)).mono ?_
  rintro e w3 ⟨rfl, v3, hw3, hs3⟩
  have B3 : Below w.heap.size w w3 := B2.trans (hw2.below hs3 (Nat.le_refl _))
  have hw3' : Wr w3 w.heap.size v3 (headN zs.length) := hw3
  clear hw0 hw1 hw2 hw3 hs1 hs3 ho2 hb2 B0 B1 B2
  go_wp2_with fail
  refine (layHeld2_w w.heap.size v3 _ _ zs _ hw3' (hb.below B3 (Nat.le_refl _)) (fun hne => HSEP.out hne _ _ _ hw3') (by rw [headN_len]; decide) (by omega)).mono ?_
  rintro e w4 ⟨rfl, v4, hw4, hs4⟩
  have B4 : Below w.heap.size w w4 := B3.trans (hw3'.below hs4 (Nat.le_refl _))
  have hl4 : (headN zs.length ++ zs).length ≤ 70000 := by rw [List.length_append, headN_len]; omega
  have hy4 : Byt (headN zs.length ++ zs) := (headN_byt _).app hy
  have HY : Hid (headN zs.length ++ zs ++ fourB (sumOf (headN zs.length ++ zs) : Nat) = recN zs) := rfl
  generalize headN zs.length ++ zs = ys at *
  go_wp2_with fail
  refine (out_w w.heap.size v4 _ _ hw4 (by omega)).mono ?_
  rintro e w5 ⟨ao5, cap5, rfl, ho5, hb5⟩
  have hw5 := hw4.keepB hb5
  have B5 : Below w.heap.size w w5 := B4.trans (hb5.mono B4.size)
  go_wp2_with fail
  refine (laySum_w w.heap.size v4 _ _ _ _ hw5 ho5.bs hy4 (ht.below B5 ht.lt) (by omega)).mono ?_
  rintro e w6 ⟨rfl, v6, hw6, hs6⟩
  have B6 : Below w.heap.size w w6 := B5.trans (hw5.below hs6 (Nat.le_refl _))
  rw [HY.out] at hw6
  have hw6' : Wr w6 w.heap.size v6 (recN zs) := hw6
  clear hw3' hw4 hw5 hw6 hs4 hs6 ho5 hb5 B3 B4 B5
  go_wp2_with fail
  refine (out_w w.heap.size v6 _ _ hw6' (by rw [recN_len]; omega)).mono ?_
  rintro e w7 ⟨ao7, cap7, rfl, ho7, hb7⟩
  have B7 : Below w.heap.size w w7 := B6.trans (hb7.mono B6.size)
  go_wp2
  go_ret2
  exact ⟨ao7, cap7, rfl, ho7.mono B6.size, B7⟩
end Go.Proofs.YtnkjhooeklodcaaGreatDoor.Fr
end
