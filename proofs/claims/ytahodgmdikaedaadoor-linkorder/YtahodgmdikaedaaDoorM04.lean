/-
  Joined from: WriterC, Same, Sum.
-/
import Derived.Test.YtahodgmdikaedaaDoorM03
import Derived.Lib.SliceRun
import Derived.Deep.QuietTactic
import Derived.BigQuiet
import Derived.Test.YtahodgmdikaedaaDoorM02
section
/-
  The Writer's Bytes, Hash, Out; bytes.Clone; the law's same.
-/
namespace Go.Proofs.YtahodgmdikaedaaDoor
open Go.RowKit
theorem bytes_w (b : Nat) (v : Value) (xs : List Int) (sv : Value) (zs : List Int) (w : World) (hw : Wr w b v xs) (hb : Bs w sv zs) (hsep : ∀ k, sv.ownBlock = some k → k ≠ b ∧ some k ≠ v.ownBlock)
    (hn : xs.length ≤ 100000000000) (hz : zs.length ≤ 100000000000) :
    Calls Tryd.prog 67 #[.pointer (some ⟨b, 0, none⟩), sv] w fun e w' => e = .returned (.tuple #[]) ∧ ∃ v', Wr w' b v' (xs ++ numOf zs.length ++ zs) ∧ Wstep b w v w' v' := by
  obtain ⟨ao, cap, hsv, hm⟩ := hb.len
  subst hsv
  go_enter Tryd.func67, Tryd.ntmps67
  go_wp2_with fail
  refine (num_w b v xs _ _ hw (by omega) (by omega) (by omega)).mono ?_
  rintro e w1 ⟨rfl, v1, hw1, hs1⟩
  have hnl := numOf_length (zs.length : Int)
  have hb1 := hb.step hs1 hsep
  obtain ⟨ys, hys⟩ : ∃ ys, ys = xs ++ numOf zs.length := ⟨_, rfl⟩
  rw [← hys] at hw1
  have hyl : ys.length ≤ 110000000000 := by rw [hys, List.length_append]; omega
  have HY : Hid (ys = xs ++ numOf zs.length) := hys
  clear hys
  have hc1 := hw1.cell
  have hf1 := hw1.frozen
  have hlt1 := hw1.lt
  obtain ⟨ao1, cap1, hv1, hj⟩ := hw1.2.form
  clear hj
  subst hv1
  go_wp2_with (at_builtin; refine wpList_append_bs _ rfl (.tmp 14) (.tmp 15) rfl (b + 1) _ _ rfl hw1.2 _ zs rfl hb1 (by omega) (by omega) ?_)
  intro ao2 cap2 w2 hown hgrow hat
  have R := step_of_append hw1 (Below.refl _ _) hown hgrow hat
  have hc2 : w2.cell? ⟨b, 0, none⟩ = some (.slice ao1 ys.length cap1) := by
    rw [hgrow.cell_far _ hlt1 (fun e => by have := (World.ownsRow.lt hw1.2) b e.symm; omega)]; exact hc1
  have hf2 : w2.frozen? ⟨b, 0, none⟩ = false := by
    rw [hgrow.frozen_far _ hlt1 (fun e => by have := (World.ownsRow.lt hw1.2) b e.symm; omega)]; exact hf1
  clear hown hgrow hat
  go_wp2
  go_end0
  rw [← HY.out]
  exact ⟨rfl, _, R.1, hs1.trans R.2⟩

theorem bytes_nil (sv : Value) (w : World) : Calls Tryd.prog 67 #[.pointer none, sv] w fun e w' => e = .returned (.tuple #[]) ∧ w = w' := by
  go_enter Tryd.func67, Tryd.ntmps67
  go_wp2
  go_returns
  exact ⟨rfl, rfl⟩

/-- bytes.Clone: a row of its own, with the same bytes. -/
theorem clone_any (sv : Value) (zs : List Int) (w : World) (hb : Bs w sv zs) (hz : zs.length ≤ 100000000000000) :
    Calls Tryd.prog 34 #[sv] w fun e w' => ∃ ao cap, e = .returned (.slice ao zs.length cap) ∧ Ow w' w.heap.size (.slice ao zs.length cap) zs ∧ Below w.heap.size w w' := by
  obtain ⟨ao, cap, hsv, hm⟩ := hb.len
  subst hsv
  have he := fun w1 => Lib.run_eql_slice_nil (P := Tryd.prog) w1 29 5 ao zs.length cap 0 0 Tryd.underlying29
  cases hao : ao with
  | none =>
    have hz0 : zs = [] := by
      rcases hb with ⟨h0, _⟩ | ⟨_, b2, off, cap2, he2, _⟩
      · exact h0
      · simp [hao] at he2
    subst hz0
    subst hao
    have he := fun w1 => Lib.run_eql_slice_nil (P := Tryd.prog) w1 29 5 none 0 cap 0 0 Tryd.underlying29
    go_enter Tryd.func34, Tryd.ntmps34
    go_wp2
    go_ret
    exact ⟨none, 0, rfl, World.ownsRow_nil _ _ _ _, Below.refl _ _⟩
  | some a =>
    subst hao
    have hown0 : Ow (w.alloc (.cells #[] 5)) w.heap.size (.slice (some ⟨w.heap.size, 0, none⟩) 0 0) [] := Ow_of_block (heap_alloc_new w _) (by simp) (Nat.le_refl _)
    have hb1 : Bs (w.alloc (.cells #[] 5)) (.slice (some a) zs.length cap) zs := hb.below ((Below.refl _ _).alloc (Nat.le_refl _) _) (Nat.le_refl _)
    go_enter Tryd.func34, Tryd.ntmps34
    go_wp2_with (at_builtin; refine wpList_append_bs _ rfl (.tmp 5) (.tmp 6) rfl w.heap.size _ [] rfl hown0 _ zs rfl hb1 (by simp; omega) (by simp) ?_)
    intro ao2 cap2 w2 hown hgrow hat
    go_wp2
    go_ret
    exact ⟨ao2, cap2, rfl, hown, ((Below.refl _ _).alloc (Nat.le_refl _) _).grown hgrow (by simp) (fun k hk => by simp [Value.ownBlock] at hk; omega)⟩

theorem out_w (b : Nat) (v : Value) (xs : List Int) (w : World) (hw : Wr w b v xs) (hn : xs.length ≤ 100000000000000) :
    Calls Tryd.prog 69 #[.pointer (some ⟨b, 0, none⟩)] w fun e w' => ∃ ao cap, e = .returned (.slice ao xs.length cap) ∧ Ow w' w.heap.size (.slice ao xs.length cap) xs ∧ Below w.heap.size w w' := by
  have hc := hw.cell
  go_enter Tryd.func69, Tryd.ntmps69
  go_wp2_with (go_at_call 34; refine (clone_any v xs _ hw.2.bs hn).mono ?_; rintro e w1 ⟨ao, cap, rfl, hown, hbel⟩)
  go_ret
  exact ⟨ao, cap, rfl, hown, hbel⟩

theorem out_nil (w : World) : Calls Tryd.prog 69 #[.pointer none] w fun e w' => e = .returned (.slice none 0 0) ∧ w = w' := by
  go_enter Tryd.func69, Tryd.ntmps69
  go_wp2
  go_ret
  exact ⟨rfl, rfl⟩

end Go.Proofs.YtahodgmdikaedaaDoor
end

section
/-
  The law's own helper same: whether two rows of bytes are one; nothing is written.
-/
namespace Go.Proofs.YtahodgmdikaedaaDoor
open Go.RowKit

/-- The memory is as it was (orders may have been drawn). -/
structure Sm (w w' : World) : Prop where
  os : w'.os = w.os
  tape : w'.tape = w.tape
  output : w'.output = w.output
  heap : w'.heap = w.heap
theorem Sm.refl (w : World) : Sm w w := ⟨rfl, rfl, rfl, rfl⟩
theorem Sm.trans {a b c : World} (h : Sm a b) (k : Sm b c) : Sm a c := ⟨k.os.trans h.os, k.tape.trans h.tape, k.output.trans h.output, k.heap.trans h.heap⟩
theorem Sm.drewN (w : World) (n : Nat) : Sm w (w.drewN n) := ⟨rfl, rfl, rfl, rfl⟩
theorem Sm.below {w w' : World} (h : Sm w w') (B : Nat) : Below B w w' := ⟨h.os, h.tape, h.output, by rw [h.heap]; exact Nat.le_refl _, fun k _ => by rw [h.heap]⟩
theorem Sm.bs {w w' : World} (h : Sm w w') {v : Value} {zs : List Int} (hb : Bs w v zs) : Bs w' v zs := hb.keep fun k _ _ => by rw [h.heap]
theorem Sm.ow {w w' : World} (h : Sm w w') {v : Value} {base : Nat} {zs : List Int} (hb : Ow w base v zs) : Ow w' base v zs := by
  unfold Ow World.ownsRow at *; rw [h.heap]; exact hb
theorem Sm.wr {w w' : World} (h : Sm w w') {v : Value} {b : Nat} {zs : List Int} (hb : Wr w b v zs) : Wr w' b v zs := ⟨by rw [h.heap]; exact hb.1, h.ow hb.2⟩
theorem Sm.size {w w' : World} (h : Sm w w') : w'.heap.size = w.heap.size := by rw [h.heap]

theorem eq_of_all (xs ys : List Int) (hl : xs.length = ys.length) (h : ∀ j, j < xs.length → xs.getD j 0 = ys.getD j 0) : xs = ys := by
  apply List.ext_getElem hl
  intro i h1 h2
  have := h i h1
  simpa [List.getD, h1, h2] using this
/-- One test for both: an unfolded 'decide' would part the walk. -/
def eqB (xs ys : List Int) : Bool := decide (xs = ys)
theorem eqB_true {xs ys : List Int} (h : xs = ys) : eqB xs ys = true := by simp [eqB, h]
theorem eqB_false {xs ys : List Int} (h : xs ≠ ys) : eqB xs ys = false := by simp [eqB, h]

set_option maxHeartbeats 800000 in
theorem same_any (va vb : Value) (xs ys : List Int) (w : World) (ha : Bs w va xs) (hb : Bs w vb ys) :
    Calls Tryd.prog 24 #[va, vb] w fun e w' => e = .returned (.bool (eqB xs ys)) ∧ Sm w w' := by
  obtain ⟨a1, c1, h1, m1⟩ := ha.len
  obtain ⟨a2, c2, h2, m2⟩ := hb.len
  subst h1; subst h2
  unfold maxLen at m1 m2
  by_cases hl : xs.length = ys.length
  · have hne : ((xs.length : Int) != (ys.length : Int)) = false := by simp [hl]
    have HL : Hid (xs.length = ys.length) := hl
    clear hl
    go_enter Tryd.func24, Tryd.ntmps24
    go_wp2
    go_loopw [5] (fun i wr => ∃ k : Nat, k ≤ xs.length ∧ i = .int .i64 k ∧ Sm w wr ∧ Hid (∀ j, j < k → xs.getD j 0 = ys.getD j 0)) (fun i _ => xs.length - (intOf i).toNat)
    case atStart => exact ⟨0, Nat.zero_le _, rfl, Sm.refl _, fun j hj => by omega⟩
    case round =>
      obtain ⟨k, hk, rfl, hsm, HJ⟩ := hrel
      by_cases hlt : k < xs.length
      · have hlt2 : k < ys.length := by have := HL.out; omega
        rcases hsm.bs ha with ⟨h0, _⟩ | ⟨_, b1, o1, d1, he1, hc1, hc2, hcell1⟩
        · subst h0; simp at hlt
        rcases hsm.bs hb with ⟨h0, _⟩ | ⟨_, b2, o2, d2, he2, hd1, hd2, hcell2⟩
        · subst h0; simp at hlt2
        simp only [Value.slice.injEq] at he1 he2
        obtain ⟨rfl, _, rfl⟩ := he1
        obtain ⟨rfl, _, rfl⟩ := he2
        have hx := hcell1 k hlt
        have hy := hcell2 k hlt2
        clear hcell1 hcell2
        obtain ⟨x, ex⟩ : ∃ x, x = xs.getD k 0 := ⟨_, rfl⟩
        obtain ⟨y, ey⟩ : ∃ y, y = ys.getD k 0 := ⟨_, rfl⟩
        rw [← ex] at hx
        rw [← ey] at hy
        have HX : Hid (x = xs.getD k 0) := ex
        have HY : Hid (y = ys.getD k 0) := ey
        clear ex ey
        by_cases hxy : x = y
        · subst hxy
          have HJ2 : Hid (∀ j, j < k + 1 → xs.getD j 0 = ys.getD j 0) := by
            intro j hj
            by_cases hjk : j = k
            · subst hjk; rw [← HX.out, ← HY.out]
            · exact HJ.out j (by omega)
          clear HJ HX HY
          go_wp2
          go_quiet (fail)
          go_wp2
          go_roundw
          case rel => exact ⟨k + 1, by omega, by go_num, hsm.trans (Sm.drewN _ _), HJ2⟩
          case measure => simp [intOf]; omega
        · have hxy' : (x != y) = true := by simp [hxy]
          have HF : Hid (eqB xs ys = false) := eqB_false (fun e => hxy (by rw [HX.out, HY.out, e]))
          clear HJ HX HY hxy
          go_wp2
          go_quiet (fail)
          go_wp2
          go_ret
          exact ⟨by rw [HF.out]; rfl, hsm.trans (Sm.drewN _ _)⟩
      · have HT : Hid (eqB xs ys = true) := eqB_true (eq_of_all xs ys HL.out (fun j hj => HJ.out j (by omega)))
        clear HJ
        go_wp2
        go_ret
        exact ⟨by rw [HT.out]; rfl, hsm⟩
  · have hne : ((xs.length : Int) != (ys.length : Int)) = true := by simp; omega
    have HF : Hid (eqB xs ys = false) := eqB_false (fun e => hl (by rw [e]))
    go_enter Tryd.func24, Tryd.ntmps24
    go_wp2
    go_ret
    exact ⟨by rw [HF.out]; rfl, Sm.refl _⟩
end Go.Proofs.YtahodgmdikaedaaDoor
end

section
/-
  octet.Sum: what it answers, for every row of bytes.
-/
namespace Go.Proofs.YtahodgmdikaedaaDoor
open Go.RowKit
/-- The table sumSteps lies in block 0. -/
def Tab (w : World) : Prop := ∀ i, i < 16 → w.cell? ⟨0, i, none⟩ = some (.int .u32 (stepsN.getD i 0 : Nat))
/-- Bytes. -/
def Byt (xs : List Int) : Prop := ∀ z ∈ xs, 0 ≤ z ∧ z < 256

theorem getD_mem (xs : List Int) (k : Nat) (h : k < xs.length) : xs.getD k 0 ∈ xs := by simp [List.getD, h]

set_option maxHeartbeats 800000 in
theorem sum_any (va : Value) (xs : List Int) (w : World) (ha : Bs w va xs) (hx : Byt xs) (ht : Tab w) :
    Calls Tryd.prog 71 #[va] w fun e w' => e = .returned (.int .u32 (sumOf xs : Nat)) ∧ w = w' := by
  obtain ⟨a1, c1, h1, m1⟩ := ha.len
  subst h1
  unfold maxLen at m1
  go_enter Tryd.func71, Tryd.ntmps71
  go_wp2
  go_loop [3, 8] (fun s i => ∃ (k t : Nat), k ≤ xs.length ∧ i = .int .i64 k ∧ s = .int .u32 t ∧ t < 4294967296 ∧ Hid (t = crcAll 4294967295 (xs.take k))) (fun _ i => xs.length - (intOf i).toNat)
  case atStart => exact ⟨0, 4294967295, Nat.zero_le _, rfl, rfl, by decide, rfl⟩
  case round =>
    obtain ⟨k, t, hk, rfl, rfl, ht1, HT⟩ := hrel
    by_cases hlt : k < xs.length
    · rcases ha with ⟨h0, _⟩ | ⟨_, b1, o1, d1, he1, hc1, hc2, hcell1⟩
      · subst h0; simp at hlt
      simp only [Value.slice.injEq] at he1
      obtain ⟨rfl, _, rfl⟩ := he1
      have hc := hcell1 k hlt
      clear hcell1
      obtain ⟨hx0, hx1⟩ := hx _ (getD_mem xs k hlt)
      have HN : Hid (xs.take (k + 1) = xs.take k ++ [xs.getD k 0]) := take_snoc xs k hlt
      generalize xs.getD k 0 = x at *
      obtain ⟨X, rfl⟩ := Int.eq_ofNat_of_zero_le hx0
      obtain ⟨t1, q1⟩ : ∃ t1, t1 = t ^^^ X := ⟨_, rfl⟩
      obtain ⟨i1, q2⟩ : ∃ i1, i1 = t1 % 16 := ⟨_, rfl⟩
      obtain ⟨s1, q3⟩ : ∃ s1, s1 = stepsN.getD i1 0 := ⟨_, rfl⟩
      obtain ⟨t2, q4⟩ : ∃ t2, t2 = (t1 / 16) ^^^ s1 := ⟨_, rfl⟩
      obtain ⟨i2, q5⟩ : ∃ i2, i2 = t2 % 16 := ⟨_, rfl⟩
      obtain ⟨s2, q6⟩ : ∃ s2, s2 = stepsN.getD i2 0 := ⟨_, rfl⟩
      obtain ⟨t3, q7⟩ : ∃ t3, t3 = (t2 / 16) ^^^ s2 := ⟨_, rfl⟩
      have b1' : t1 < 4294967296 := q1 ▸ xor_lt32 ht1 (by omega)
      have b2' : s1 < 4294967296 := q3 ▸ stepsN_lt _
      have b3' : t2 < 4294967296 := q4 ▸ xor_lt32 (by omega) b2'
      have b4' : s2 < 4294967296 := q6 ▸ stepsN_lt _
      have b5' : t3 < 4294967296 := q7 ▸ xor_lt32 (by omega) b4'
      have i1lt : i1 < 16 := by omega
      have i2lt : i2 < 16 := by omega
      have c1' : w.cell? ⟨0, i1, none⟩ = some (.int .u32 s1) := q3 ▸ ht i1 i1lt
      have c2' : w.cell? ⟨0, i2, none⟩ = some (.int .u32 s2) := q6 ▸ ht i2 i2lt
      have e0 : ((X : Int) % 4294967296) = X := by omega
      have e1 : bits .xor .u32 (t : Int) (X : Int) = (t1 : Int) := by rw [u32_xor_nat t X ht1 (by omega), q1]
      have e2 : bits .and .u32 (t1 : Int) 15 = (i1 : Int) := by
        have := u32_and_nat t1 15 b1' (by decide)
        rw [nat_mask4, ← q2] at this; exact this
      have e3 : bits .xor .u32 ((t1 : Int) / 16) (s1 : Int) = (t2 : Int) := by
        have := u32_xor_nat (t1 / 16) s1 (by omega) b2'
        rw [← q4] at this; simpa using this
      have e4 : bits .and .u32 (t2 : Int) 15 = (i2 : Int) := by
        have := u32_and_nat t2 15 b3' (by decide)
        rw [nat_mask4, ← q5] at this; exact this
      have e5 : bits .xor .u32 ((t2 : Int) / 16) (s2 : Int) = (t3 : Int) := by
        have := u32_xor_nat (t2 / 16) s2 (by omega) b4'
        rw [← q7] at this; simpa using this
      have HT2 : Hid (t3 = crcAll 4294967295 (xs.take (k + 1))) := by
        show _ = _
        rw [HN.out, crcAll_snoc, ← HT.out, q7, q6, q5, q4, q3, q2, q1]
        rfl
      clear q1 q2 q3 q4 q5 q6 q7 HN HT
      go_wp2
      go_round
      case rel => exact ⟨k + 1, t3, by omega, by go_num, rfl, b5', HT2⟩
      case measure => simp [intOf]; omega
    · have hke : xs.take k = xs := List.take_of_length_le (by omega)
      have HF : Hid (bits .xor .u32 IntKind.u32.max (t : Int) = ((sumOf xs : Nat) : Int)) := by
        show _ = _
        have hm : IntKind.u32.max = ((4294967295 : Nat) : Int) := by decide
        rw [hm, u32_xor_nat 4294967295 t (by decide) ht1, Nat.xor_comm, not32 t ht1, sumOf, HT.out, hke]
      clear HT hke
      go_wp2
      go_ret
      exact ⟨ret_int HF.out, rfl⟩

theorem Tab.below {w w' : World} {B : Nat} (h : Tab w) (hb : Below B w w') (hB : 0 < B) : Tab w' := fun i hi => (hb.cell (p := ⟨0, i, none⟩) hB).trans (h i hi)
theorem Tab.sm {w w' : World} (h : Tab w) (hb : Sm w w') : Tab w' := h.below (hb.below 1) (by decide)
theorem Tab.step {b : Nat} {w w' : World} {v v' : Value} (h : Tab w) (hs : Wstep b w v w' v') (hb : 0 < b) (hv : v.ownBlock ≠ some 0) : Tab w' := by
  intro i hi
  have hc := h i hi
  have hlt := World.block_lt_of_cell? w _ hc
  rw [World.cell?_of_block (w := w) (hs.block 0 hlt (by omega) (fun e => hv e.symm))]
  exact hc
theorem Tab.lt {w : World} (h : Tab w) : 0 < w.heap.size := World.block_lt_of_cell? w _ (h 0 (by decide))
end Go.Proofs.YtahodgmdikaedaaDoor
end
