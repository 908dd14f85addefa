/-
  The law's own helper same: whether two rows of bytes are one; nothing is written.
-/
import Derived.Test.YtkfnmdhhiigceaaOcWriterC
namespace Go.Proofs.Ytkfnmdhhiigceaa.Oc
open Go.RowKit

/-- The memory is as it was (orders may have been drawn). -/
structure Sm (w w' : World) : Prop where
  os : w'.os = w.os
  tape : w'.tape = w.tape
  output : w'.output = w.output
  heap : w'.heap = w.heap
theorem Sm.refl (w : World) : Sm w w := ⟨rfl, rfl, rfl, rfl⟩
theorem Sm.trans {a b c : World} (h : Sm a b) (k : Sm b c) : Sm a c := ⟨k.os.trans h.os, k.tape.trans h.tape, k.output.trans h.output, k.heap.trans h.heap⟩
theorem Sm.drewN (w : World) (n : Nat) : Sm w (w.drewN n) := ⟨rfl, rfl, rfl, rfl⟩
theorem Sm.below {w w' : World} (h : Sm w w') (B : Nat) : Below B w w' := ⟨h.os, h.tape, h.output, by rw [h.heap]; exact Nat.le_refl _, fun k _ => by rw [h.heap]⟩
theorem Sm.bs {w w' : World} (h : Sm w w') {v : Value} {zs : List Int} (hb : Bs w v zs) : Bs w' v zs := hb.keep fun k _ _ => by rw [h.heap]
theorem Sm.ow {w w' : World} (h : Sm w w') {v : Value} {base : Nat} {zs : List Int} (hb : Ow w base v zs) : Ow w' base v zs := by
  unfold Ow World.ownsRow at *; rw [h.heap]; exact hb
theorem Sm.wr {w w' : World} (h : Sm w w') {v : Value} {b : Nat} {zs : List Int} (hb : Wr w b v zs) : Wr w' b v zs := ⟨by rw [h.heap]; exact hb.1, h.ow hb.2⟩
theorem Sm.size {w w' : World} (h : Sm w w') : w'.heap.size = w.heap.size := by rw [h.heap]

theorem eq_of_all (xs ys : List Int) (hl : xs.length = ys.length) (h : ∀ j, j < xs.length → xs.getD j 0 = ys.getD j 0) : xs = ys := by
  apply List.ext_getElem hl
  intro i h1 h2
  have := h i h1
  simpa [List.getD, h1, h2] using this
/-- One test for both: an unfolded 'decide' would part the walk. -/
def eqB (xs ys : List Int) : Bool := decide (xs = ys)
theorem eqB_true {xs ys : List Int} (h : xs = ys) : eqB xs ys = true := by simp [eqB, h]
theorem eqB_false {xs ys : List Int} (h : xs ≠ ys) : eqB xs ys = false := by simp [eqB, h]

set_option maxHeartbeats 800000 in
theorem same_any (va vb : Value) (xs ys : List Int) (w : World) (ha : Bs w va xs) (hb : Bs w vb ys) :
    Calls Try.prog 23 #[va, vb] w fun e w' => e = .returned (.bool (eqB xs ys)) ∧ Sm w w' := by
  obtain ⟨a1, c1, h1, m1⟩ := ha.len
  obtain ⟨a2, c2, h2, m2⟩ := hb.len
  subst h1; subst h2
  unfold maxLen at m1 m2
  by_cases hl : xs.length = ys.length
  · have hne : ((xs.length : Int) != (ys.length : Int)) = false := by simp [hl]
    have HL : Hid (xs.length = ys.length) := hl
    clear hl
    go_enter Try.func23, Try.ntmps23
    go_wp2
    go_loopw [5] (fun i wr => ∃ k : Nat, k ≤ xs.length ∧ i = .int .i64 k ∧ Sm w wr ∧ Hid (∀ j, j < k → xs.getD j 0 = ys.getD j 0)) (fun i _ => xs.length - (intOf i).toNat)
    case atStart => exact ⟨0, Nat.zero_le _, rfl, Sm.refl _, fun j hj => by omega⟩
    case round =>
      obtain ⟨k, hk, rfl, hsm, HJ⟩ := hrel
      by_cases hlt : k < xs.length
      · have hlt2 : k < ys.length := by have := HL.out; omega
        rcases hsm.bs ha with ⟨h0, _⟩ | ⟨_, b1, o1, d1, he1, hc1, hc2, hcell1⟩
        · subst h0; simp at hlt
        rcases hsm.bs hb with ⟨h0, _⟩ | ⟨_, b2, o2, d2, he2, hd1, hd2, hcell2⟩
        · subst h0; simp at hlt2
        simp only [Value.slice.injEq] at he1 he2
        obtain ⟨rfl, _, rfl⟩ := he1
        obtain ⟨rfl, _, rfl⟩ := he2
        have hx := hcell1 k hlt
        have hy := hcell2 k hlt2
        clear hcell1 hcell2
        obtain ⟨x, ex⟩ : ∃ x, x = xs.getD k 0 := ⟨_, rfl⟩
        obtain ⟨y, ey⟩ : ∃ y, y = ys.getD k 0 := ⟨_, rfl⟩
        rw [← ex] at hx
        rw [← ey] at hy
        have HX : Hid (x = xs.getD k 0) := ex
        have HY : Hid (y = ys.getD k 0) := ey
        clear ex ey
        by_cases hxy : x = y
        · subst hxy
          have HJ2 : Hid (∀ j, j < k + 1 → xs.getD j 0 = ys.getD j 0) := by
            intro j hj
            by_cases hjk : j = k
            · subst hjk; rw [← HX.out, ← HY.out]
            · exact HJ.out j (by omega)
          clear HJ HX HY
          go_wp2
          go_quiet (fail)
          go_wp2
          go_roundw
          case rel => exact ⟨k + 1, by omega, by go_num, hsm.trans (Sm.drewN _ _), HJ2⟩
          case measure => simp [intOf]; omega
        · have hxy' : (x != y) = true := by simp [hxy]
          have HF : Hid (eqB xs ys = false) := eqB_false (fun e => hxy (by rw [HX.out, HY.out, e]))
          clear HJ HX HY hxy
          go_wp2
          go_quiet (fail)
          go_wp2
          go_ret
          exact ⟨by rw [HF.out]; rfl, hsm.trans (Sm.drewN _ _)⟩
      · have HT : Hid (eqB xs ys = true) := eqB_true (eq_of_all xs ys HL.out (fun j hj => HJ.out j (by omega)))
        clear HJ
        go_wp2
        go_ret
        exact ⟨by rw [HT.out]; rfl, hsm⟩
  · have hne : ((xs.length : Int) != (ys.length : Int)) = true := by simp; omega
    have HF : Hid (eqB xs ys = false) := eqB_false (fun e => hl (by rw [e]))
    go_enter Try.func23, Try.ntmps23
    go_wp2
    go_ret
    exact ⟨by rw [HF.out]; rfl, Sm.refl _⟩
end Go.Proofs.Ytkfnmdhhiigceaa.Oc
