/-
  Joined from: OcWriterC, OcSame, OcSum.
-/
import Derived.Test.YtbfldcieibdapabGreatM13
import Derived.Lib.SliceRun
import Derived.Deep.QuietTactic
import Derived.BigQuiet
section
/-
  The Writer's Bytes, Hash, Out; bytes.Clone; the law's same.
-/
namespace Go.Proofs.YtbfldcieibdapabGreat.Oc
open Go.RowKit
/-- bytes.Clone: a row of its own, with the same bytes. -/
theorem clone_any (sv : Value) (zs : List Int) (w : World) (hb : Bs w sv zs) (hz : zs.length ≤ 100000000000000) :
    Calls Tryz.prog 86 #[sv] w fun e w' => ∃ ao cap, e = .returned (.slice ao zs.length cap) ∧ Ow w' w.heap.size (.slice ao zs.length cap) zs ∧ Below w.heap.size w w' := by
  obtain ⟨ao, cap, hsv, hm⟩ := hb.len
  subst hsv
  have he := fun w1 => Lib.run_eql_slice_nil (P := Tryz.prog) w1 107 5 ao zs.length cap 0 0 Tryz.underlying107
  cases hao : ao with
  | none =>
    have hz0 : zs = [] := by
      rcases hb with ⟨h0, _⟩ | ⟨_, b2, off, cap2, he2, _⟩
      · exact h0
      · simp [hao] at he2
    subst hz0
    subst hao
    have he := fun w1 => Lib.run_eql_slice_nil (P := Tryz.prog) w1 107 5 none 0 cap 0 0 Tryz.underlying107
    go_enter Tryz.func86, Tryz.ntmps86
    go_wp2
    go_ret
    exact ⟨none, 0, rfl, World.ownsRow_nil _ _ _ _, Below.refl _ _⟩
  | some a =>
    subst hao
    have hown0 : Ow (w.alloc (.cells #[] 5)) w.heap.size (.slice (some ⟨w.heap.size, 0, none⟩) 0 0) [] := Ow_of_block (heap_alloc_new w _) (by simp) (Nat.le_refl _)
    have hb1 : Bs (w.alloc (.cells #[] 5)) (.slice (some a) zs.length cap) zs := hb.below ((Below.refl _ _).alloc (Nat.le_refl _) _) (Nat.le_refl _)
    go_enter Tryz.func86, Tryz.ntmps86
    go_wp2_with (at_builtin; refine wpList_append_bs _ rfl (.tmp 5) (.tmp 6) rfl w.heap.size _ [] rfl hown0 _ zs rfl hb1 (by simp; omega) (by simp) ?_)
    intro ao2 cap2 w2 hown hgrow hat
    go_wp2
    go_ret
    exact ⟨ao2, cap2, rfl, hown, ((Below.refl _ _).alloc (Nat.le_refl _) _).grown hgrow (by simp) (fun k hk => by simp [Value.ownBlock] at hk; omega)⟩

theorem out_w (b : Nat) (v : Value) (xs : List Int) (w : World) (hw : Wr w b v xs) (hn : xs.length ≤ 100000000000000) :
    Calls Tryz.prog 78 #[.pointer (some ⟨b, 0, none⟩)] w fun e w' => ∃ ao cap, e = .returned (.slice ao xs.length cap) ∧ Ow w' w.heap.size (.slice ao xs.length cap) xs ∧ Below w.heap.size w w' := by
  have hc := hw.cell
  go_enter Tryz.func78, Tryz.ntmps78
  go_wp2_with (go_at_call 86; refine (clone_any v xs _ hw.2.bs hn).mono ?_; rintro e w1 ⟨ao, cap, rfl, hown, hbel⟩)
  go_ret
  exact ⟨ao, cap, rfl, hown, hbel⟩

theorem out_nil (w : World) : Calls Tryz.prog 78 #[.pointer none] w fun e w' => e = .returned (.slice none 0 0) ∧ w = w' := by
  go_enter Tryz.func78, Tryz.ntmps78
  go_wp2
  go_ret
  exact ⟨rfl, rfl⟩

end Go.Proofs.YtbfldcieibdapabGreat.Oc
end

section
/-
  The law's own helper same: whether two rows of bytes are one; nothing is written.
-/
namespace Go.Proofs.YtbfldcieibdapabGreat.Oc
open Go.RowKit

/-- The memory is as it was (orders may have been drawn). -/
structure Sm (w w' : World) : Prop where
  os : w'.os = w.os
  tape : w'.tape = w.tape
  output : w'.output = w.output
  heap : w'.heap = w.heap
theorem Sm.refl (w : World) : Sm w w := ⟨rfl, rfl, rfl, rfl⟩
theorem Sm.trans {a b c : World} (h : Sm a b) (k : Sm b c) : Sm a c := ⟨k.os.trans h.os, k.tape.trans h.tape, k.output.trans h.output, k.heap.trans h.heap⟩
theorem Sm.drewN (w : World) (n : Nat) : Sm w (w.drewN n) := ⟨rfl, rfl, rfl, rfl⟩
theorem Sm.below {w w' : World} (h : Sm w w') (B : Nat) : Below B w w' := ⟨h.os, h.tape, h.output, by rw [h.heap]; exact Nat.le_refl _, fun k _ => by rw [h.heap]⟩
theorem Sm.bs {w w' : World} (h : Sm w w') {v : Value} {zs : List Int} (hb : Bs w v zs) : Bs w' v zs := hb.keep fun k _ _ => by rw [h.heap]
theorem Sm.ow {w w' : World} (h : Sm w w') {v : Value} {base : Nat} {zs : List Int} (hb : Ow w base v zs) : Ow w' base v zs := by
  unfold Ow World.ownsRow at *; rw [h.heap]; exact hb
theorem Sm.wr {w w' : World} (h : Sm w w') {v : Value} {b : Nat} {zs : List Int} (hb : Wr w b v zs) : Wr w' b v zs := ⟨by rw [h.heap]; exact hb.1, h.ow hb.2⟩
theorem Sm.size {w w' : World} (h : Sm w w') : w'.heap.size = w.heap.size := by rw [h.heap]

theorem eq_of_all (xs ys : List Int) (hl : xs.length = ys.length) (h : ∀ j, j < xs.length → xs.getD j 0 = ys.getD j 0) : xs = ys := by
  apply List.ext_getElem hl
  intro i h1 h2
  have := h i h1
  simpa [List.getD, h1, h2] using this
/-- One test for both: an unfolded 'decide' would part the walk. -/
def eqB (xs ys : List Int) : Bool := decide (xs = ys)
theorem eqB_true {xs ys : List Int} (h : xs = ys) : eqB xs ys = true := by simp [eqB, h]
theorem eqB_false {xs ys : List Int} (h : xs ≠ ys) : eqB xs ys = false := by simp [eqB, h]

end Go.Proofs.YtbfldcieibdapabGreat.Oc
end

section
/-
  octet.Sum: what it answers, for every row of bytes.
-/
namespace Go.Proofs.YtbfldcieibdapabGreat.Oc
open Go.RowKit
/-- Bytes. -/
def Byt (xs : List Int) : Prop := ∀ z ∈ xs, 0 ≤ z ∧ z < 256

theorem getD_mem (xs : List Int) (k : Nat) (h : k < xs.length) : xs.getD k 0 ∈ xs := by simp [List.getD, h]

end Go.Proofs.YtbfldcieibdapabGreat.Oc
end
