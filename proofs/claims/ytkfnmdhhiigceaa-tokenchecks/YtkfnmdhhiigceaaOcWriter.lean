/-
  The Writer: what it is in memory, and the contracts of Byte, layRow over w.Byte, Two, Four, Num, Bytes, Hash, Out.
-/
import Derived.Test.YtkfnmdhhiigceaaOcBase
import Derived.Handy
import Derived.WalkSpells
namespace Go.Proofs.Ytkfnmdhhiigceaa.Oc
open Go.RowKit

/-- Block b is a Writer that has laid xs; its slice is v. -/
def Wr (w : World) (b : Nat) (v : Value) (xs : List Int) : Prop := w.heap[b]? = some (.cells #[v] 44 (0, 0)) ∧ Ow w (b + 1) v xs

/-- What a Writer's step leaves: all but the Writer's own block and row is as it was. -/
structure Wstep (b : Nat) (w : World) (v : Value) (w' : World) (v' : Value) : Prop where
  os : w'.os = w.os
  tape : w'.tape = w.tape
  output : w'.output = w.output
  size : w.heap.size ≤ w'.heap.size
  block : ∀ k, k < w.heap.size → k ≠ b → some k ≠ v.ownBlock → w'.heap[k]? = w.heap[k]?
  own : v'.ownBlock = v.ownBlock ∨ ∃ g, v'.ownBlock = some g ∧ w.heap.size ≤ g

theorem Wstep.refl (b : Nat) (w : World) (v : Value) : Wstep b w v w v := ⟨rfl, rfl, rfl, Nat.le_refl _, fun _ _ _ _ => rfl, Or.inl rfl⟩
theorem Wstep.trans {b : Nat} {w w1 w2 : World} {v v1 v2 : Value} (h : Wstep b w v w1 v1) (k : Wstep b w1 v1 w2 v2) : Wstep b w v w2 v2 := by
  refine ⟨k.os.trans h.os, k.tape.trans h.tape, k.output.trans h.output, Nat.le_trans h.size k.size, fun i hi hb hv => ?_, ?_⟩
  · refine (k.block i (Nat.lt_of_lt_of_le hi h.size) hb ?_).trans (h.block i hi hb hv)
    rcases h.own with e | ⟨g, e, hg⟩
    · rw [e]; exact hv
    · rw [e]; intro hh; have := Option.some.inj hh; omega
  · rcases k.own with e | ⟨g, e, hg⟩
    · rw [e]; exact h.own
    · exact Or.inr ⟨g, e, Nat.le_trans h.size hg⟩

theorem Wr.lt {w : World} {b : Nat} {v : Value} {xs : List Int} (h : Wr w b v xs) : b < w.heap.size := (Array.getElem?_eq_some_iff.1 h.1).1
theorem Wr.cell {w : World} {b : Nat} {v : Value} {xs : List Int} (h : Wr w b v xs) : w.cell? ⟨b, 0, none⟩ = some v := by
  rw [cell_of_row w b 0 _ _ _ h.1]; rfl
theorem Wr.frozen {w : World} {b : Nat} {v : Value} {xs : List Int} (h : Wr w b v xs) : w.frozen? ⟨b, 0, none⟩ = false := by
  simp [World.frozen?, h.1]

/-- Behind an append (from w, perhaps behind a new block) and the store of the new slice. -/
theorem step_of_append {w w0 w1 : World} {b : Nat} {v v' : Value} {xs ys : List Int} (hw : Wr w b v xs) (h0 : Below w.heap.size w w0) (hown : Ow w1 (b + 1) v' ys) (hg : w0.grownBy w1 v.ownBlock)
    (hat : v'.ownBlock = v.ownBlock ∨ v'.ownBlock = some w0.heap.size) : Wr (w1.setCell ⟨b, 0, none⟩ v') b v' ys ∧ Wstep b w v (w1.setCell ⟨b, 0, none⟩ v') v' := by
  have hlt := hw.lt
  have hs0 := h0.size
  have hvb : some b ≠ v.ownBlock := by
    intro e
    have := (World.ownsRow.lt hw.2) b e.symm
    omega
  have hb1 : w1.heap[b]? = some (.cells #[v] 44 (0, 0)) := by
    rw [hg.block b (by omega) hvb, h0.block b hlt]; exact hw.1
  refine ⟨⟨?_, ?_⟩, ⟨?_, ?_, ?_, ?_, ?_, ?_⟩⟩
  · simp only [World.setCell, Array.getElem?_modify, hb1]
    simp
  · exact ownsRow_setCell_below hown (by simp) _
  · exact hg.os.trans h0.os
  · exact hg.tape.trans h0.tape
  · exact hg.output.trans h0.output
  · have := hg.size; simp [World.setCell]; omega
  · intro k hk hkb hkv
    rw [Below.heap_setCell _ _ _ _ (by simpa using hkb), hg.block k (by omega) hkv, h0.block k hk]
  · rcases hat with e | e
    · exact Or.inl e
    · exact Or.inr ⟨_, e, hs0⟩

set_option maxHeartbeats 400000 in
theorem byte_w (b : Nat) (v : Value) (xs : List Int) (x : Int) (w : World) (hw : Wr w b v xs) (hn : xs.length ≤ 1000000000000) :
    Calls Try.prog 17 #[.pointer (some ⟨b, 0, none⟩), .int .u8 x] w fun e w' => e = .returned (.tuple #[]) ∧ ∃ v', Wr w' b v' (xs ++ [x]) ∧ Wstep b w v w' v' := by
  have hc := hw.cell
  have hf := hw.frozen
  have hlt := hw.lt
  obtain ⟨ao0, cap0, hv, hj⟩ := hw.2.form
  clear hj
  subst hv
  have hbel : Below w.heap.size w (w.alloc (.cells #[.int .u8 x] 5)) := (Below.refl _ _).alloc (Nat.le_refl _) _
  have hown0 : Ow (w.alloc (.cells #[.int .u8 x] 5)) (b + 1) (.slice ao0 xs.length cap0) xs := World.ownsRow.alloc hw.2 _
  have hbs : Bs (w.alloc (.cells #[.int .u8 x] 5)) (.slice (some ⟨w.heap.size, 0, none⟩) 1 1) [x] := Bs_of_block (heap_alloc_new w _) (by unfold maxLen; simp)
  go_enter Try.func17, Try.ntmps17
  go_wp2_with (at_builtin; refine wpList_append_bs _ rfl (.tmp 10) (.tmp 12) rfl (b + 1) _ xs rfl hown0 _ [x] rfl hbs (by simp; omega) (by simp; omega) ?_)
  intro ao cap w1 hown hgrow hat
  have R := step_of_append hw hbel hown hgrow (by simpa using hat)
  have hc1 : w1.cell? ⟨b, 0, none⟩ = some (.slice ao0 xs.length cap0) := by
    rw [hgrow.cell_far _ (by simp; omega) (fun e => by have := (World.ownsRow.lt hown0) b e.symm; omega)]
    rw [World.cell?_alloc_past _ _ _ hlt]; exact hc
  have hf1 : w1.frozen? ⟨b, 0, none⟩ = false := by
    rw [hgrow.frozen_far _ (by simp; omega) (fun e => by have := (World.ownsRow.lt hown0) b e.symm; omega)]
    rw [World.frozen?_alloc_past _ _ _ hlt]; exact hf
  clear hown hgrow hat hown0 hbs
  go_wp2
  go_end0
  exact ⟨rfl, _, R⟩
theorem byte_nil (x : Int) (w : World) :
    Calls Try.prog 17 #[.pointer none, .int .u8 x] w fun e w' => e = .returned (.tuple #[]) ∧ w' = w := by
  go_enter Try.func17, Try.ntmps17
  go_wp2
  go_end0
  exact ⟨rfl, rfl⟩

theorem Bs.step {b : Nat} {w w' : World} {v v' sv : Value} {zs : List Int} (h : Bs w sv zs) (hs : Wstep b w v w' v') (hsep : ∀ k, sv.ownBlock = some k → k ≠ b ∧ some k ≠ v.ownBlock) : Bs w' sv zs :=
  h.keep fun k hk hlt => hs.block k hlt (hsep k hk).1 (hsep k hk).2

theorem take_snoc (zs : List Int) (k : Nat) (h : k < zs.length) : zs.take (k + 1) = zs.take k ++ [zs.getD k 0] := by
  rw [List.take_succ_eq_append_getElem h]; simp [List.getD, h]

end Go.Proofs.Ytkfnmdhhiigceaa.Oc
