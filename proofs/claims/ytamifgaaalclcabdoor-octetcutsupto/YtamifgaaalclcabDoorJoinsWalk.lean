/-
  OctetJoins, walked: for every two rows of fields it answers true, and writes nothing that was there.
-/
import Derived.Test.YtamifgaaalclcabDoorFieldRows
import Derived.Deep.RegionHeld3
namespace Go.Proofs.YtamifgaaalclcabDoor
open Go.RowKit

/-- nil, or not: a slice's shape. -/
def NN (v : Value) : Prop := v = .slice none 0 0 ∨ ∃ a l c, v = .slice (some a) l c
theorem NN.at0 {v : Value} {w : World} {fs : List Fd} (h : NN v) (hf : Fs w v fs) : fs = [] → ∃ a c, v = .slice (some a) 0 c ∨ v = .slice none 0 0 := by
  intro h0
  obtain ⟨ao, cap, hv, _⟩ := hf.len
  subst h0
  rcases h with rfl | ⟨a, l, c, rfl⟩
  · exact ⟨default, 0, Or.inr rfl⟩
  · simp only [Value.slice.injEq, List.length_nil] at hv
    obtain ⟨_, rfl, _⟩ := hv
    exact ⟨a, c, Or.inl rfl⟩

theorem Bs.lt {w : World} {v : Value} {zs : List Int} (h : Bs w v zs) (hz : zs ≠ []) : ∀ k, v.ownBlock = some k → k < w.heap.size := by
  rcases h with ⟨h0, _⟩ | ⟨_, b, off, cap, rfl, _, _, hcell⟩
  · exact absurd h0 hz
  · intro k hk
    have hk' : b = k := by simpa [Value.ownBlock] using hk
    subst hk'
    exact World.block_lt_of_cell? w _ (hcell 0 (List.length_pos_iff.2 hz))
theorem Bs.step2 {b : Nat} {w w' : World} {v v' sv : Value} {zs : List Int} (h : Bs w sv zs) (hs : Wstep b w v w' v') (hsep : zs ≠ [] → ∀ k, sv.ownBlock = some k → k ≠ b ∧ some k ≠ v.ownBlock) : Bs w' sv zs := by
  by_cases hz : zs = []
  · rcases h with h | ⟨h, _⟩
    · exact Or.inl h
    · exact absurd hz h
  · exact h.step hs (hsep hz)

set_option maxHeartbeats 800000 in
theorem bytes_w2 (b : Nat) (v : Value) (xs : List Int) (sv : Value) (zs : List Int) (w : World) (hw : Wr w b v xs) (hb : Bs w sv zs) (hsep : zs ≠ [] → ∀ k, sv.ownBlock = some k → k ≠ b ∧ some k ≠ v.ownBlock)
    (hn : xs.length ≤ 100000000000) (hz : zs.length ≤ 100000000000) :
    Calls Tryd.prog 23 #[.pointer (some ⟨b, 0, none⟩), sv] w fun e w' => e = .returned (.tuple #[]) ∧ ∃ v', Wr w' b v' (xs ++ numOf zs.length ++ zs) ∧ Wstep b w v w' v' := by
  obtain ⟨ao, cap, hsv, hm⟩ := hb.len
  subst hsv
  go_enter Tryd.func23, Tryd.ntmps23
  go_wp2_with fail
  refine (num_w b v xs _ _ hw (by omega) (by omega) (by omega)).mono ?_
  rintro e w1 ⟨rfl, v1, hw1, hs1⟩
  have hnl := numOf_length (zs.length : Int)
  have hb1 := hb.step2 hs1 hsep
  obtain ⟨ys, hys⟩ : ∃ ys, ys = xs ++ numOf zs.length := ⟨_, rfl⟩
  rw [← hys] at hw1
  have hyl : ys.length ≤ 110000000000 := by rw [hys, List.length_append]; omega
  have HY : Hid (ys = xs ++ numOf zs.length) := hys
  clear hys
  have hc1 := hw1.cell
  have hf1 := hw1.frozen
  have hlt1 := hw1.lt
  obtain ⟨ao1, cap1, hv1, hj⟩ := hw1.2.form
  clear hj
  subst hv1
  go_wp2_with (at_builtin; refine wpList_append_bs _ rfl (.tmp 14) (.tmp 15) rfl (b + 1) _ _ rfl hw1.2 _ zs rfl hb1 (by omega) (by omega) ?_)
  intro ao2 cap2 w2 hown hgrow hat
  have R := step_of_append hw1 (Below.refl _ _) hown hgrow hat
  have hc2 : w2.cell? ⟨b, 0, none⟩ = some (.slice ao1 ys.length cap1) := by
    rw [hgrow.cell_far _ hlt1 (fun e => by have := (World.ownsRow.lt hw1.2) b e.symm; omega)]; exact hc1
  have hf2 : w2.frozen? ⟨b, 0, none⟩ = false := by
    rw [hgrow.frozen_far _ hlt1 (fun e => by have := (World.ownsRow.lt hw1.2) b e.symm; omega)]; exact hf1
  clear hown hgrow hat
  go_wp2
  go_end0
  rw [← HY.out]
  exact ⟨rfl, _, R.1, hs1.trans R.2⟩

/-- A field of a row, in a later world: its slice's cell, its bytes. -/
theorem Fs.at {w w' : World} {b : Nat} {off len cap : Nat} {fs : List Fd} (h : Fs w (.slice (some ⟨b, off, none⟩) len cap) fs) (hB : Below w.heap.size w w') (k : Nat) (hk : k < fs.length) :
    w'.cell? ⟨b, off + k * 35 + 2, none⟩ = some fs[k].bv ∧ Bs w' fs[k].bv fs[k].bs ∧ fs[k].ok w ∧ b < w.heap.size := by
  rcases h with ⟨rfl, _⟩ | ⟨_, b', off', cap', he, h1, h2, hcell⟩
  · simp at hk
  · simp only [Value.slice.injEq, Option.some.injEq, Addr.mk.injEq, and_true] at he
    obtain ⟨⟨rfl, rfl⟩, rfl, rfl⟩ := he
    obtain ⟨hra, hok⟩ := hcell k fs[k] (by simp [hk])
    have hc : w.cell? ⟨b, off + k * 35 + 2, none⟩ = some fs[k].bv := hra 2 _ rfl
    have hlt : b < w.heap.size := World.block_lt_of_cell? w _ hc
    exact ⟨by rw [hB.cell (p := ⟨b, off + k * 35 + 2, none⟩) hlt]; exact hc, hok.b.below hB (Nat.le_refl _), hok, hlt⟩

theorem Wr.keepBelow {w w' : World} {b B : Nat} {v : Value} {xs : List Int} (h : Wr w b v xs) (hB : Below B w w') (hs : w.heap.size ≤ B) : Wr w' b v xs :=
  ⟨by rw [hB.block b (by have := h.lt; omega)]; exact h.1, h.2.keep fun k _ hk => hB.block k (by omega)⟩
theorem encB_byt {fs : List Fd} (h : ∀ f ∈ fs, Byt f.bs ∧ f.bs.length ≤ 140737488355328) : Byt (encB fs) := by
  intro z hz
  obtain ⟨f, hf, hz⟩ := List.mem_flatMap.1 hz
  rcases List.mem_append.1 hz with hz | hz
  · exact numOf_byt _ (by omega) (by have := (h f hf).2; omega) z hz
  · exact (h f hf).1 z hz
theorem encB_take (l : List Fd) (k : Nat) (h : k < l.length) : encB (l.take (k + 1)) = encB (l.take k) ++ numOf l[k].bs.length ++ l[k].bs := by
  rw [List.take_succ_eq_append_getElem h, encB_append, encB_one, List.append_assoc]
theorem roomF_take (l : List Fd) (k : Nat) : roomF (l.take k) ≤ roomF l := by
  conv => rhs; rw [← List.take_append_drop k l, roomF_append]
  omega
theorem roomF_drop (l : List Fd) (k : Nat) : roomF (l.drop k) ≤ roomF l := by
  conv => rhs; rw [← List.take_append_drop k l, roomF_append]
  omega

end Go.Proofs.YtamifgaaalclcabDoor
