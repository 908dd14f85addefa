/-
  DiskPlays: what a store into a file's row, or into the disk's own block, leaves of the document's disk.
-/
import Derived.Test.YthkgmnmdojmfgaaPlayNames
namespace Go.Proofs.Ythkgmnmdojmfgaa
open Go.RowKit Go.Maps Go.Sort

theorem ownsRow_other {w : World} {base : Nat} {t : TypeId} {sz : Nat} {v : Value} {n : Nat} {cs : List Value} (h : w.ownsRow base t sz v n cs) (b i : Nat) (u : Value) (hb : v.ownBlock ≠ some b) : (w.setCell ⟨b, i, none⟩ u).ownsRow base t sz v n cs := by
  refine ⟨h.1, ?_⟩
  rcases h.2 with h2 | ⟨g, cap, cur, rfl, hg0, hg, rest⟩
  · exact Or.inl h2
  · exact Or.inr ⟨g, cap, cur, rfl, hg0, by rw [Below.heap_setCell _ _ _ _ (fun e => hb (by simp [Value.ownBlock]; exact e))]; exact hg, rest⟩
theorem ownsRow_set {w : World} {base : Nat} {t : TypeId} {sz g cap n : Nat} {cs : List Value} (h : w.ownsRow base t sz (.slice (some ⟨g, 0, none⟩) n cap) n cs) (i : Nat) (u : Value) :
    (w.setCell ⟨g, i, none⟩ u).ownsRow base t sz (.slice (some ⟨g, 0, none⟩) n cap) n (cs.set i u) := by
  refine ⟨by simpa using h.1, ?_⟩
  rcases h.2 with ⟨h2, _⟩ | ⟨g', cap', cur, he, hg0, hg, hn, hc, hs, ht⟩
  · simp at h2
  · simp only [Value.slice.injEq, Option.some.injEq, Addr.mk.injEq, and_true, true_and] at he
    obtain ⟨rfl, rfl⟩ := he
    refine Or.inr ⟨g, cap, cur.setIfInBounds i u, rfl, hg0, ?_, hn, hc, by simpa using hs, ?_⟩
    · simp only [World.setCell, Array.getElem?_modify, hg]
      simp
    · rw [Array.toList_setIfInBounds, List.take_set, ht]
theorem cells3_set : ∀ (L : List Fl3) (k : Nat) (f : Fl3) (n : Nat), L[k]? = some f → cells3 (L.set k { f with l := n }) = (cells3 L).set (k * 3 + 2) (.int .i64 (n : Int))
  | [], _, _, _, h => by simp at h
  | g :: L, 0, f, n, h => by
    have e : g = f := by simpa using h
    subst e
    simp [cells3, Fl3.cells]
  | g :: L, k + 1, f, n, h => by
    have ih := cells3_set L k f n (by simpa using h)
    have e1 : cells3 (g :: L) = g.cells ++ cells3 L := by simp [cells3]
    have e2 : cells3 ((g :: L).set (k + 1) { f with l := n }) = g.cells ++ cells3 (L.set k { f with l := n }) := by simp [cells3]
    have h3 : g.cells.length = 3 := rfl
    rw [e1, e2, ih, List.set_append_right _ _ (by rw [h3]; omega), h3, show (k + 1) * 3 + 2 - 3 = k * 3 + 2 by omega]

/-- How many of a file's bytes last is another number. -/
theorem Rk.setL {w : World} {base wb g cap : Nat} {room left : Int} {L : List Fl3} {k n : Nat} {f : Fl3} (h : Rk w base wb (.slice (some ⟨g, 0, none⟩) L.length cap) room left L) (hf : L[k]? = some f) (hn : n ≤ f.zs.length) :
    Rk (w.setCell ⟨g, k * 3 + 2, none⟩ (.int .i64 (n : Int))) base wb (.slice (some ⟨g, 0, none⟩) (L.set k { f with l := n }).length cap) room left (L.set k { f with l := n }) := by
  have hgw : g ≠ wb := fun e => h.sep (by simp [Value.ownBlock]; exact e)
  refine ⟨?_, ?_, ?_, by simpa using h.few, h.wbb, by simpa [Value.ownBlock] using hgw⟩
  · rw [List.length_set]
    have := h.blk
    unfold Cw at this ⊢
    rw [Below.heap_setCell _ _ _ _ (fun e => hgw e.symm)]
    exact this
  · rw [cells3_set L k f n hf, List.length_set]
    exact ownsRow_set h.row _ _
  · intro q hq
    have key : ∀ p ∈ L, Ow (w.setCell ⟨g, k * 3 + 2, none⟩ (.int .i64 (n : Int))) base p.v p.zs ∧ ∀ b, p.v.ownBlock = some b → b ≠ wb ∧ (Value.slice (some ⟨g, 0, none⟩) (L.set k { f with l := n }).length cap).ownBlock ≠ some b := by
      intro p hp
      obtain ⟨h1, _, _, h4⟩ := h.each p hp
      have hne : p.v.ownBlock ≠ some g := fun e => (h4 g e).2 (by simp [Value.ownBlock])
      exact ⟨ownsRow_other h1 g _ _ hne, fun b hb => ⟨(h4 b hb).1, by simpa [Value.ownBlock] using (h4 b hb).2⟩⟩
    rcases List.mem_or_eq_of_mem_set hq with hm | rfl
    · obtain ⟨_, h2, h3, _⟩ := h.each q hm
      exact ⟨(key q hm).1, h2, h3, (key q hm).2⟩
    · have hm := List.mem_of_getElem? hf
      obtain ⟨_, h2, _, _⟩ := h.each f hm
      exact ⟨(key f hm).1, h2, hn, (key f hm).2⟩
/-- What the fuse lets is another number. -/
theorem Rk.setF {w : World} {base wb : Nat} {v : Value} {room left left' : Int} {L : List Fl3} (h : Rk w base wb v room left L) : Rk (w.setCell ⟨wb, 2, none⟩ (.int .i64 left')) base wb v room left' L := by
  refine ⟨?_, ownsRow_other h.row wb _ _ h.sep, fun f hf => ?_, h.few, h.wbb, h.sep⟩
  · have := h.blk
    unfold Cw at this ⊢
    simp only [World.setCell, Array.getElem?_modify, this]
    simp
  · obtain ⟨h1, h2, h3, h4⟩ := h.each f hf
    exact ⟨ownsRow_other h1 wb _ _ (fun e => (h4 wb e).1 rfl), h2, h3, h4⟩
/-- What one of the five leaves of the fuse. -/
def didL (left : Int) : Int := if 0 < left then left - 1 else left
theorem Rk.did {w : World} {base wb : Nat} {v : Value} {room left : Int} {L : List Fl3} (h : Rk w base wb v room left L) : Rk (didW w wb left) base wb v room (didL left) L := by
  unfold didW didL
  split
  · exact h.setF
  · exact h
end Go.Proofs.Ythkgmnmdojmfgaa
