/-
  timers' queue: Swap, by a contract.
-/
import Derived.Test.YtilaankipjcgaaaQueue
import Derived.Deep.RegionHeld3
namespace Go.Proofs.Ytilaankipjcgaaa
open Go.RowKit
variable {w w' : World} {v : Value} {q : List Th}
theorem Qu.apart (h : Qu w v q) {k l : Nat} {s t : Th} (hk : q[k]? = some s) (hl : q[l]? = some t) (hn : k ≠ l) : s.b ≠ t.b := by
  obtain ⟨k1, k2⟩ := List.getElem?_eq_some_iff.1 hk
  obtain ⟨l1, l2⟩ := List.getElem?_eq_some_iff.1 hl
  have := List.pairwise_iff_getElem.1 h.dis
  rcases Nat.lt_or_gt_of_ne hn with hlt | hlt
  · have := this k l k1 l1 hlt; rw [k2, l2] at this; exact this
  · have := this l k l1 k1 hlt; rw [k2, l2] at this; exact this.symm
theorem Qu.row_ne (h : Qu w v q) {g : Nat} (hg : v.ownBlock = some g) {k : Nat} {t : Th} (hk : q[k]? = some t) : g ≠ t.b := by
  intro e
  have h1 := h.th k t hk
  rcases h.row.2 with ⟨h2, _⟩ | ⟨g', cap, cur, h2, h3, h4, _⟩
  · rw [h2] at hg; cases hg
  · rw [h2] at hg
    obtain rfl : g' = g := by simpa [Value.ownBlock] using hg
    rw [Cw, ← e, h4] at h1
    simp at h1
/-- What Swap leaves. -/
theorem Qu.swapped (h : Qu w v q) {g n cap : Nat} (hv : v = .slice (some ⟨g, 0, none⟩) n cap) {i j : Nat} {ti tj : Th} (ei : q[i]? = some ti) (ej : q[j]? = some tj) (hij : i ≠ j) :
    Qu ((((w.setCell ⟨g, i, none⟩ (.pointer (some ⟨tj.b, 0, none⟩))).setCell ⟨g, j, none⟩ (.pointer (some ⟨ti.b, 0, none⟩))).setCell ⟨tj.b, 2, none⟩ (.int .i64 (i : Int))).setCell ⟨ti.b, 2, none⟩ (.int .i64 (j : Int))) v (swp q i j) := by
  have hi := (List.getElem?_eq_some_iff.1 ei).1
  have hj := (List.getElem?_eq_some_iff.1 ej).1
  have n1 := h.row_ne (g := g) (by rw [hv]; rfl) ei
  have n2 := h.row_ne (g := g) (by rw [hv]; rfl) ej
  have n3 := h.apart ei ej hij
  have oth : ∀ k, k ≠ g → k ≠ ti.b → k ≠ tj.b → ((((w.setCell ⟨g, i, none⟩ (.pointer (some ⟨tj.b, 0, none⟩))).setCell ⟨g, j, none⟩ (.pointer (some ⟨ti.b, 0, none⟩))).setCell ⟨tj.b, 2, none⟩ (.int .i64 (i : Int))).setCell ⟨ti.b, 2, none⟩ (.int .i64 (j : Int))).heap[k]? = w.heap[k]? := by
    intro k k1 k2 k3
    rw [Below.heap_setCell _ _ _ _ k2, Below.heap_setCell _ _ _ _ k3, Below.heap_setCell _ _ _ _ k1, Below.heap_setCell _ _ _ _ k1]
  refine ⟨?_, ?_, ?_, ?_⟩
  · rw [swp_len]
    obtain ⟨g', cap', rfl, -⟩ := h.form (by omega)
    simp only [Value.slice.injEq, Option.some.injEq, Addr.mk.injEq] at hv
    obtain ⟨⟨rfl, -⟩, -, rfl⟩ := hv
    have h1 := ((h.row.stored i (.pointer (some ⟨tj.b, 0, none⟩))).1.stored j (.pointer (some ⟨ti.b, 0, none⟩))).1
    have h2 := ownsRow_setCell_other h1 (a := ⟨tj.b, 2, none⟩) (by simpa [Value.ownBlock] using n2) (.int .i64 (i : Int))
    have h3 := ownsRow_setCell_other h2 (a := ⟨ti.b, 2, none⟩) (by simpa [Value.ownBlock] using n1) (.int .i64 (j : Int))
    have e : (swp q i j).map (fun t => ptrV t.b) = ((q.map fun t => ptrV t.b).set i (.pointer (some ⟨tj.b, 0, none⟩))).set j (.pointer (some ⟨ti.b, 0, none⟩)) := by
      simp only [swp, List.map_set, List.getD, ei, ej, Option.getD_some, ptrV]
    rw [e]
    exact h3
  · intro k t hk
    rw [swp_get hi hj] at hk
    by_cases e : k = j
    · subst e
      rw [if_pos rfl, ei] at hk
      obtain rfl := Option.some.inj hk
      have h1 := h.th i ti ei
      have h2 : Cw (((w.setCell ⟨g, i, none⟩ (.pointer (some ⟨tj.b, 0, none⟩))).setCell ⟨g, k, none⟩ (.pointer (some ⟨ti.b, 0, none⟩))).setCell ⟨tj.b, 2, none⟩ (.int .i64 (i : Int))) ti.b (thv ti i) 52 :=
        h1.keep (by rw [Below.heap_setCell _ _ _ _ n3, Below.heap_setCell _ _ _ _ (Ne.symm n1), Below.heap_setCell _ _ _ _ (Ne.symm n1)])
      exact h2.set 2 _
    · rw [if_neg e] at hk
      by_cases e2 : k = i
      · subst e2
        rw [if_pos rfl, ej] at hk
        obtain rfl := Option.some.inj hk
        have h1 := h.th j tj ej
        have h2 : Cw ((w.setCell ⟨g, k, none⟩ (.pointer (some ⟨tj.b, 0, none⟩))).setCell ⟨g, j, none⟩ (.pointer (some ⟨ti.b, 0, none⟩))) tj.b (thv tj j) 52 :=
          h1.keep (by rw [Below.heap_setCell _ _ _ _ (Ne.symm n2), Below.heap_setCell _ _ _ _ (Ne.symm n2)])
        exact (h2.set 2 _).keep (Below.heap_setCell _ _ _ _ (Ne.symm n3))
      · rw [if_neg e2] at hk
        exact (h.th k t hk).keep (oth _ (Ne.symm (h.row_ne (by rw [hv]; rfl) hk)) (h.apart hk ei e2) (h.apart hk ej e))
  · exact (swp_perm hi hj).symm.pairwise h.dis fun hab => Ne.symm hab
  · rw [swp_len]; exact h.len
set_option maxHeartbeats 1000000 in
theorem swap_any (h : Qu w v q) (i j : Nat) (hi : i < q.length) (hj : j < q.length) (hij : i ≠ j) :
    Calls Try.prog 46 #[v, .int .i64 (i : Int), .int .i64 (j : Int)] w fun e w' => e = .returned (.tuple #[]) ∧ Qu w' v (swp q i j) ∧ Grows (own v q) w w' := by
  obtain ⟨g, cap, rfl, hc1, hc2, cur, hg⟩ := h.form (by omega)
  obtain ⟨ti, ei⟩ : ∃ t, q[i]? = some t := ⟨_, List.getElem?_eq_getElem hi⟩
  obtain ⟨tj, ej⟩ : ∃ t, q[j]? = some t := ⟨_, List.getElem?_eq_getElem hj⟩
  obtain ⟨a0, a1, a2, a3⟩ := h.cells rfl ei
  obtain ⟨b0, b1, b2, b3⟩ := h.cells rfl ej
  have f1 := h.row.frozenAt i
  have f2 := h.row.frozenAt j
  have f3 := (h.th i ti ei).frozen 2
  have f4 := (h.th j tj ej).frozen 2
  have n1 := h.row_ne (g := g) rfl ei
  have n2 := h.row_ne (g := g) rfl ej
  have n3 := h.apart ei ej hij
  have n1' := Ne.symm n1
  have n2' := Ne.symm n2
  have n3' := Ne.symm n3
  have hij' := Ne.symm hij
  have H := hid_into h
  have hl := h.len
  unfold maxLen at hc2
  clear h
  go_enter Try.func46, Try.ntmps46
  go_wp2_with fail
  go_region
  go_wp2_with fail
  go_region
  go_end0
  refine ⟨rfl, ?_, ?_⟩
  · exact (H.out.swapped rfl ei ej hij).keep fun k _ => rfl
  · refine ⟨rfl, rfl, rfl, by simp [World.setCell, World.drew], fun k _ hf => ?_⟩
    have k1 : k ≠ g := fun e => hf (Or.inl (by rw [e]; rfl))
    have k2 : k ≠ ti.b := fun e => hf (Or.inr ⟨ti, List.mem_of_getElem? ei, e.symm⟩)
    have k3 : k ≠ tj.b := fun e => hf (Or.inr ⟨tj, List.mem_of_getElem? ej, e.symm⟩)
    show ((((w.setCell _ _).setCell _ _).setCell _ _).setCell _ _).heap[k]? = _
    rw [Below.heap_setCell _ _ _ _ k2, Below.heap_setCell _ _ _ _ k3, Below.heap_setCell _ _ _ _ k1, Below.heap_setCell _ _ _ _ k1]
end Go.Proofs.Ytilaankipjcgaaa
