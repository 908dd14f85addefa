/-
  The law's texts: two lists of the same texts.
-/
import Derived.Test.YthkgmnmdojmfgaaRowsW
namespace Go.Proofs.Ythkgmnmdojmfgaa
open Go.RowKit Go.Maps
variable {w w' w0 : World}

/-- The slice v reads as the texts xs. -/
def St (w : World) (v : Value) (xs : List Nm) : Prop := ∃ ao cap, v = .slice ao xs.length cap ∧ (xs ≠ [] → ∃ b off, ao = some ⟨b, off, none⟩ ∧ ∀ i x, xs[i]? = some x → w.cell? ⟨b, off + i, none⟩ = some (encStr x))
theorem St.below {v : Value} {xs : List Nm} (h : St w v xs) (hb : Below w.heap.size w w') : St w' v xs := by
  obtain ⟨ao, cap, hv, hc⟩ := h
  refine ⟨ao, cap, hv, fun hne => ?_⟩
  obtain ⟨b, off, e, hcell⟩ := hc hne
  refine ⟨b, off, e, fun i x hi => ?_⟩
  have h1 := hcell i x hi
  rw [World.cell?_of_block (w := w) (hb.block b (World.block_lt_of_cell? w _ h1))]
  exact h1
theorem St.sm {v : Value} {xs : List Nm} (h : St w v xs) (hs : Sm w w') : St w' v xs := h.below (hs.below _)
theorem St_row {base : Nat} {v : Value} {xs : List Nm} (h : w.ownsRow base 9 1 v xs.length (xs.map encStr)) : St w v xs := by
  rcases row_str h with ⟨e1, e2⟩ | ⟨g, cap, e1, _, _, e4⟩
  · subst e2
    exact ⟨none, 0, e1, fun e => absurd rfl e⟩
  · exact ⟨_, cap, e1, fun _ => ⟨g, 0, rfl, fun i x hi => by rw [Nat.zero_add]; exact e4 i x hi⟩⟩
theorem St_one (x : Nm) (w : World) : St (w.alloc (.cells #[encStr x] 9)) (.slice (some ⟨w.heap.size, 0, none⟩) 1 1) [x] := by
  refine ⟨_, 1, rfl, fun _ => ⟨w.heap.size, 0, rfl, fun i y hi => ?_⟩⟩
  have h0 : i = 0 := by have := (List.getElem?_eq_some_iff.1 hi).1; simp at this; exact this
  subst h0
  simp at hi
  subst hi
  simp
set_option maxHeartbeats 800000 in
theorem texts_same (va vb : Value) (xs : List Nm) (w : World) (ha : St w va xs) (hb : St w vb xs) (hl : xs.length ≤ 100000000) :
    Calls Try.prog 28 #[va, vb] w fun e w' => e = .returned (.bool true) ∧ Sm w w' := by
  obtain ⟨a1, c1, h1, hc1⟩ := ha
  obtain ⟨a2, c2, h2, hc2⟩ := hb
  subst h1; subst h2
  have HC1 := hid_into hc1
  have HC2 := hid_into hc2
  clear hc1 hc2
  have hne : ((xs.length : Int) != (xs.length : Int)) = false := by simp
  go_enter Try.func28, Try.ntmps28
  go_wp2
  go_loopw [5] (fun i wr => ∃ k : Nat, k ≤ xs.length ∧ i = .int .i64 k ∧ Sm w wr) (fun i _ => xs.length - (intOf i).toNat)
  case atStart => exact ⟨0, Nat.zero_le _, rfl, Sm.refl _⟩
  case round =>
    obtain ⟨k, hk, rfl, hsm⟩ := hrel
    by_cases hlt : k < xs.length
    · have hxne : xs ≠ [] := fun e => by rw [e] at hlt; simp at hlt
      obtain ⟨b1, o1, rfl, hcell1⟩ := HC1.out hxne
      obtain ⟨b2, o2, rfl, hcell2⟩ := HC2.out hxne
      have hg : xs[k]? = some xs[k] := List.getElem?_eq_getElem hlt
      have hx : wr.cell? ⟨b1, o1 + k, none⟩ = some (encStr xs[k]) := by rw [World.cell?_of_block (w := w) (by rw [hsm.heap])]; exact hcell1 k _ hg
      have hy : wr.cell? ⟨b2, o2 + k, none⟩ = some (encStr xs[k]) := by rw [World.cell?_of_block (w := w) (by rw [hsm.heap])]; exact hcell2 k _ hg
      generalize xs[k] = x at *
      clear hcell1 hcell2 hg hxne
      go_wp2
      go_quiet (fail)
      go_wp2
      go_roundw
      case rel => exact ⟨k + 1, by omega, by go_num, hsm.trans (Sm.drewN _ _)⟩
      case measure => simp [intOf]; omega
    · go_wp2
      go_ret
      exact ⟨rfl, hsm⟩
end Go.Proofs.Ythkgmnmdojmfgaa
