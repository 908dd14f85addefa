/-
  The laws' helpers roomy and stands, and the document's own Sum (one binary digit a step).
-/
import Derived.Test.YtkchdkcdkeajkaaOcKnown
namespace Go.Proofs.Ytkchdkcdkeajkaa.Oc
open Go.RowKit

theorem Ow.take {w : World} {base g m cap : Nat} {ys : List Int} (h : Ow w base (.slice (some ⟨g, 0, none⟩) m cap) ys) (k : Nat) (hk : k ≤ ys.length) : Ow w base (.slice (some ⟨g, 0, none⟩) k cap) (ys.take k) := by
  obtain ⟨ao, c, he, ⟨rfl, _⟩ | ⟨g', cur, rfl, hb, hl, hg, hn, hc, hs, ht⟩⟩ := h.form
  · simp at he
  · simp only [Value.slice.injEq, Option.some.injEq, Addr.mk.injEq, and_true] at he
    obtain ⟨rfl, rfl, rfl⟩ := he
    have hlen : (ys.take k).length = k := by simp; omega
    refine ⟨by simp [cellsOf], Or.inr ⟨g, cap, cur, by rw [hlen], hb, hg, by rw [hlen]; omega, hc, by simpa using hs, ?_⟩⟩
    rw [hlen, Nat.mul_one]
    have := congrArg (List.take k) ht
    rw [List.take_take, Nat.min_eq_left hk] at this
    rw [this]
    simp [cellsOf, List.map_take]

theorem Ow.grow_form {w : World} {base m cap : Nat} {ao : Option Addr} {ys : List Int} (h : Ow w base (.slice ao m cap) ys) (hn : ys ≠ []) : ∃ g, ao = some ⟨g, 0, none⟩ ∧ base ≤ g ∧ g < w.heap.size ∧ m = ys.length ∧ ys.length ≤ cap ∧ cap ≤ maxLen := by
  obtain ⟨ao, c, he, ⟨rfl, _, h0⟩ | ⟨g', cur, rfl, hb, hl, hg, hn, hc, hs, ht⟩⟩ := h.form
  · exact absurd h0 hn
  · simp only [Value.slice.injEq] at he
    obtain ⟨rfl, rfl, rfl⟩ := he
    exact ⟨g', rfl, hb, hl, rfl, hn, hc⟩

theorem Ow.cell {w : World} {base g m cap : Nat} {ys : List Int} (h : Ow w base (.slice (some ⟨g, 0, none⟩) m cap) ys) (i : Nat) (hi : i < ys.length) : w.cell? ⟨g, i, none⟩ = some (.int .u8 (ys.getD i 0)) := by
  have := World.ownsRow.cells h (g := g) rfl i _ (cellsOf_get' ys i hi)
  simpa [Addr.add_lit] using this
theorem Sm.cell {w w' : World} (h : Sm w w') {a : Addr} {v : Value} (hc : w.cell? a = some v) : w'.cell? a = some v := by
  rw [World.cell?_of_block (w := w) (by rw [h.heap])]; exact hc
theorem Ow.bounds {w : World} {base g m cap : Nat} {ys : List Int} (h : Ow w base (.slice (some ⟨g, 0, none⟩) m cap) ys) : m = ys.length ∧ ys.length ≤ cap ∧ cap ≤ maxLen := by
  obtain ⟨ao, c, he, ⟨rfl, _, h0⟩ | ⟨g', cur, rfl, hb, hl, hg, hn, hc, hs, ht⟩⟩ := h.form
  · simp at he
  · simp only [Value.slice.injEq] at he
    obtain ⟨_, rfl, rfl⟩ := he
    exact ⟨rfl, hn, hc⟩

end Go.Proofs.Ytkchdkcdkeajkaa.Oc
