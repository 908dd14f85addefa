/-
  Rows of one's own of any one width, and append: no number of the seat is in it.
-/
import Derived.Test.YtnfmhcljncdkgaaBase
namespace Go.Proofs.Ytnfmhcljncdkgaa.Ax
open Go.RowKit
/-- What an element's type and its words are. -/
structure Kd (P : Program) {α : Type} (t e c : Nat) (en : α → List Value) : Prop where
  ty : P.underlying t = some (.slice e)
  len : ∀ s, (en s).length = c
  one : ∀ s u, u ∈ en s → u.oneCell' = true
  pos : 0 < c
  inf : ∃ z by', (P.info? e).map (fun i => (i.zero, i.size, i.bytes)) = some (some z, c, by') ∧ z.cells.size = c ∧ by' ≤ 1000
section
variable {P : Program} {α : Type} {t e c : Nat} {en : α → List Value}
theorem fm_len (hl : ∀ s, (en s).length = c) (l : List α) : (l.flatMap en).length = l.length * c := by
  induction l with
  | nil => simp
  | cons x l ih => simp only [List.flatMap_cons, List.length_append, ih, hl, List.length_cons, Nat.add_mul, Nat.one_mul]; omega
theorem fm_at (hl : ∀ s, (en s).length = c) : ∀ (l : List α) (i j : Nat) (x : α) (u : Value), l[i]? = some x → (en x)[j]? = some u → (l.flatMap en)[i * c + j]? = some u
  | [], i, j, x, u, h, _ => by simp at h
  | y :: l, 0, j, x, u, h, hu => by
    simp only [List.getElem?_cons_zero, Option.some.injEq] at h
    subst h
    have hj := (List.getElem?_eq_some_iff.1 hu).1
    rw [Nat.zero_mul, Nat.zero_add, List.flatMap_cons, List.getElem?_append_left hj]
    exact hu
  | y :: l, i + 1, j, x, u, h, hu => by
    have := fm_at hl l i j x u (by simpa using h) hu
    rw [List.flatMap_cons, List.getElem?_append_right (by rw [hl, Nat.add_mul]; omega), hl, show (i + 1) * c + j - c = i * c + j by rw [Nat.add_mul]; omega]
    exact this
/-- A row of one's own, from block base on. -/
def Ro (w : World) (base e c : Nat) (en : α → List Value) (v : Value) (l : List α) : Prop := w.ownsRow base e c v l.length (l.flatMap en)
theorem Ro.nil (w : World) (base : Nat) : Ro w base e c en (.slice none 0 0) ([] : List α) := World.ownsRow_nil _ _ _ _
theorem Ro.form {w : World} {base : Nat} {v : Value} {l : List α} (h : Ro w base e c en v l) : ∃ ao cap, v = .slice ao l.length cap ∧ cap ≤ maxLen ∧ l.length ≤ cap := by
  rcases h.2 with ⟨rfl, h0⟩ | ⟨g, cap, cur, rfl, _, _, h1, h2, _⟩
  · exact ⟨none, 0, by rw [h0], by unfold maxLen; omega, by omega⟩
  · exact ⟨_, cap, rfl, h2, h1⟩
theorem Ro.lt {w : World} {base : Nat} {v : Value} {l : List α} (h : Ro w base e c en v l) : ∀ k, v.ownBlock = some k → base ≤ k ∧ k < w.heap.size := fun k hk => World.ownsRow.lt h k hk
theorem Ro.keep {w w' : World} {base : Nat} {v : Value} {l : List α} (h : Ro w base e c en v l) (hk : ∀ k, v.ownBlock = some k → base ≤ k → k < w.heap.size → w'.heap[k]? = w.heap[k]?) : Ro w' base e c en v l := by
  refine ⟨h.1, ?_⟩
  rcases h.2 with h2 | ⟨g, cap, cur, rfl, hb, hg, rest⟩
  · exact Or.inl h2
  · exact Or.inr ⟨g, cap, cur, rfl, hb, by rw [hk g rfl hb (Array.getElem?_eq_some_iff.1 hg).1]; exact hg, rest⟩
/-- Where a row that has something stands, and its cells. -/
theorem Ro.spot {w : World} {base : Nat} {v : Value} {l : List α} (h : Ro w base e c en v l) (hz : l ≠ []) : ∃ g cap, v = .slice (some ⟨g, 0, none⟩) l.length cap ∧ base ≤ g ∧ g < w.heap.size ∧ l.length ≤ cap ∧ cap ≤ maxLen ∧ ∀ j u, (l.flatMap en)[j]? = some u → w.cell? ⟨g, j, none⟩ = some u := by
  rcases h.2 with ⟨rfl, h0⟩ | ⟨g, cap, cur, rfl, hb, hg, hn, hc, hs, ht⟩
  · exact absurd (List.eq_nil_of_length_eq_zero h0) hz
  · refine ⟨g, cap, rfl, hb, (Array.getElem?_eq_some_iff.1 hg).1, hn, hc, fun j u hu => ?_⟩
    have := World.ownsRow.cells h (g := g) rfl j u hu
    simpa [Addr.add_lit] using this
/-- Append of a row that can be read to a row of one's own. -/
theorem Ro.app (K : Kd P t e c en) {w : World} {base : Nat} {v : Value} {xs : List α} (h : Ro w base e c en v xs) (a : Addr) (cap : Nat) (zs : List α) (hc : ∀ j u, (zs.flatMap en)[j]? = some u → w.cell? (a.add j) = some u)
    (hn : xs.length + zs.length ≤ 1000000) (hb : base ≤ w.heap.size) :
    ∃ v' w', (∀ ty, (Builtin.append_ #[t, t] ty #[v, .slice (.some a) zs.length cap]).run P w = .ok v' w') ∧ Ro w' base e c en v' (xs ++ zs) ∧ w.grownBy w' v.ownBlock ∧ (v'.ownBlock = v.ownBlock ∨ v'.ownBlock = .some w.heap.size) := by
  obtain ⟨z, by', hinf, hzs, hby⟩ := K.inf
  obtain ⟨i0, hi, hz0, hz1, hz2⟩ := info_parts hinf
  have hbb : (xs.length + zs.length) * by' ≤ 140737488355328 := by
    have : (xs.length + zs.length) * by' ≤ 1000000 * 1000 := Nat.mul_le_mul hn hby
    omega
  obtain ⟨v', w', hr, h2, h3, _, h5⟩ := run_append_own_at (P := P) w base t 0 e i0 z c by' K.ty hi hz0 hz1 hz2 hzs K.pos v xs.length (xs.flatMap en) h a zs.length cap (zs.flatMap en) (fm_len K.len zs) hc
    (fun u hu => by obtain ⟨s, _, hs⟩ := List.mem_flatMap.1 hu; exact K.one s u hs) (by unfold maxLen; omega) hbb hb
  exact ⟨v', w', fun ty => hr, by unfold Ro; rw [List.flatMap_append, List.length_append]; exact h2, h3, h5⟩
theorem grown_below {w w' w0 : World} {row : Option Nat} {B : Nat} (h : w.grownBy w' row) (hb : Below B w0 w) (hB : B ≤ w.heap.size) (hr : ∀ k, row = .some k → B ≤ k) : Below B w0 w' :=
  ⟨h.os.trans hb.os, h.tape.trans hb.tape, h.output.trans hb.output, Nat.le_trans hb.size h.size, fun k hk => (h.block k (Nat.lt_of_lt_of_le hk hB) (fun e => by have := hr k e.symm; omega)).trans (hb.block k hk)⟩
end
end Go.Proofs.Ytnfmhcljncdkgaa.Ax
