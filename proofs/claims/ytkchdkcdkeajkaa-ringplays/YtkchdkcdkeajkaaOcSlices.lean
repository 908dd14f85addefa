/-
  Slices of bytes: the front and the rest of one, and what a step leaves of one. No walk.
-/
import Derived.Test.YtkchdkcdkeajkaaOcReaderRows
import Derived.Test.YtkchdkcdkeajkaaOcSumsWalk
namespace Go.Proofs.Ytkchdkcdkeajkaa.Oc
open Go.RowKit
theorem Bs.front {w : World} {b off cap len : Nat} {zs : List Int} (h : Bs w (.slice (some ⟨b, off, none⟩) len cap) zs) (n : Nat) (hn : n ≤ zs.length) : Bs w (.slice (some ⟨b, off, none⟩) n cap) (zs.take n) := by
  have hl : (zs.take n).length = n := by simp; omega
  rcases h with ⟨rfl, ao, c, he, hc, hx⟩ | ⟨hz, b', off', cap', he, h1, h2, hcell⟩
  · simp only [Value.slice.injEq] at he
    obtain ⟨rfl, rfl, rfl⟩ := he
    have : n = 0 := by simpa using hn
    subst this
    exact Or.inl ⟨rfl, _, cap, rfl, hc, fun e => by cases e⟩
  · simp only [Value.slice.injEq, Option.some.injEq, Addr.mk.injEq, and_true] at he
    obtain ⟨⟨rfl, rfl⟩, rfl, rfl⟩ := he
    by_cases h0 : n = 0
    · subst h0; exact Or.inl ⟨by simp, _, cap, rfl, h2, fun e => by cases e⟩
    · refine Or.inr ⟨fun e => by rw [e] at hl; simp at hl; omega, b, off, cap, by rw [hl], by omega, h2, fun i hi => ?_⟩
      rw [hcell i (by omega)]
      simp [List.getD, show i < n by omega]
theorem Bs.suffix {w : World} {b off cap len : Nat} {zs : List Int} (h : Bs w (.slice (some ⟨b, off, none⟩) len cap) zs) (n : Nat) (hn : n ≤ zs.length) (hne : zs ≠ []) : Bs w (.slice (some ⟨b, off + n, none⟩) (len - n) (cap - n)) (zs.drop n) := by
  have hl : (zs.drop n).length = zs.length - n := by simp
  rcases h with ⟨h0, _⟩ | ⟨hz, b', off', cap', he, h1, h2, hcell⟩
  · exact absurd h0 hne
  · simp only [Value.slice.injEq, Option.some.injEq, Addr.mk.injEq, and_true] at he
    obtain ⟨⟨rfl, rfl⟩, rfl, rfl⟩ := he
    by_cases h0 : zs.drop n = []
    · have e0 : zs.length - n = 0 := by rw [← hl, h0]; rfl
      rw [e0, h0]
      exact Or.inl ⟨rfl, _, cap - n, rfl, by unfold maxLen at *; omega, fun e => by cases e⟩
    · refine Or.inr ⟨h0, b, off + n, cap - n, by rw [hl], by omega, by unfold maxLen at *; omega, fun i hi => ?_⟩
      have := hcell (n + i) (by omega)
      rw [show off + n + i = off + (n + i) by omega, this]
      simp [List.getD]
theorem Ow.setBelow {w : World} {base b : Nat} {v u : Value} {xs : List Int} (h : Ow w base v xs) (hb : b < base) : Ow (w.setCell ⟨b, 0, none⟩ u) base v xs := ownsRow_setCell_below (a := ⟨b, 0, none⟩) h hb u
theorem Bs.lt {w : World} {v : Value} {zs : List Int} (h : Bs w v zs) (hz : zs ≠ []) : ∀ k, v.ownBlock = some k → k < w.heap.size := by
  rcases h with ⟨h0, _⟩ | ⟨_, b, off, cap, rfl, _, _, hcell⟩
  · exact absurd h0 hz
  · intro k hk
    have hk' : b = k := by simpa [Value.ownBlock] using hk
    subst hk'
    exact World.block_lt_of_cell? w _ (hcell 0 (List.length_pos_iff.2 hz))
theorem Ow.keep {w w' : World} {base : Nat} {v : Value} {zs : List Int} (h : Ow w base v zs) (hk : ∀ k, v.ownBlock = some k → k < w.heap.size → w'.heap[k]? = w.heap[k]?) : Ow w' base v zs := by
  refine ⟨h.1, ?_⟩
  rcases h.2 with h2 | ⟨g, cap, cur, rfl, hb, hg, rest⟩
  · exact Or.inl h2
  · exact Or.inr ⟨g, cap, cur, rfl, hb, by rw [hk g rfl (Array.getElem?_eq_some_iff.1 hg).1]; exact hg, rest⟩
theorem rbyte_u (b : Nat) (v : Value) (zs : List Int) (e : Int) (w : World) (hr : Rd w b v zs e) :
    Calls Try.prog 27 #[.pointer (some ⟨b, 0, none⟩)] w fun r w' => r = .returned (.int .u8 ((rowR [0] zs e).1.getD 0 0)) ∧ Rleft w b v w' (rowR [0] zs e).2.1 (rowR [0] zs e).2.2 := by
  by_cases he : e = 0
  · subst he
    cases zs with
    | nil =>
      refine (rbyte_no b v w hr).mono ?_
      rintro r w' ⟨rfl, h1, h2⟩
      exact ⟨rfl, _, h1, h2, Or.inr rfl⟩
    | cons z zs =>
      refine (rbyte_yes b v z zs w hr).mono ?_
      rintro r w' ⟨rfl, v', hv, h1, h2⟩
      rw [rowR_yes (by simp)]
      exact ⟨rfl, v', h1, h2, Or.inl hv⟩
  · refine (rbyte_err b v zs e w hr he).mono ?_
    rintro r w' ⟨rfl, rfl⟩
    rw [rowR_err he]
    exact ⟨rfl, v, hr, Rstep.refl _ _, Or.inl rfl⟩
end Go.Proofs.Ytkchdkcdkeajkaa.Oc
