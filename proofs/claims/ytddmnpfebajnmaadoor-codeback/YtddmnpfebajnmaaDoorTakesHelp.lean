/-
  Two Readers side by side, octet's and the document's: what both hold, and what a step of each leaves.
-/
import Derived.Test.YtddmnpfebajnmaaDoorRefReaderNum
import Derived.Test.YtddmnpfebajnmaaDoorMem
namespace Go.Proofs.YtddmnpfebajnmaaDoor
open Go.RowKit

/-- Blocks b and c are octet's Reader and the document's; from w1 on nothing below is written; no row of theirs lies from N on. -/
structure Pr (w1 : World) (N b c : Nat) (w : World) (v1 v2 : Value) (zs1 : List Int) (e1 : Int) (zs2 : List Int) (e2 : Int) : Prop where
  rd : Rd w b v1 zs1 e1
  rf : Rf w c v2 zs2 e2
  bc : b ≠ c
  bl : w1.heap.size ≤ b
  cl : w1.heap.size ≤ c
  bN : b < N
  cN : c < N
  o1 : ∀ q, v1.ownBlock = some q → q < N ∧ q ≠ c
  o2 : ∀ q, v2.ownBlock = some q → q < N ∧ q ≠ b
  sz : N ≤ w.heap.size
  low : Below w1.heap.size w1 w

theorem Pr.one {w1 w w' : World} {N b c : Nat} {v1 v2 : Value} {zs1 zs2 zs : List Int} {e1 e2 e : Int} (h : Pr w1 N b c w v1 v2 zs1 e1 zs2 e2) (hl : Rleft w b v1 w' zs e) : ∃ v', Pr w1 N b c w' v' v2 zs e zs2 e2 := by
  obtain ⟨v', hr, hs, hv⟩ := hl
  refine ⟨v', hr, h.rf.keep (hs.block c h.rf.lt (Ne.symm h.bc)) (fun k hk hlt => hs.block k hlt (h.o2 k hk).2), h.bc, h.bl, h.cl, h.bN, h.cN, fun q hq => ?_, h.o2, Nat.le_trans h.sz hs.size, h.low.trans (hs.below h.bl h.low.size)⟩
  rcases hv with e | e
  · exact h.o1 q (by rw [← e]; exact hq)
  · rw [e] at hq; cases hq
theorem Pr.two {w1 w w' : World} {N b c : Nat} {v1 v2 : Value} {zs1 zs2 zs : List Int} {e1 e2 e : Int} (h : Pr w1 N b c w v1 v2 zs1 e1 zs2 e2) (hl : Fleft w c v2 w' zs e) : ∃ v', Pr w1 N b c w' v1 v' zs1 e1 zs e := by
  obtain ⟨v', hr, hs, hv⟩ := hl
  refine ⟨v', h.rd.keep (hs.block b h.rd.lt h.bc) (fun k hk hlt => hs.block k hlt (h.o1 k hk).2), hr, h.bc, h.bl, h.cl, h.bN, h.cN, h.o1, fun q hq => ?_, Nat.le_trans h.sz hs.size, h.low.trans (hs.below h.cl h.low.size)⟩
  rcases hv with e | e
  · exact h.o2 q (by rw [← e]; exact hq)
  · rw [e] at hq; cases hq
theorem Pr.sm {w1 w w' : World} {N b c : Nat} {v1 v2 : Value} {zs1 zs2 : List Int} {e1 e2 : Int} (h : Pr w1 N b c w v1 v2 zs1 e1 zs2 e2) (hs : Sm w w') : Pr w1 N b c w' v1 v2 zs1 e1 zs2 e2 :=
  ⟨h.rd.sm hs, h.rf.sm hs, h.bc, h.bl, h.cl, h.bN, h.cN, h.o1, h.o2, by rw [hs.heap]; exact h.sz, h.low.trans (hs.below _)⟩
theorem Pr.grown {w1 w w' : World} {N b c : Nat} {v1 v2 : Value} {zs1 zs2 : List Int} {e1 e2 : Int} {row : Option Nat} (h : Pr w1 N b c w v1 v2 zs1 e1 zs2 e2) (hg : w.grownBy w' row) (hN : ∀ k, row = some k → N ≤ k) : Pr w1 N b c w' v1 v2 zs1 e1 zs2 e2 := by
  have hk : ∀ k, k < N → w'.heap[k]? = w.heap[k]? := fun k hk => hg.block k (Nat.lt_of_lt_of_le hk h.sz) (fun e => by have := hN k e.symm; omega)
  exact ⟨h.rd.keep (hk b h.bN) (fun k e _ => hk k (h.o1 k e).1), h.rf.keep (hk c h.cN) (fun k e _ => hk k (h.o2 k e).1), h.bc, h.bl, h.cl, h.bN, h.cN, h.o1, h.o2, Nat.le_trans h.sz hg.size, h.low.trans ⟨hg.os, hg.tape, hg.output, hg.size, fun k hk' => hk k (Nat.lt_of_lt_of_le hk' (Nat.le_trans h.bl (Nat.le_of_lt h.bN)))⟩⟩
theorem Pr.l1 {w1 w : World} {N b c : Nat} {v1 v2 : Value} {zs1 zs2 : List Int} {e1 e2 : Int} (h : Pr w1 N b c w v1 v2 zs1 e1 zs2 e2) : ∀ k, v1.ownBlock = some k → k < w.heap.size := fun k hk => Nat.lt_of_lt_of_le (h.o1 k hk).1 h.sz
theorem Pr.l2 {w1 w : World} {N b c : Nat} {v1 v2 : Value} {zs1 zs2 : List Int} {e1 e2 : Int} (h : Pr w1 N b c w v1 v2 zs1 e1 zs2 e2) : ∀ k, v2.ownBlock = some k → k < w.heap.size := fun k hk => Nat.lt_of_lt_of_le (h.o2 k hk).1 h.sz

/-- What is left is fit for the next taking. -/
structure Fit (zs : List Int) (e : Int) : Prop where
  inv : Inv zs e
  byt : Byt zs
  len : zs.length ≤ 3000

/-- A number, whatever the error. -/
def numE (zs : List Int) (e : Int) : Int × List Int × Int := if e = 0 then numR 10 0 0 zs else (0, zs, e)
theorem rnum_u (b : Nat) (v : Value) (zs : List Int) (e : Int) (w : World) (hr : Rd w b v zs e) (hz : Byt zs) :
    Calls Tryd.prog 58 #[.pointer (some ⟨b, 0, none⟩)] w fun r w' => r = .returned (.int .i64 (numE zs e).1) ∧ Rleft w b v w' (numE zs e).2.1 (numE zs e).2.2 := by
  by_cases he : e = 0
  · subst he
    exact rnum_any b v zs w hr hz
  · refine (rnum_err b v zs e w hr he).mono ?_
    rintro r w' ⟨rfl, rfl⟩
    rw [show numE zs e = (0, zs, e) by simp [numE, he]]
    exact ⟨rfl, v, hr, Rstep.refl _ _, Or.inl rfl⟩
theorem fnum_u (b : Nat) (v : Value) (zs : List Int) (e : Int) (w : World) (hr : Rf w b v zs e) (hf : Fit zs e) :
    Calls Tryd.prog 39 #[.pointer (some ⟨b, 0, none⟩)] w fun r w' => r = .returned (.int .i64 (numE zs e).1) ∧ Fleft w b v w' (numE zs e).2.1 (numE zs e).2.2 := by
  by_cases he : e = 0
  · subst he
    exact fnum_any b v zs w hr hf.byt
  · have hz : zs = [] := by rcases hf.inv with h | h; exact absurd h he; exact h
    subst hz
    rw [show numE [] e = (0, [], e) by simp [numE, he]]
    exact fnum_err b v e w hr he

theorem Fit.row {zs : List Int} {e : Int} (h : Fit zs e) (ys : List Int) (hy : Byt ys) : Fit (rowR ys zs e).2.1 (rowR ys zs e).2.2 :=
  ⟨rowR_inv ys zs e h.inv, (rowR_byt hy h.byt).2, by
    have := h.len
    unfold rowR; split
    · split
      · simp; omega
      · simp
    · exact this⟩
theorem Fit.num {zs : List Int} {e : Int} (h : Fit zs e) : Fit (numE zs e).2.1 (numE zs e).2.2 := by
  by_cases he : e = 0
  · simp only [numE, he, if_true]
    exact ⟨numR_inv 10 0 0 zs, (numR_byt 10 0 0 zs h.byt).1, Nat.le_trans (numR_byt 10 0 0 zs h.byt).2 h.len⟩
  · simpa only [numE, he, if_false] using h
end Go.Proofs.YtddmnpfebajnmaaDoor
