/-
  The document's Decode.
-/
import Derived.Test.YtddmnpfebajnmaaDoorDec
import Derived.Test.YtddmnpfebajnmaaDoorRCheck
import Derived.Test.YtddmnpfebajnmaaDoorRLine
namespace Go.Proofs.YtddmnpfebajnmaaDoor
open Go.RowKit
/-- Block b is the document's Reader; it and its row lie below N. -/
def Fq (N : Nat) (w : World) (b : Nat) (zs : List Int) (e : Int) : Prop := b < N ∧ Inv zs e ∧ ∃ v, Rf w b v zs e ∧ ∀ k, v.ownBlock = some k → k < N
theorem Fq.keep {N : Nat} {w w' : World} {b : Nat} {zs : List Int} {e : Int} (h : Fq N w b zs e) (hk : ∀ k, k < N → w'.heap[k]? = w.heap[k]?) : Fq N w' b zs e := by
  obtain ⟨h1, hi, v, h2, h3⟩ := h
  exact ⟨h1, hi, v, h2.keep (hk b h1) (fun k hk' _ => hk k (h3 k hk')), h3⟩
theorem Fq.step {N : Nat} {w w' : World} {b : Nat} {zs : List Int} {e : Int} (h : Fq N w b zs e) (hb : Below w.heap.size w w') (hN : N ≤ w.heap.size) : Fq N w' b zs e := h.keep fun k hk => hb.block k (by omega)
theorem Fq.left {N : Nat} {w w' : World} {b : Nat} {v : Value} {zs : List Int} {e : Int} (h1 : b < N) (h3 : ∀ k, v.ownBlock = some k → k < N) (hi : Inv zs e) (h : Fleft w b v w' zs e) : Fq N w' b zs e ∧ Rstep b w w' := by
  obtain ⟨v', hr, hs, hv⟩ := h
  refine ⟨⟨h1, hi, v', hr, fun k hk => ?_⟩, hs⟩
  rcases hv with e | e
  · exact h3 k (by rw [← e]; exact hk)
  · rw [e] at hk; cases hk
theorem Fq.cell {N : Nat} {w : World} {b : Nat} {zs : List Int} {e : Int} (h : Fq N w b zs e) : w.cell? ⟨b, 1, none⟩ = some (.int .i64 e) := by
  obtain ⟨_, _, v, h2, _⟩ := h
  exact h2.cell1
theorem fq_byte {N : Nat} {w : World} {b : Nat} {zs : List Int} {e : Int} (h : Fq N w b zs e) :
    Calls Tryd.prog 41 #[.pointer (some ⟨b, 0, none⟩)] w fun r w' => r = .returned (.int .u8 ((rowR [0] zs e).1.getD 0 0)) ∧ Fq N w' b (rowR [0] zs e).2.1 (rowR [0] zs e).2.2 ∧ Rstep b w w' := by
  obtain ⟨h1, hi, v, h2, h3⟩ := h
  refine (fbyte_u b v zs e w h2 hi).mono ?_
  rintro r w' ⟨hr, hl⟩
  obtain ⟨k1, k2⟩ := Fq.left h1 h3 (rowR_inv _ _ _ hi) hl
  exact ⟨hr, k1, k2⟩
theorem fq_num {N : Nat} {w : World} {b : Nat} {zs : List Int} (h : Fq N w b zs 0) (hz : Byt zs) :
    Calls Tryd.prog 39 #[.pointer (some ⟨b, 0, none⟩)] w fun r w' => r = .returned (.int .i64 (numR 10 0 0 zs).1) ∧ Fq N w' b (numR 10 0 0 zs).2.1 (numR 10 0 0 zs).2.2 ∧ Rstep b w w' := by
  obtain ⟨h1, hi, v, h2, h3⟩ := h
  refine (fnum_any b v zs w h2 hz).mono ?_
  rintro r w' ⟨hr, hl⟩
  obtain ⟨k1, k2⟩ := Fq.left h1 h3 (numR_inv _ _ _ _) hl
  exact ⟨hr, k1, k2⟩
theorem fq_end {N : Nat} {w : World} {b : Nat} {zs : List Int} {e : Int} (h : Fq N w b zs e) :
    Calls Tryd.prog 42 #[.pointer (some ⟨b, 0, none⟩)] w fun r w' => r = .returned (.int .i64 (endR zs e)) ∧ w' = w := by
  obtain ⟨h1, _, v, h2, h3⟩ := h
  exact (fend_any b v zs e w h2).mono fun r w' ⟨a, b⟩ => ⟨a, b.symm⟩
theorem fq_bad {N : Nat} {w : World} {b : Nat} {zs : List Int} (h : Fq N w b zs 0) :
    Calls Tryd.prog 40 #[.pointer (some ⟨b, 0, none⟩)] w fun r w' => r = .returned (.tuple #[]) ∧ Fq N w' b [] 3 ∧ Rstep b w w' := by
  obtain ⟨h1, _, v, h2, h3⟩ := h
  have hc1 := h2.cell1
  have hc0 := h2.cell0
  have hf0 := h2.frozen 0
  have hf1 := h2.frozen 1
  have R1 := h2.set1 (e' := 3)
  have R2 := R1.1.set0 (Bs_nil _) (by simp [Value.ownBlock])
  have HR2 := hid_into R2.1
  have HS2 := hid_into (R1.2.trans R2.2)
  clear R1 R2
  go_enter Tryd.func40, Tryd.ntmps40
  go_wp2
  go_end0
  exact ⟨rfl, ⟨h1, Or.inr rfl, _, HR2.out, fun k hk => by simp [Value.ownBlock] at hk⟩, HS2.out⟩
theorem fq_bad2 {N : Nat} {w : World} {b : Nat} {zs : List Int} {e : Int} (h : Fq N w b zs e) (he : e ≠ 0) :
    Calls Tryd.prog 40 #[.pointer (some ⟨b, 0, none⟩)] w fun r w' => r = .returned (.tuple #[]) ∧ w' = w := by
  obtain ⟨h1, _, v, h2, h3⟩ := h
  have hc1 := h2.cell1
  have hb : (e == 0) = false := by simp [he]
  go_enter Tryd.func40, Tryd.ntmps40
  go_wp2
  go_end0
  exact ⟨rfl, rfl⟩
theorem TkI.exit {T : Except Int (List Ii)} {n k : Nat} {acc : List Ii} {zs : List Int} {e : Int} (h : TkI T n k acc zs e) (hk : k = n ∨ e ≠ 0) : TkA T acc (endR zs e) := by
  by_cases he : e = 0
  · rcases hk with rfl | hk
    · exact h.last
    · exact absurd he hk
  · obtain ⟨h1, h2, h3⟩ := h.bad he
    rw [h2]
    simp [endR, h1, TkA]
theorem after_append2 {w W w7 : World} {b N : Nat} {v : Value} {acc : List Ii} {ys : List Int} {e : Int} (ho : Lo W N v acc) (hN : w.heap.size ≤ N) (hW : N ≤ W.heap.size) (hR : Fq N W b ys e) (hS : Below w.heap.size w W) (hg : W.grownBy w7 v.ownBlock) : Fq N w7 b ys e ∧ Below w.heap.size w w7 := by
  have hk : ∀ k, k < N → w7.heap[k]? = W.heap[k]? := fun k hk => hg.block k (by omega) fun e => by have := (ho.lt k e.symm).1; omega
  exact ⟨hR.keep hk, ⟨hg.os.trans hS.os, hg.tape.trans hS.tape, hg.output.trans hS.output, Nat.le_trans hS.size hg.size, fun k h1 => (hk k (by omega)).trans (hS.block k h1)⟩⟩
theorem hasA_op {z : Int} (h : hasA z = true) : opI z = true := by
  simp only [hasA, decide_eq_true_eq] at h
  exact opI_iff.2 (by omega)
end Go.Proofs.YtddmnpfebajnmaaDoor
