/-
  TimersPlay: both timers side by side (Two), a script's steps (Sts).
-/
import Derived.Test.YtilaankipjcgaaaRefDue
import Derived.Deep.RegionHeld3
namespace Go.Proofs.Ytilaankipjcgaaa
open Go.RowKit Go.Maps
/-- A step of a script. -/
structure Sp where
  k : Int
  i : Int
  a : Int
/-- The slice v reads as the steps ss. -/
def Sts (w : World) (v : Value) (ss : List Sp) : Prop :=
  ∃ ao cap, v = .slice ao ss.length cap ∧ ss.length ≤ 140737488355328 ∧ (∀ s ∈ ss, In64 s.i ∧ In64 s.a) ∧
    (ss ≠ [] → ∃ b off, ao = some ⟨b, off, none⟩ ∧ ∀ (j : Nat) (s : Sp), ss[j]? = some s → w.cell? ⟨b, off + j * 3, none⟩ = some (.int .i64 s.k) ∧ w.cell? ⟨b, off + j * 3 + 1, none⟩ = some (.int .i64 s.i) ∧ w.cell? ⟨b, off + j * 3 + 2, none⟩ = some (.int .i64 s.a))
/-- The timers and the document's, side by side, both of the call's own. -/
structure Two (w wr : World) (sb rb : Nat) (st sr : List Pr) (Ft Fr : Nat → Prop) : Prop where
  t : Tm wr Ft sb st
  r : Rm wr Fr rb sr
  tl : ∀ k, Ft k → w.heap.size ≤ k ∧ k < wr.heap.size
  rl : ∀ k, Fr k → w.heap.size ≤ k ∧ k < wr.heap.size
  ap : ∀ k, Ft k → ¬ Fr k
  b : Below w.heap.size w wr
variable {w wr w2 : World} {sb rb : Nat} {st sr s' : List Pr} {Ft Fr : Nat → Prop}
theorem Two.other (h : Two w wr sb rb st sr Ft Fr) (hb : Below wr.heap.size wr w2) : Two w w2 sb rb st sr Ft Fr :=
  ⟨h.t.keep fun k _ hk => hb.block k hk, h.r.keep fun k _ hk => hb.block k hk, fun k hk => ⟨(h.tl k hk).1, Nat.lt_of_lt_of_le (h.tl k hk).2 hb.size⟩, fun k hk => ⟨(h.rl k hk).1, Nat.lt_of_lt_of_le (h.rl k hk).2 hb.size⟩, h.ap, h.b.trans (hb.mono h.b.size)⟩
theorem Two.tdone (h : Two w wr sb rb st sr Ft Fr) (ht : Tm w2 (Pl Ft wr.heap.size) sb s') (hg : Grows Ft wr w2) : Two w w2 sb rb s' sr (fun k => Pl Ft wr.heap.size k ∧ k < w2.heap.size) Fr where
  t := ht.more fun k hk hl => ⟨hk, hl⟩
  r := h.r.keep fun k hf hk => hg.block k hk fun e => h.ap k e hf
  tl := fun k hk => ⟨by rcases hk.1 with e | e; exact (h.tl k e).1; exact Nat.le_trans h.b.size e, hk.2⟩
  rl := fun k hk => ⟨(h.rl k hk).1, Nat.lt_of_lt_of_le (h.rl k hk).2 hg.size⟩
  ap := fun k hk hf => by
    rcases hk.1 with e | e
    · exact h.ap k e hf
    · have := (h.rl k hf).2; omega
  b := h.b.trans (hg.below h.b.size fun k hk => (h.tl k hk).1)
theorem Two.rdone (h : Two w wr sb rb st sr Ft Fr) (hr : Rm w2 (Pl Fr wr.heap.size) rb s') (hg : Grows Fr wr w2) : Two w w2 sb rb st s' Ft (fun k => Pl Fr wr.heap.size k ∧ k < w2.heap.size) where
  t := h.t.keep fun k hf hk => hg.block k hk fun e => h.ap k hf e
  r := hr.more fun k hk hl => ⟨hk, hl⟩
  tl := fun k hk => ⟨(h.tl k hk).1, Nat.lt_of_lt_of_le (h.tl k hk).2 hg.size⟩
  rl := fun k hk => ⟨by rcases hk.1 with e | e; exact (h.rl k e).1; exact Nat.le_trans h.b.size e, hk.2⟩
  ap := fun k hk hf => by
    rcases hf.1 with e | e
    · exact h.ap k hk e
    · have := (h.tl k hk).2; omega
  b := h.b.trans (hg.below h.b.size fun k hk => (h.rl k hk).1)
/-- Both are the same. -/
def Same (w wr : World) (sb rb : Nat) : Prop := ∃ s Ft Fr, Two w wr sb rb s s Ft Fr
theorem cell_grows {F : Nat → Prop} (hg : Grows F wr w2) {b o : Nat} {v : Value} (hc : wr.cell? ⟨b, o, none⟩ = some v) (hn : ¬ F b) : w2.cell? ⟨b, o, none⟩ = some v := by
  rw [World.cell?_of_block (w := wr) (hg.block b (World.block_lt_of_cell? wr _ hc) hn)]
  exact hc
theorem Two.free (h : Two w wr sb rb st sr Ft Fr) : ¬ Ft wr.heap.size ∧ ¬ Fr wr.heap.size := ⟨fun e => Nat.lt_irrefl _ (h.tl _ e).2, fun e => Nat.lt_irrefl _ (h.rl _ e).2⟩
end Go.Proofs.Ytilaankipjcgaaa
