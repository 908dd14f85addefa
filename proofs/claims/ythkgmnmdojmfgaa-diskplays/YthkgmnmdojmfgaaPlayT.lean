/-
  DiskPlays: both disks side by side (T2); a step of a script (Sp).
-/
import Derived.Test.YthkgmnmdojmfgaaPlayQ
import Derived.Test.YthkgmnmdojmfgaaTexts
import Derived.Test.YthkgmnmdojmfgaaKnown
namespace Go.Proofs.Ythkgmnmdojmfgaa
open Go.RowKit Go.Maps Go.Sort

/-- Both disks, each with blocks of its own; what they are in plain words. -/
structure T2 (w : World) (F G : Nat → Prop) (sb wb : Nat) (u v : Ud) : Prop where
  p : Pd w F sb u
  q : Qd w G wb v
  fl : ∀ k, F k → k < w.heap.size
  gl : ∀ k, G k → k < w.heap.size
  ap : ∀ k, F k → ¬ G k
variable {w w' : World} {F G : Nat → Prop} {sb wb : Nat} {u v : Ud}
theorem T2.keep (h : T2 w F G sb wb u v) (hs : w.heap.size ≤ w'.heap.size) (hk : ∀ k, F k ∨ G k → w'.heap[k]? = w.heap[k]?) : T2 w' F G sb wb u v :=
  ⟨h.p.keep fun k hf _ => hk k (Or.inl hf), h.q.keep fun k hg _ => hk k (Or.inr hg), fun k hf => Nat.lt_of_lt_of_le (h.fl k hf) hs, fun k hg => Nat.lt_of_lt_of_le (h.gl k hg) hs, h.ap⟩
theorem T2.to (h : T2 w F G sb wb u v) (hb : Below w.heap.size w w') : T2 w' F G sb wb u v := h.keep hb.size fun k hk => hb.block k (by rcases hk with hk | hk; exact h.fl k hk; exact h.gl k hk)
theorem T2.drew (h : T2 w F G sb wb u v) : T2 w.drew F G sb wb u v := h.keep (Nat.le_refl _) fun _ _ => rfl
theorem T2.sm (h : T2 w F G sb wb u v) (hs : Sm w w') : T2 w' F G sb wb u v := h.keep (by rw [hs.size]; exact Nat.le_refl _) fun k _ => by rw [hs.heap]
theorem T2.pcall (h : T2 w F G sb wb u v) {fn : FuncId} {args : Array Value} {r : Value} {u' : Ud} (C : Calls Try.prog fn args w fun e w' => e = .returned r ∧ PRes F sb u' w w') :
    Calls Try.prog fn args w fun e w' => e = .returned r ∧ ∃ F', T2 w' F' G sb wb u' v ∧ (∀ k, F' k → F k ∨ w.heap.size ≤ k) ∧ Grows F w w' := by
  refine C.mono ?_
  rintro e w' ⟨he, hp, hg⟩
  have hG : ∀ k, G k → ¬ F k := fun k hg hf => h.ap k hf hg
  refine ⟨he, fun k => (F k ∨ w.heap.size ≤ k) ∧ k < w'.heap.size, ⟨hp.more fun k hk hl => ⟨hk, hl⟩, h.q.keep fun k hk hl => hg.block k hl (hG k hk), fun k hk => hk.2, fun k hk => Nat.lt_of_lt_of_le (h.gl k hk) hg.size, fun k hk hgk => ?_⟩, fun k hk => hk.1, hg⟩
  rcases hk.1 with h1 | h1
  · exact h.ap k h1 hgk
  · have := h.gl k hgk
    omega
theorem T2.qcall (h : T2 w F G sb wb u v) {fn : FuncId} {args : Array Value} {r : Value} {v' : Ud} (C : Calls Try.prog fn args w fun e w' => e = .returned r ∧ QRes G wb v' w w') :
    Calls Try.prog fn args w fun e w' => e = .returned r ∧ ∃ G', T2 w' F G' sb wb u v' ∧ (∀ k, G' k → G k ∨ w.heap.size ≤ k) ∧ Grows G w w' := by
  refine C.mono ?_
  rintro e w' ⟨he, hq, hg⟩
  refine ⟨he, fun k => (G k ∨ w.heap.size ≤ k) ∧ k < w'.heap.size, ⟨h.p.keep fun k hk hl => hg.block k hl (h.ap k hk), hq.more fun k hk hl => ⟨hk, hl⟩, fun k hk => Nat.lt_of_lt_of_le (h.fl k hk) hg.size, fun k hk => hk.2, fun k hk hgk => ?_⟩, fun k hk => hk.1, hg⟩
  rcases hgk.1 with h1 | h1
  · exact h.ap k hk h1
  · have := h.fl k hk
    omega
/-- What a step leaves of both. -/
def DRes (F G : Nat → Prop) (sb wb : Nat) (w w' : World) : Prop :=
  ∃ F' G' u', T2 w' F' G' sb wb u' u' ∧ (∀ k, F' k → F k ∨ w.heap.size ≤ k) ∧ (∀ k, G' k → G k ∨ w.heap.size ≤ k) ∧ Grows (fun k => F k ∨ G k) w w'
theorem Grows.below0 {F : Nat → Prop} (h : Below w.heap.size w w') : Grows F w w' := ⟨h.os, h.tape, h.output, h.size, fun k hk _ => h.block k hk⟩
/-- Both were done, one behind the other, from a world w1 that is w but for new memory, and new memory alone behind them. -/
theorem DRes.both {w1 w2 w3 w4 : World} {F' G' : Nat → Prop} {u' : Ud} (hb : Below w.heap.size w w1) (h1 : ∀ k, F' k → F k ∨ w1.heap.size ≤ k) (g1 : Grows F w1 w2) (h2 : ∀ k, G' k → G k ∨ w2.heap.size ≤ k) (g2 : Grows G w2 w3) (hT : T2 w4 F' G' sb wb u' u') (g3 : Grows (fun k => w.heap.size ≤ k) w3 w4) : DRes F G sb wb w w4 := by
  refine ⟨F', G', u', hT, fun k hk => ?_, fun k hk => ?_, ?_⟩
  · rcases h1 k hk with e | e
    · exact Or.inl e
    · exact Or.inr (Nat.le_trans hb.size e)
  · rcases h2 k hk with e | e
    · exact Or.inl e
    · exact Or.inr (Nat.le_trans hb.size (Nat.le_trans g1.size e))
  · refine ((Grows.below0 hb).trans (F' := fun k => F k ∨ G k ∨ w.heap.size ≤ k) ?_ fun k hk => ?_)
    · have a1 : Grows (fun k => F k ∨ G k ∨ w.heap.size ≤ k) w1 w2 := g1.mono fun k hk => Or.inl hk
      have a2 : Grows (fun k => F k ∨ G k ∨ w.heap.size ≤ k) w2 w3 := g2.mono fun k hk => Or.inr (Or.inl hk)
      have a3 : Grows (fun k => F k ∨ G k ∨ w.heap.size ≤ k) w3 w4 := g3.mono fun k hk => Or.inr (Or.inr hk)
      exact (a1.trans a2 fun _ hk => Or.inl hk).trans a3 fun _ hk => Or.inl hk
    · rcases hk with hk | hk | hk
      · exact Or.inl (Or.inl hk)
      · exact Or.inl (Or.inr hk)
      · exact Or.inr hk
/-- Nothing was done to the disks. -/
theorem DRes.none (hT : T2 w F G sb wb u u) (g : Grows (fun k => w.heap.size ≤ k) w w') : DRes F G sb wb w w' :=
  ⟨F, G, u, hT.keep g.size fun k hk => g.block k (by rcases hk with hk | hk; exact hT.fl k hk; exact hT.gl k hk) (fun e => by rcases hk with hk | hk; have := hT.fl k hk; omega; have := hT.gl k hk; omega), fun k hk => Or.inl hk, fun k hk => Or.inl hk, ⟨g.os, g.tape, g.output, g.size, fun k hk _ => g.block k hk (fun e => by omega)⟩⟩
/-- A step of a script. -/
structure Sp where
  k : Int
  n : Int
  a : Nm
  t : Nm
  v : Value
  zs : List Int
  x : Int
def Sp.cells (s : Sp) : List Value := [.int .i64 s.k, .int .i64 s.n, encStr s.a, encStr s.t, s.v, .int .u8 s.x]
structure Sp.ok (s : Sp) (w : World) : Prop where
  bs : Bs w s.v s.zs
  by8 : Byt s.zs
  len : s.zs.length ≤ 140737488355328
  n : (Lit.int .i64 s.n).wf = true
  a : s.a.length ≤ 140737488355328
  t : s.t.length ≤ 140737488355328
  x : 0 ≤ s.x ∧ s.x < 256
theorem cell_grows2 {w w' : World} {b i : Nat} {c : Value} (hG : Grows F w w') (hc : w.cell? ⟨b, i, none⟩ = some c) (hn : ¬ F b) : w'.cell? ⟨b, i, none⟩ = some c := cell_grows hG hc hn
theorem Bs.grows {w w' : World} {x : Value} {zs : List Int} (h : Bs w x zs) (hG : Grows F w w') (hn : zs ≠ [] → ∀ k, x.ownBlock = some k → ¬ F k) : Bs w' x zs := h.keep0 fun hne k e hl => hG.block k hl (hn hne k e)
theorem Ow.grows {w w' : World} {base : Nat} {x : Value} {zs : List Int} (h : Ow w base x zs) (hG : Grows F w w') (hn : ∀ k, x.ownBlock = some k → ¬ F k) : Ow w' base x zs := ownsRow_keepB h fun k e hl => hG.block k hl (hn k e)
end Go.Proofs.Ythkgmnmdojmfgaa
