/-
  The laws' packets under way: a queue of packets of one's own; two ends with the document's beside them (both), in memory.
-/
import Derived.Test.YtahodgmdikaedaaDoorLkRq
import Derived.Test.YtahodgmdikaedaaDoorM13
namespace Go.Proofs.YtahodgmdikaedaaDoor
open Go.RowKit
/-- A packet under way: to which end, its slice, its bytes. -/
structure Pq where
  to : Int
  v : Value
  b : List Int
def flP (ps : List Pq) : List Value := ps.flatMap fun p => [.int .i64 p.to, p.v]
theorem flP_len (ps : List Pq) : (flP ps).length = ps.length * 2 := by
  induction ps with
  | nil => rfl
  | cons p t ih =>
    have : flP (p :: t) = [.int .i64 p.to, p.v] ++ flP t := by simp [flP]
    rw [this, List.length_append, ih]
    simp; omega
theorem flP_app (a b : List Pq) : flP (a ++ b) = flP a ++ flP b := by simp [flP]
theorem flP_cons (p : Pq) (t : List Pq) : flP (p :: t) = .int .i64 p.to :: p.v :: flP t := by simp [flP]
structure Wq (w : World) (B : Nat) (v : Value) (ps : List Pq) : Prop where
  row : Qr w B 50 2 v ps.length (flP ps)
  each : ∀ p ∈ ps, Ow w B p.v p.b ∧ ∀ k, p.v.ownBlock = some k → v.ownBlock ≠ some k
/-- Its blocks. -/
def BlkP (v : Value) (ps : List Pq) (k : Nat) : Prop := v.ownBlock = some k ∨ ∃ p ∈ ps, p.v.ownBlock = some k
theorem info50 : (Tryd.prog.info? 50).map (fun i => (i.zero, i.size, i.bytes)) = some (some (.agg #[.int .i64 0, .slice none 0 0]), 2, 32) := by kernel_rfl
section
variable {w w' : World} {B : Nat} {v : Value} {ps : List Pq}
theorem Wq.nil (w : World) (B : Nat) : Wq w B (.slice none 0 0) [] := ⟨Qr.nil _ _ _ _, fun r h => by cases h⟩
theorem Wq.blk (h : Wq w B v ps) : ∀ k, BlkP v ps k → B ≤ k ∧ k < w.heap.size := fun k hk => by
  rcases hk with hk | ⟨r, hr, hk⟩
  · exact h.row.lt k hk
  · exact World.ownsRow.lt (h.each r hr).1 k hk
theorem Wq.gr {G : Nat → Prop} (h : Wq w B v ps) (hg : Gr G w w') (hn : ∀ k, BlkP v ps k → ¬ G k) : Wq w' B v ps :=
  ⟨h.row.keep fun k hk hlt => hg.block k hlt (hn k (Or.inl hk)), fun r hr => ⟨(h.each r hr).1.keep fun k hk hlt => hg.block k hlt (hn k (Or.inr ⟨r, hr, hk⟩)), (h.each r hr).2⟩⟩
/-- A packet more. -/
theorem Wq.push (h : Wq w B v ps) (hB : B ≤ w.heap.size) (to : Int) (u : Value) (zs : List Int) (hu : Ow w B u zs) (huv : ∀ k, u.ownBlock = some k → v.ownBlock ≠ some k) (hl : ps.length ≤ 1000000) :
    ∃ ao cap w', (∀ ty, (Builtin.append_ #[44, 44] ty #[v, .slice (some ⟨w.heap.size, 0, none⟩) 1 1]).run Tryd.prog (w.alloc (.cells #[.int .i64 to, u] 50)) = .ok (.slice ao (ps.length + 1) cap) w') ∧ Wq w' B (.slice ao (ps.length + 1) cap) (ps ++ [⟨to, u, zs⟩]) ∧ Gr (fun k => v.ownBlock = some k) w w' ∧ (∀ k, BlkP (.slice ao (ps.length + 1) cap) (ps ++ [⟨to, u, zs⟩]) k → BlkP v ps k ∨ u.ownBlock = some k ∨ w.heap.size ≤ k) ∧ (∀ k, (Value.slice ao (ps.length + 1) cap).ownBlock = some k → v.ownBlock = some k ∨ w.heap.size ≤ k) := by
  have G1 : Gr (fun _ => False) w (w.alloc (.cells #[.int .i64 to, u] 50)) := Gr.alloc _ _ _
  have h1 := h.gr G1 fun _ _ h => h
  have hsz : (w.alloc (.cells #[.int .i64 to, u] 50)).heap.size = w.heap.size + 1 := World.size_alloc _ _
  obtain ⟨ua, uc, huf, _⟩ := hu.bs.len
  obtain ⟨ao, cap, w', hrun, hq, hg, hat⟩ := h1.row.append 44 (.agg #[.int .i64 0, .slice none 0 0]) Tryd.underlying44 info50 rfl (by decide) ⟨w.heap.size, 0, none⟩ 1 1 [.int .i64 to, u] rfl (by
      intro j x hx
      rw [Addr.add_lit, Nat.zero_add, cell_of_row _ _ _ _ _ _ (heap_alloc_new w _)]
      simpa using hx) (by intro x hx; simp at hx; rcases hx with rfl | rfl; rfl; rw [huf]; rfl) (by unfold maxLen; omega) (by omega) (by omega)
  have hG : Gr (fun k => v.ownBlock = some k) w w' := (G1.mono fun _ h => h.elim).trans (Gr.grownBy hg (F := fun k => v.ownBlock = some k) fun k hk => hk) fun k hk => Or.inl hk
  have hat' : ∀ k, (Value.slice ao (ps.length + 1) cap).ownBlock = some k → v.ownBlock = some k ∨ w.heap.size ≤ k := fun k hk => by
    rcases hat with e | ⟨k', e, hk'⟩
    · exact Or.inl (by rw [← e]; exact hk)
    · rw [e] at hk
      have := Option.some.inj hk
      exact Or.inr (by omega)
  refine ⟨ao, cap, w', hrun, ⟨?_, fun r hr => ?_⟩, hG, fun k hk => ?_, hat'⟩
  · rw [List.length_append, flP_app]
    exact hq
  · rcases List.mem_append.1 hr with hr | hr
    · obtain ⟨e1, e2⟩ := h.each r hr
      refine ⟨e1.keep fun k hk hlt => hG.block k hlt (e2 k hk), fun k hk e => ?_⟩
      rcases hat' k e with e3 | e3
      · exact e2 k hk e3
      · have := (World.ownsRow.lt e1 k hk).2; omega
    · obtain rfl : r = ⟨to, u, zs⟩ := by simpa using hr
      refine ⟨hu.keep fun k hk hlt => hG.block k hlt (huv k hk), fun k hk e => ?_⟩
      rcases hat' k e with e3 | e3
      · exact huv k hk e3
      · have := (World.ownsRow.lt hu k hk).2; omega
  · rcases hk with hk | ⟨r, hr, hk⟩
    · rcases hat' k hk with e | e
      · exact Or.inl (Or.inl e)
      · exact Or.inr (Or.inr e)
    · rcases List.mem_append.1 hr with hr | hr
      · exact Or.inl (Or.inr ⟨r, hr, hk⟩)
      · obtain rfl : r = ⟨to, u, zs⟩ := by simpa using hr
        exact Or.inr (Or.inl hk)
/-- The first packet, and the others. -/
theorem Wq.head {p : Pq} (h : Wq w B v (p :: ps)) : ∃ g off cap ap cp, v = .slice (some ⟨g, off, none⟩) (ps.length + 1) cap ∧ ps.length + 1 ≤ cap ∧ cap ≤ maxLen ∧ w.cell? ⟨g, off, none⟩ = some (.int .i64 p.to) ∧ w.cell? ⟨g, off + 1, none⟩ = some (.slice ap p.b.length cp) ∧ p.v = .slice ap p.b.length cp ∧ Ow w B (.slice ap p.b.length cp) p.b ∧
    Wq w B (.slice (if cap = 1 then some ⟨g, off, none⟩ else some ⟨g, off + 2, none⟩) ps.length (cap - 1)) ps := by
  obtain ⟨e1, e2⟩ := h.each p (List.mem_cons_self ..)
  obtain ⟨g, off, cap, hv, c1, c2, ht⟩ := Qr.tail (n := ps.length) h.row
  obtain ⟨g2, off2, cap2, hv2, _, _, _, _, hc, _⟩ := Qr.cell (n := ps.length + 1) h.row (by omega)
  rw [hv] at hv2
  simp only [Value.slice.injEq, Option.some.injEq, Addr.mk.injEq, and_true] at hv2
  obtain ⟨⟨rfl, rfl⟩, _, rfl⟩ := hv2
  obtain ⟨ap, cp, hr, _⟩ := e1.bs.len
  have k0 := hc 0 (.int .i64 p.to) (by rw [flP_cons]; rfl)
  have k1 := hc 1 p.v (by rw [flP_cons]; rfl)
  rw [hr] at k1 e1
  refine ⟨g, off, cap, ap, cp, hv, c1, c2, k0, k1, hr, e1, ?_, fun q hq => ?_⟩
  · have : (flP (p :: ps)).drop 2 = flP ps := by rw [flP_cons]; rfl
    rw [this] at ht
    exact ht
  · obtain ⟨f1, f2⟩ := h.each q (List.mem_cons_of_mem _ hq)
    refine ⟨f1, fun k hk e => f2 k hk ?_⟩
    rw [hv, ← e]
    split <;> rfl
end
/-- The cells of both. -/
def boC (la lb da db : Nat) (v : Value) : List Value := [.pointer (some ⟨la, 0, none⟩), .pointer (some ⟨lb, 0, none⟩), .pointer (some ⟨da, 0, none⟩), .pointer (some ⟨db, 0, none⟩), v]
end Go.Proofs.YtahodgmdikaedaaDoor
