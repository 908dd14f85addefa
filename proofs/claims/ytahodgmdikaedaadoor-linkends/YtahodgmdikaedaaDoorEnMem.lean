/-
  LinkEnds in memory: two ends, packets under way, what came; what a packet that comes leaves.
-/
import Derived.Test.YtahodgmdikaedaaDoorLkStart
import Derived.Test.YtahodgmdikaedaaDoorEnPlain
import Derived.Test.YtahodgmdikaedaaDoorLkRq
namespace Go.Proofs.YtahodgmdikaedaaDoor
open Go.RowKit
/-- The blocks of a row of rows. -/
def BlkR (v : Value) (rs : List Rw2) (k : Nat) : Prop := v.ownBlock = some k ∨ ∃ r ∈ rs, r.1.ownBlock = some k
theorem Rq.gr3 {H : Nat → Prop} {w w' : World} {B : Nat} {v : Value} {rs : List Rw2} (h : Rq w B v rs) (hg : Gr H w w') (hn : ∀ k, BlkR v rs k → ¬ H k) : Rq w' B v rs :=
  ⟨h.row.keep fun k hk hlt => hg.block k hlt (hn k (Or.inl hk)), fun r hr => ⟨(h.each r hr).1.keep fun k hk hlt => hg.block k hlt (hn k (Or.inr ⟨r, hr, hk⟩)), (h.each r hr).2⟩⟩
theorem Rq.blkR {w : World} {B : Nat} {v : Value} {rs : List Rw2} (h : Rq w B v rs) : ∀ k, BlkR v rs k → B ≤ k ∧ k < w.heap.size := fun k hk => by
  rcases hk with hk | ⟨r, hr, hk⟩
  · exact h.row.lt k hk
  · exact World.ownsRow.lt (h.each r hr).1 k hk
/-- The memory of LinkEnds' loops. -/
structure Em (w : World) (la xb l0 l1 da db : Nat) (F G : Nat → Prop) (x y : Lk) (v : Value) (ps : List Pq) (cv : Value) (cr : List Rw2) (W : World) : Prop where
  m : Bn W la xb l0 l1 da db F G 3 x y v ps
  r : Rq W la cv cr
  rb : ∀ k, BlkR cv cr k → ¬ F k ∧ ¬ G k ∧ k ≠ xb ∧ ¬ BlkP v ps k
  l : Below la w W
theorem Em.sz {w : World} {la xb l0 l1 da db : Nat} {F G : Nat → Prop} {x y : Lk} {v : Value} {ps : List Pq} {cv : Value} {cr : List Rw2} {W : World} (h : Em w la xb l0 l1 da db F G x y v ps cv cr W) : la ≤ W.heap.size := by
  obtain ⟨v', rs', hl⟩ := h.m.a.l
  have h1 := hl.hi l0 hl.fl
  have h2 := h.m.a.b l0 hl.fl
  omega
section
variable {w W W' : World} {la xb l0 l1 da db : Nat} {F G : Nat → Prop} {x y x' y' : Lk} {v : Value} {ps : List Pq} {cv : Value} {cr : List Rw2}
/-- A change of nothing that is theirs. -/
theorem Em.keep (h : Em w la xb l0 l1 da db F G x y v ps cv cr W) (hg : Gr (fun _ => False) W W') : Em w la xb l0 l1 da db F G x y v ps cv cr W' :=
  ⟨⟨h.m.o.gr hg (fun h => h) fun _ _ h => h, h.m.a.gr hg fun _ _ h => h, h.m.b.gr hg fun _ _ h => h, h.m.x, h.m.fg, h.m.p⟩, h.r.gr3 hg fun _ _ h => h, h.rb, h.l.trans (hg.below h.sz fun _ hk => hk.elim)⟩
theorem blkP_tail {g off cap n : Nat} {p : Pq} {k : Nat} (hv : v = .slice (some ⟨g, off, none⟩) (n + 1) cap) (hk : BlkP (.slice (if cap = 1 then some ⟨g, off, none⟩ else some ⟨g, off + 2, none⟩) n (cap - 1)) ps k) : BlkP v (p :: ps) k := by
  rcases hk with hk | ⟨q, hq, hk⟩
  · refine Or.inl ?_
    rw [hv, ← hk]
    split <;> rfl
  · exact Or.inr ⟨q, List.mem_cons_of_mem _ hq, hk⟩
/-- The first packet is taken out. -/
theorem Em.pop {p : Pq} (h : Em w la xb l0 l1 da db F G x y v (p :: ps) cv cr W) : ∃ g off cap ap cp, v = .slice (some ⟨g, off, none⟩) (ps.length + 1) cap ∧ ps.length + 1 ≤ cap ∧ cap ≤ maxLen ∧ W.cell? ⟨g, off, none⟩ = some (.int .i64 p.to) ∧ W.cell? ⟨g, off + 1, none⟩ = some (.slice ap p.b.length cp) ∧ W.cell? ⟨xb, 4, none⟩ = some v ∧ W.frozen? ⟨xb, 4, none⟩ = false ∧ xb < W.heap.size ∧ g < W.heap.size ∧
    Hid (∀ W2, Gr (fun _ => False) W W2 → Em w la xb l0 l1 da db F G x y (.slice (if cap = 1 then some ⟨g, off, none⟩ else some ⟨g, off + 2, none⟩) ps.length (cap - 1)) ps cv cr (W2.setCell ⟨xb, 4, none⟩ (.slice (if cap = 1 then some ⟨g, off, none⟩ else some ⟨g, off + 2, none⟩) ps.length (cap - 1))) ∧
      Bs (W2.setCell ⟨xb, 4, none⟩ (.slice (if cap = 1 then some ⟨g, off, none⟩ else some ⟨g, off + 2, none⟩) ps.length (cap - 1))) (.slice ap p.b.length cp) p.b) := by
  obtain ⟨g, off, cap, ap, cp, hv, c1, c2, k0, k1, hpv, hpo, hq⟩ := h.m.o.k.head
  refine ⟨g, off, cap, ap, cp, hv, c1, c2, k0, k1, h.m.o.q.cell 4, h.m.o.q.frozen 4, h.m.o.q.lt, World.block_lt_of_cell? W _ k0, fun W2 hg => ?_⟩
  have E2 := h.keep hg
  have hq2 := hq.gr (w' := W2) hg fun _ _ h => h
  have gs : Gr (fun k => k = xb) W2 (W2.setCell ⟨xb, 4, none⟩ (.slice (if cap = 1 then some ⟨g, off, none⟩ else some ⟨g, off + 2, none⟩) ps.length (cap - 1))) := Gr.setCell _ _ _ rfl
  have nx : ∀ k, BlkP (.slice (if cap = 1 then some ⟨g, off, none⟩ else some ⟨g, off + 2, none⟩) ps.length (cap - 1)) ps k → ¬ k = xb := fun k hk e => h.m.o.n (by rw [← e]; exact blkP_tail hv hk)
  refine ⟨⟨⟨⟨E2.m.o.q.set 4 _, hq2.gr gs nx, fun hk => nx xb hk rfl, h.m.o.b⟩, E2.m.a.gr gs fun k hk e => h.m.x.1 (by rw [← e]; exact hk), E2.m.b.gr gs fun k hk e => h.m.x.2 (by rw [← e]; exact hk), h.m.x, h.m.fg, fun k hk => h.m.p k (blkP_tail hv hk)⟩, E2.r.gr3 gs fun k hk => (h.rb k hk).2.2.1, fun k hk => ?_, ?_⟩, ?_⟩
  · obtain ⟨a1, a2, a3, a4⟩ := h.rb k hk
    exact ⟨a1, a2, a3, fun e => a4 (blkP_tail hv e)⟩
  · exact E2.l.trans (gs.below E2.sz fun _ hk => by have := h.m.o.b; omega)
  · refine (hpo.bs.keep fun k hk hlt => hg.block k hlt fun h => h).keep fun k hk hlt => gs.block k hlt fun e => ?_
    exact h.m.o.n (Or.inr ⟨p, List.mem_cons_self .., by rw [hpv, ← e]; exact hk⟩)
/-- Packets of an end go out. -/
theorem Em.out (h : Em w la xb l0 l1 da db F G x y v ps cv cr W) (en : Int) (he : 0 ≤ en ∧ en ≤ 1) (pk : List Pk) {n : Nat} {u : Value} (ho : Po W n 3 pk u) (hn : ∀ k, n ≤ k → k < W.heap.size → ¬ BlkP v ps k ∧ k ≠ xb) (hg : ∀ p ∈ pk, p.Good) (hl : ps.length + pk.length ≤ 1000000) :
    Calls Tryd.prog 17 #[.pointer (some ⟨xb, 0, none⟩), .int .i64 en, u] W fun e W2 => ∃ v' new, e = .returned (.tuple #[]) ∧ Em w la xb l0 l1 da db F G x y v' (ps ++ new) cv cr W2 ∧ new.map (fun p => (p.to, p.b)) = (pk.map (encP 3)).map (fun z => (1 - en, z)) := by
  obtain ⟨os, ho, hb⟩ := ho
  have hub : ∀ k, (u.ownBlock = some k ∨ ∃ r ∈ os, r.1.ownBlock = some k) → n ≤ k ∧ k < W.heap.size := fun k hk => by
    rcases hk with hk | ⟨r, hr, hk⟩
    · exact World.ownsRow.lt ho.row k hk
    · exact World.ownsRow.lt (ho.each r hr).1 k hk
  refine (out_any h.m.o h.sz he ho (fun k hk => ?_) (fun r hr => ?_) (by rw [pb_len hb]; exact hl)).mono ?_
  · obtain ⟨h1, h2⟩ := hub k hk
    obtain ⟨h3, h4⟩ := hn k h1 h2
    exact ⟨h4, fun e => h3 (Or.inl e)⟩
  · have : r.2 ∈ bytesOf2 os := List.mem_map.2 ⟨r, hr, rfl⟩
    rw [hb] at this
    obtain ⟨p, hp, e⟩ := List.mem_map.1 this
    have := encP_len 3 p (hg p hp)
    rw [← e]
    omega
  · rintro e W2 ⟨v', new, rfl, I⟩
    refine ⟨v', new, rfl, ⟨⟨I.b, h.m.a.gr I.g fun k hk e => ?_, h.m.b.gr I.g fun k hk e => ?_, h.m.x, h.m.fg, fun k hk => ?_⟩, h.r.gr3 I.g fun k hk e => ?_, fun k hk => ?_, h.l.trans (I.g.below h.sz fun k hk => ?_)⟩, by rw [I.e, hb]⟩
    · rcases e with e | e
      · exact h.m.x.1 (by rw [← e]; exact hk)
      · exact (h.m.p k (Or.inl e)).1 hk
    · rcases e with e | e
      · exact h.m.x.2 (by rw [← e]; exact hk)
      · exact (h.m.p k (Or.inl e)).2 hk
    · rcases I.k k hk with e | e
      · exact h.m.p k e
      · exact ⟨fun hF => by have := h.m.a.hi k hF; omega, fun hG => by have := h.m.b.hi k hG; omega⟩
    · rcases e with e | e
      · exact (h.rb k hk).2.2.1 e
      · exact (h.rb k hk).2.2.2 (Or.inl e)
    · obtain ⟨a1, a2, a3, a4⟩ := h.rb k hk
      refine ⟨a1, a2, a3, fun e => ?_⟩
      rcases I.k k e with e | e
      · exact a4 e
      · have := (h.r.blkR k hk).2; omega
    · rcases hk with hk | hk
      · have := h.m.o.b; omega
      · exact (h.m.o.k.row.lt k hk).1
end
end Go.Proofs.YtahodgmdikaedaaDoor
