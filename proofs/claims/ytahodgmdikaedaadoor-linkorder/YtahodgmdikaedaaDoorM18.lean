/-
  Joined from: LkRq, LkWay, LkOut, LkStart, EnMem, OrMem.
-/
import Derived.Test.YtahodgmdikaedaaDoorM17
import Derived.Test.YtahodgmdikaedaaDoorM11
import Derived.Deep.Upon
import Derived.Test.YtahodgmdikaedaaDoorM13
import Derived.Test.YtahodgmdikaedaaDoorM16
section
/-
  A queue of rows of bytes of one's own: its first one, the others, rows appended.
-/
namespace Go.Proofs.YtahodgmdikaedaaDoor
open Go.RowKit
structure Rq (w : World) (B : Nat) (v : Value) (rs : List Rw2) : Prop where
  row : Qr w B 29 1 v rs.length (slOf rs)
  each : ∀ r ∈ rs, Ow w B r.1 r.2 ∧ ∀ k, r.1.ownBlock = some k → v.ownBlock ≠ some k
section
variable {w w' : World} {B : Nat} {v : Value} {rs : List Rw2}
theorem Rq.nil (w : World) (B : Nat) : Rq w B (.slice none 0 0) [] := ⟨Qr.nil _ _ _ _, fun r h => by cases h⟩
theorem Rq.gr {G : Nat → Prop} (h : Rq w B v rs) (hg : Gr G w w') (hn : ∀ k, B ≤ k → k < w.heap.size → ¬ G k) : Rq w' B v rs :=
  ⟨h.row.keep fun k hk hlt => hg.block k hlt (hn k (h.row.lt k hk).1 hlt), fun r hr => ⟨(h.each r hr).1.keep fun k hk hlt => hg.block k hlt (hn k (World.ownsRow.lt (h.each r hr).1 k hk).1 hlt), (h.each r hr).2⟩⟩
theorem Rq.own (h : Osl w B v rs) : Rq w B v rs := ⟨Qr.own h.row, fun r hr => ⟨(h.each r hr).1, (h.each r hr).2.2.2⟩⟩
theorem Rq.app {u : Value} {os : List Rw2} {n : Nat} (h : Rq w B v rs) (ho : Osl w n u os) (hn : B ≤ n) (hv : ∀ k, v.ownBlock = some k → k < n) (hl : rs.length + os.length ≤ 1000000) (hB : B ≤ w.heap.size) :
    ∃ ao cap w', (∀ ty, (Builtin.append_ #[33, 33] ty #[v, u]).run Tryd.prog w = .ok (.slice ao (rs.length + os.length) cap) w') ∧ Rq w' B (.slice ao (rs.length + os.length) cap) (rs ++ os) ∧ Gr (fun k => v.ownBlock = some k) w w' ∧ ((Value.slice ao (rs.length + os.length) cap).ownBlock = v.ownBlock ∨ ∃ k, (Value.slice ao (rs.length + os.length) cap).ownBlock = some k ∧ w.heap.size ≤ k) := by
  have fin : ∀ (ao : Option Addr) (cap : Nat) (w' : World), Qr w' B 29 1 (.slice ao (rs.length + os.length) cap) (rs.length + os.length) (slOf rs ++ slOf os) → Gr (fun k => v.ownBlock = some k) w w' → ((Value.slice ao (rs.length + os.length) cap).ownBlock = v.ownBlock ∨ ∃ k, (Value.slice ao (rs.length + os.length) cap).ownBlock = some k ∧ w.heap.size ≤ k) → Rq w' B (.slice ao (rs.length + os.length) cap) (rs ++ os) := fun ao cap w' hq hg hat => by
    refine ⟨by rw [List.length_append, show slOf (rs ++ os) = slOf rs ++ slOf os by simp [slOf]]; exact hq, fun r hr => ?_⟩
    rcases List.mem_append.1 hr with hr | hr
    · obtain ⟨e1, e2⟩ := h.each r hr
      refine ⟨e1.keep fun k hk hlt => hg.block k hlt (e2 k hk), fun k hk e => ?_⟩
      rcases hat with h1 | ⟨k', h1, h2⟩
      · exact e2 k hk (by rw [← h1]; exact e)
      · rw [h1] at e
        have := Option.some.inj e
        have := (World.ownsRow.lt e1 k hk).2
        omega
    · obtain ⟨e1, _, _, _⟩ := ho.each r hr
      have hlt := World.ownsRow.lt e1
      refine ⟨(e1.keep fun k hk hl2 => hg.block k hl2 fun e => by have := hv k e; have := (hlt k hk).1; omega).mono hn, fun k hk e => ?_⟩
      rcases hat with h1 | ⟨k', h1, h2⟩
      · have := hv k (by rw [← h1]; exact e)
        have := (hlt k hk).1
        omega
      · rw [h1] at e
        have := Option.some.inj e
        have := (hlt k hk).2
        omega
  rcases ho.row.2 with ⟨rfl, h0⟩ | ⟨g, cap, cur, rfl, b1, b2, b3, b4, b5, b6⟩
  · obtain rfl : os = [] := List.eq_nil_of_length_eq_zero h0
    obtain ⟨i0, hi, hz0, hz1, hz2⟩ := info_parts Tryd.info22
    obtain ⟨ao, cp, hv2⟩ := h.row.form
    subst hv2
    have hle : rs.length ≤ cp := by
      rcases h.row.2 with ⟨e1, e2⟩ | ⟨_, _, _, _, e1, _, _, e2, _⟩
      · omega
      · simp only [Value.slice.injEq] at e1
        obtain ⟨_, _, rfl⟩ := e1
        exact e2
    have hq : Qr w B 29 1 (.slice ao (rs.length + ([] : List Rw2).length) cp) (rs.length + ([] : List Rw2).length) (slOf rs ++ slOf []) := by
      have := h.row
      simpa [slOf] using this
    exact ⟨ao, cp, w, fun ty => run_append_nothing w 33 33 ty 29 i0 Tryd.underlying33 hi ao rs.length cp hle _ (Src.ofNil w Tryd.underlying33 0), fin ao cp w hq (Gr.refl _ _) (Or.inl rfl), Gr.refl _ _, Or.inl rfl⟩
  · have hcell : ∀ j u, (slOf os)[j]? = some u → w.cell? ((⟨g, 0, none⟩ : Addr).add j) = some u := fun j u hu => by
      rw [Addr.add_lit, Nat.zero_add, cell_of_row w g j _ _ _ b2, ← Array.getElem?_toList]
      rw [← b6] at hu
      have hj : j < os.length * 1 := by
        have := (List.getElem?_eq_some_iff.1 hu).1
        rw [List.length_take] at this
        omega
      rw [List.getElem?_take_of_lt hj] at hu
      exact hu
    obtain ⟨ao, cp, w', hrun, hq, hg, hat⟩ := h.row.append 33 (.slice none 0 0) Tryd.underlying33 Tryd.info22 rfl (by decide) ⟨g, 0, none⟩ os.length cap (slOf os) (by simp [slOf]) hcell (fun u hu => by
      obtain ⟨r, hr, rfl⟩ := List.mem_map.1 hu
      obtain ⟨a1, c1, e, _⟩ := (ho.each r hr).1.bs.len
      rw [e]; rfl) (by unfold maxLen; omega) (by omega) hB
    have hG : Gr (fun k => v.ownBlock = some k) w w' := Gr.grownBy hg fun k hk => hk
    exact ⟨ao, cp, w', hrun, fin ao cp w' hq hG hat, hG, hat⟩
/-- The first row. -/
theorem Rq.head {r : Rw2} (h : Rq w B v (r :: rs)) : ∃ g off cap ap cp, v = .slice (some ⟨g, off, none⟩) (rs.length + 1) cap ∧ rs.length + 1 ≤ cap ∧ cap ≤ maxLen ∧ w.cell? ⟨g, off, none⟩ = some (.slice ap r.2.length cp) ∧ Bs w (.slice ap r.2.length cp) r.2 ∧ (∀ k, (Value.slice ap r.2.length cp).ownBlock = some k → B ≤ k ∧ k < w.heap.size) ∧
    Rq w B (.slice (if cap = 1 then some ⟨g, off, none⟩ else some ⟨g, off + 1, none⟩) rs.length (cap - 1)) rs := by
  obtain ⟨e1, e2⟩ := h.each r (List.mem_cons_self ..)
  obtain ⟨g, off, cap, hv, c1, c2, ht⟩ := Qr.tail (n := rs.length) h.row
  obtain ⟨g2, off2, cap2, hv2, _, _, _, _, hc, _⟩ := Qr.cell (n := rs.length + 1) h.row (by omega)
  rw [hv] at hv2
  simp only [Value.slice.injEq, Option.some.injEq, Addr.mk.injEq, and_true] at hv2
  obtain ⟨⟨rfl, rfl⟩, _, rfl⟩ := hv2
  obtain ⟨ap, cp, hr, _⟩ := e1.bs.len
  have hb := e1.bs
  have hx := World.ownsRow.lt e1
  rw [hr] at hb hx
  refine ⟨g, off, cap, ap, cp, hv, c1, c2, by have := hc 0 r.1 (by simp [slOf]); rw [Nat.add_zero, hr] at this; exact this, hb, hx, ?_, fun q hq => ?_⟩
  · have : (slOf (r :: rs)).drop 1 = slOf rs := rfl
    rw [this] at ht
    exact ht
  · obtain ⟨f1, f2⟩ := h.each q (List.mem_cons_of_mem _ hq)
    refine ⟨f1, fun k hk e => f2 k hk ?_⟩
    rw [hv]
    rw [← e]
    split <;> rfl
end
end Go.Proofs.YtahodgmdikaedaaDoor
end

section
/-
  The laws' packets under way: a queue of packets of one's own; two ends with the document's beside them (both), in memory.
-/
namespace Go.Proofs.YtahodgmdikaedaaDoor
open Go.RowKit
/-- A packet under way: to which end, its slice, its bytes. -/
structure Pq where
  to : Int
  v : Value
  b : List Int
def flP (ps : List Pq) : List Value := ps.flatMap fun p => [.int .i64 p.to, p.v]
theorem flP_len (ps : List Pq) : (flP ps).length = ps.length * 2 := by
  induction ps with
  | nil => rfl
  | cons p t ih =>
    have : flP (p :: t) = [.int .i64 p.to, p.v] ++ flP t := by simp [flP]
    rw [this, List.length_append, ih]
    simp; omega
theorem flP_app (a b : List Pq) : flP (a ++ b) = flP a ++ flP b := by simp [flP]
theorem flP_cons (p : Pq) (t : List Pq) : flP (p :: t) = .int .i64 p.to :: p.v :: flP t := by simp [flP]
structure Wq (w : World) (B : Nat) (v : Value) (ps : List Pq) : Prop where
  row : Qr w B 50 2 v ps.length (flP ps)
  each : ∀ p ∈ ps, Ow w B p.v p.b ∧ ∀ k, p.v.ownBlock = some k → v.ownBlock ≠ some k
/-- Its blocks. -/
def BlkP (v : Value) (ps : List Pq) (k : Nat) : Prop := v.ownBlock = some k ∨ ∃ p ∈ ps, p.v.ownBlock = some k
theorem info50 : (Tryd.prog.info? 50).map (fun i => (i.zero, i.size, i.bytes)) = some (some (.agg #[.int .i64 0, .slice none 0 0]), 2, 32) := by kernel_rfl
section
variable {w w' : World} {B : Nat} {v : Value} {ps : List Pq}
theorem Wq.nil (w : World) (B : Nat) : Wq w B (.slice none 0 0) [] := ⟨Qr.nil _ _ _ _, fun r h => by cases h⟩
theorem Wq.blk (h : Wq w B v ps) : ∀ k, BlkP v ps k → B ≤ k ∧ k < w.heap.size := fun k hk => by
  rcases hk with hk | ⟨r, hr, hk⟩
  · exact h.row.lt k hk
  · exact World.ownsRow.lt (h.each r hr).1 k hk
theorem Wq.gr {G : Nat → Prop} (h : Wq w B v ps) (hg : Gr G w w') (hn : ∀ k, BlkP v ps k → ¬ G k) : Wq w' B v ps :=
  ⟨h.row.keep fun k hk hlt => hg.block k hlt (hn k (Or.inl hk)), fun r hr => ⟨(h.each r hr).1.keep fun k hk hlt => hg.block k hlt (hn k (Or.inr ⟨r, hr, hk⟩)), (h.each r hr).2⟩⟩
/-- A packet more. -/
theorem Wq.push (h : Wq w B v ps) (hB : B ≤ w.heap.size) (to : Int) (u : Value) (zs : List Int) (hu : Ow w B u zs) (huv : ∀ k, u.ownBlock = some k → v.ownBlock ≠ some k) (hl : ps.length ≤ 1000000) :
    ∃ ao cap w', (∀ ty, (Builtin.append_ #[44, 44] ty #[v, .slice (some ⟨w.heap.size, 0, none⟩) 1 1]).run Tryd.prog (w.alloc (.cells #[.int .i64 to, u] 50)) = .ok (.slice ao (ps.length + 1) cap) w') ∧ Wq w' B (.slice ao (ps.length + 1) cap) (ps ++ [⟨to, u, zs⟩]) ∧ Gr (fun k => v.ownBlock = some k) w w' ∧ (∀ k, BlkP (.slice ao (ps.length + 1) cap) (ps ++ [⟨to, u, zs⟩]) k → BlkP v ps k ∨ u.ownBlock = some k ∨ w.heap.size ≤ k) ∧ (∀ k, (Value.slice ao (ps.length + 1) cap).ownBlock = some k → v.ownBlock = some k ∨ w.heap.size ≤ k) := by
  have G1 : Gr (fun _ => False) w (w.alloc (.cells #[.int .i64 to, u] 50)) := Gr.alloc _ _ _
  have h1 := h.gr G1 fun _ _ h => h
  have hsz : (w.alloc (.cells #[.int .i64 to, u] 50)).heap.size = w.heap.size + 1 := World.size_alloc _ _
  obtain ⟨ua, uc, huf, _⟩ := hu.bs.len
  obtain ⟨ao, cap, w', hrun, hq, hg, hat⟩ := h1.row.append 44 (.agg #[.int .i64 0, .slice none 0 0]) Tryd.underlying44 info50 rfl (by decide) ⟨w.heap.size, 0, none⟩ 1 1 [.int .i64 to, u] rfl (by
      intro j x hx
      rw [Addr.add_lit, Nat.zero_add, cell_of_row _ _ _ _ _ _ (heap_alloc_new w _)]
      simpa using hx) (by intro x hx; simp at hx; rcases hx with rfl | rfl; rfl; rw [huf]; rfl) (by unfold maxLen; omega) (by omega) (by omega)
  have hG : Gr (fun k => v.ownBlock = some k) w w' := (G1.mono fun _ h => h.elim).trans (Gr.grownBy hg (F := fun k => v.ownBlock = some k) fun k hk => hk) fun k hk => Or.inl hk
  have hat' : ∀ k, (Value.slice ao (ps.length + 1) cap).ownBlock = some k → v.ownBlock = some k ∨ w.heap.size ≤ k := fun k hk => by
    rcases hat with e | ⟨k', e, hk'⟩
    · exact Or.inl (by rw [← e]; exact hk)
    · rw [e] at hk
      have := Option.some.inj hk
      exact Or.inr (by omega)
  refine ⟨ao, cap, w', hrun, ⟨?_, fun r hr => ?_⟩, hG, fun k hk => ?_, hat'⟩
  · rw [List.length_append, flP_app]
    exact hq
  · rcases List.mem_append.1 hr with hr | hr
    · obtain ⟨e1, e2⟩ := h.each r hr
      refine ⟨e1.keep fun k hk hlt => hG.block k hlt (e2 k hk), fun k hk e => ?_⟩
      rcases hat' k e with e3 | e3
      · exact e2 k hk e3
      · have := (World.ownsRow.lt e1 k hk).2; omega
    · obtain rfl : r = ⟨to, u, zs⟩ := by simpa using hr
      refine ⟨hu.keep fun k hk hlt => hG.block k hlt (huv k hk), fun k hk e => ?_⟩
      rcases hat' k e with e3 | e3
      · exact huv k hk e3
      · have := (World.ownsRow.lt hu k hk).2; omega
  · rcases hk with hk | ⟨r, hr, hk⟩
    · rcases hat' k hk with e | e
      · exact Or.inl (Or.inl e)
      · exact Or.inr (Or.inr e)
    · rcases List.mem_append.1 hr with hr | hr
      · exact Or.inl (Or.inr ⟨r, hr, hk⟩)
      · obtain rfl : r = ⟨to, u, zs⟩ := by simpa using hr
        exact Or.inr (Or.inl hk)
/-- The first packet, and the others. -/
theorem Wq.head {p : Pq} (h : Wq w B v (p :: ps)) : ∃ g off cap ap cp, v = .slice (some ⟨g, off, none⟩) (ps.length + 1) cap ∧ ps.length + 1 ≤ cap ∧ cap ≤ maxLen ∧ w.cell? ⟨g, off, none⟩ = some (.int .i64 p.to) ∧ w.cell? ⟨g, off + 1, none⟩ = some (.slice ap p.b.length cp) ∧ p.v = .slice ap p.b.length cp ∧ Ow w B (.slice ap p.b.length cp) p.b ∧
    Wq w B (.slice (if cap = 1 then some ⟨g, off, none⟩ else some ⟨g, off + 2, none⟩) ps.length (cap - 1)) ps := by
  obtain ⟨e1, e2⟩ := h.each p (List.mem_cons_self ..)
  obtain ⟨g, off, cap, hv, c1, c2, ht⟩ := Qr.tail (n := ps.length) h.row
  obtain ⟨g2, off2, cap2, hv2, _, _, _, _, hc, _⟩ := Qr.cell (n := ps.length + 1) h.row (by omega)
  rw [hv] at hv2
  simp only [Value.slice.injEq, Option.some.injEq, Addr.mk.injEq, and_true] at hv2
  obtain ⟨⟨rfl, rfl⟩, _, rfl⟩ := hv2
  obtain ⟨ap, cp, hr, _⟩ := e1.bs.len
  have k0 := hc 0 (.int .i64 p.to) (by rw [flP_cons]; rfl)
  have k1 := hc 1 p.v (by rw [flP_cons]; rfl)
  rw [hr] at k1 e1
  refine ⟨g, off, cap, ap, cp, hv, c1, c2, k0, k1, hr, e1, ?_, fun q hq => ?_⟩
  · have : (flP (p :: ps)).drop 2 = flP ps := by rw [flP_cons]; rfl
    rw [this] at ht
    exact ht
  · obtain ⟨f1, f2⟩ := h.each q (List.mem_cons_of_mem _ hq)
    refine ⟨f1, fun k hk e => f2 k hk ?_⟩
    rw [hv, ← e]
    split <;> rfl
end
/-- The cells of both. -/
def boC (la lb da db : Nat) (v : Value) : List Value := [.pointer (some ⟨la, 0, none⟩), .pointer (some ⟨lb, 0, none⟩), .pointer (some ⟨da, 0, none⟩), .pointer (some ⟨db, 0, none⟩), v]
end Go.Proofs.YtahodgmdikaedaaDoor
end

section
/-
  Packets of an end are under way to the other one: out, by contract.
-/
namespace Go.Proofs.YtahodgmdikaedaaDoor
open Go.RowKit
/-- Two ends with the document's beside them, and packets under way. -/
structure Bo (w : World) (B xb la lb da db : Nat) (v : Value) (ps : List Pq) : Prop where
  q : Cw w xb (boC la lb da db v) 46
  k : Wq w B v ps
  n : ¬ BlkP v ps xb
  b : B ≤ xb
theorem Bo.gr {w w' : World} {B xb la lb da db : Nat} {v : Value} {ps : List Pq} {G : Nat → Prop} (h : Bo w B xb la lb da db v ps) (hg : Gr G w w') (hx : ¬ G xb) (hn : ∀ k, BlkP v ps k → ¬ G k) : Bo w' B xb la lb da db v ps :=
  ⟨hg.cw h.q hx, h.k.gr hg hn, h.n, h.b⟩
/-- What out's loop holds behind j rows. -/
structure OutI (w : World) (B xb la lb da db : Nat) (v : Value) (ps : List Pq) (en : Int) (zs : List (List Int)) (v' : Value) (new : List Pq) (W : World) : Prop where
  b : Bo W B xb la lb da db v' (ps ++ new)
  e : new.map (fun p => (p.to, p.b)) = zs.map fun z => (1 - en, z)
  g : Gr (fun k => k = xb ∨ v.ownBlock = some k) w W
  k : ∀ k, BlkP v' (ps ++ new) k → BlkP v ps k ∨ w.heap.size ≤ k
  o : ∀ k, v'.ownBlock = some k → v.ownBlock = some k ∨ w.heap.size ≤ k
theorem snoc2 {xs : List (List Int)} {k : Nat} (h : k < xs.length) : xs.take (k + 1) = xs.take k ++ [xs.getD k []] := by
  rw [List.take_succ_eq_append_getElem h, List.getD, List.getElem?_eq_getElem h]
  rfl
section
variable {w : World} {B xb la lb da db : Nat} {v : Value} {ps : List Pq} {en : Int}
/-- One row more under way. -/
theorem OutI.step {W : World} {zs : List (List Int)} {v' : Value} {new : List Pq} (h : OutI w B xb la lb da db v ps en zs v' new W) (hB : B ≤ w.heap.size) (hl : (ps ++ new).length ≤ 1000000) (ap : Option Addr) (cp : Nat) (z : List Int) (hz : Bs W (.slice ap z.length cp) z) (hzl : z.length ≤ 1000000) :
    ∃ a1 c1 w1 a2 c2 w2, Hid (∀ ty, (Builtin.append_ #[29, 29] ty #[.slice (some ⟨W.heap.size, 0, none⟩) 0 0, .slice ap z.length cp]).run Tryd.prog (W.drew.alloc (.cells #[] 5)) = .ok (.slice a1 z.length c1) w1) ∧
      w1.cell? ⟨xb, 4, none⟩ = some v' ∧ xb < w1.heap.size ∧
      Hid (∀ ty, (Builtin.append_ #[44, 44] ty #[v', .slice (some ⟨w1.heap.size, 0, none⟩) 1 1]).run Tryd.prog (w1.alloc (.cells #[.int .i64 (1 - en), .slice a1 z.length c1] 50)) = .ok (.slice a2 ((ps ++ new).length + 1) c2) w2) ∧
      w2.cell? ⟨xb, 4, none⟩ = some v' ∧ w2.frozen? ⟨xb, 4, none⟩ = false ∧
      (∀ (k : Nat) x, k < W.heap.size → (W.cell? ⟨k, x, none⟩).isSome = true → w1.cell? ⟨k, x, none⟩ = W.cell? ⟨k, x, none⟩) ∧
      Hid (∃ new', OutI w B xb la lb da db v ps en (zs ++ [z]) (.slice a2 ((ps ++ new).length + 1) c2) new' (w2.setCell ⟨xb, 4, none⟩ (.slice a2 ((ps ++ new).length + 1) c2))) := by
  have hxW := h.b.q.lt
  have hWs := h.g.size
  have hsa : (W.drew.alloc (.cells #[] 5)).heap.size = W.heap.size + 1 := World.size_alloc _ _
  have hown : Ow (W.drew.alloc (.cells #[] 5)) W.heap.size (.slice (some ⟨W.heap.size, 0, none⟩) 0 0) [] := Ow_of_block (heap_alloc_new W.drew _) (by simp) (Nat.le_refl _)
  have Ba : Below W.heap.size W (W.drew.alloc (.cells #[] 5)) := ((Below.refl _ W).drew).alloc (Nat.le_refl _) _
  obtain ⟨a1, c1, w1, hr1, ho1, hg1, hat1⟩ := run_append_bs (W.drew.alloc (.cells #[] 5)) W.heap.size 0 _ [] hown (.slice ap z.length cp) z (hz.below Ba (Nat.le_refl _)) (by simp; omega) (by omega)
  simp only [List.length_nil, Nat.zero_add, List.nil_append] at hr1 ho1
  have B1 : Below W.heap.size W w1 := Ba.trans (grown_below hg1 (by omega) hown.from)
  have G1 : Gr (fun _ => False) W w1 := Gr.of_below B1 _ fun k hk hb => by omega
  have K1 : Bo w1 B xb la lb da db v' (ps ++ new) := h.b.gr G1 (fun h => h) fun _ _ h => h
  have hs1 := B1.size
  have hk1 := World.ownsRow.lt ho1
  obtain ⟨a2, c2, w2, hr2, hq2, hg2, hb2, hoo⟩ := K1.k.push (by omega) (1 - en) (.slice a1 z.length c1) z (ho1.mono (by omega)) (fun k hk e => by have := (hk1 k hk).1; have := (h.b.k.blk k (Or.inl e)).2; omega) hl
  have hxv : ¬ v'.ownBlock = some xb := fun e => h.b.n (Or.inl e)
  have q2 : Cw w2 xb (boC la lb da db v') 46 := hg2.cw K1.q hxv
  have hnx : ¬ BlkP (.slice a2 ((ps ++ new).length + 1) c2) (ps ++ new ++ [⟨1 - en, .slice a1 z.length c1, z⟩]) xb := fun hk => by
    rcases hb2 xb hk with e | e | e
    · exact h.b.n e
    · have := (hk1 xb e).1; omega
    · omega
  have gs : Gr (fun k => k = xb) w2 (w2.setCell ⟨xb, 4, none⟩ (.slice a2 ((ps ++ new).length + 1) c2)) := Gr.setCell _ _ _ rfl
  refine ⟨a1, c1, w1, a2, c2, w2, fun ty => hr1, K1.q.cell 4, K1.q.lt, hr2, q2.cell 4, q2.frozen 4, fun k x hk _ => World.cell?_of_block (B1.block k hk), new ++ [⟨1 - en, .slice a1 z.length c1, z⟩], ⟨q2.set 4 _, ?_, ?_, h.b.b⟩, ?_, ?_, fun k hk => ?_, fun k hk => ?_⟩
  · rw [← List.append_assoc]
    exact hq2.gr gs fun k hk e => hnx (by rw [← e]; exact hk)
  · rw [← List.append_assoc]
    exact hnx
  · rw [List.map_append, h.e, List.map_append]
    rfl
  · refine ((h.g.trans G1 fun _ h => h.elim).trans hg2 fun k hk => ?_).trans gs fun k hk => Or.inl (Or.inl hk)
    rcases h.o k hk with e | e
    · exact Or.inl (Or.inr e)
    · exact Or.inr e
  · rw [← List.append_assoc] at hk
    rcases hb2 k hk with e | e | e
    · exact h.k k e
    · exact Or.inr (by have := (hk1 k e).1; omega)
    · exact Or.inr (by omega)
  · rcases hoo k hk with e | e
    · exact h.o k e
    · exact Or.inr (by omega)
set_option maxHeartbeats 3200000 in
set_option maxRecDepth 20000 in
theorem out_any (h : Bo w B xb la lb da db v ps) (hB : B ≤ w.heap.size) (he : 0 ≤ en ∧ en ≤ 1) {n : Nat} {u : Value} {os : List Rw2} (ho : Osl w n u os) (hsep : ∀ k, (u.ownBlock = some k ∨ ∃ r ∈ os, r.1.ownBlock = some k) → k ≠ xb ∧ v.ownBlock ≠ some k) (hrl : ∀ r ∈ os, r.2.length ≤ 1000000) (hl : ps.length + os.length ≤ 1000000) :
    Calls Tryd.prog 17 #[.pointer (some ⟨xb, 0, none⟩), .int .i64 en, u] w fun e w' => ∃ v' new, e = .returned (.tuple #[]) ∧ OutI w B xb la lb da db v ps en (bytesOf2 os) v' new w' := by
  have I0 : OutI w B xb la lb da db v ps en [] v [] w := ⟨by rw [List.append_nil]; exact h, rfl, Gr.refl _ _, fun k hk => Or.inl (by rw [List.append_nil] at hk; exact hk), fun k hk => Or.inl hk⟩
  obtain ⟨uo, uc, rfl⟩ := ho.form
  have hu : ∀ k, ((Value.slice uo os.length uc).ownBlock = some k ∨ ∃ r ∈ os, r.1.ownBlock = some k) → k < w.heap.size := fun k hk => by
    rcases hk with hk | ⟨r, hr, hk⟩
    · exact (World.ownsRow.lt ho.row k hk).2
    · exact (World.ownsRow.lt (ho.each r hr).1 k hk).2
  have HO : Hid (∀ W, Gr (fun k => k = xb ∨ v.ownBlock = some k) w W → Osl W n (.slice uo os.length uc) os) := fun W hg =>
    ⟨ownsRow_keep ho.row fun k hk hlt => hg.block k hlt fun e => by rcases e with e | e; exact (hsep k (Or.inl hk)).1 e; exact (hsep k (Or.inl hk)).2 e,
     fun r hr => ⟨(ho.each r hr).1.keep fun k hk hlt => hg.block k hlt fun e => by rcases e with e | e; exact (hsep k (Or.inr ⟨r, hr, hk⟩)).1 e; exact (hsep k (Or.inr ⟨r, hr, hk⟩)).2 e, (ho.each r hr).2⟩⟩
  have hnl : ∀ (j : Nat) v' new W, OutI w B xb la lb da db v ps en ((bytesOf2 os).take j) v' new W → j ≤ os.length → new.length = j := fun j v' new W hI hj => by
    have := congrArg List.length hI.e
    rw [List.length_map, List.length_map, List.length_take, bytesOf2_len] at this
    omega
  have hnl := hid_into hnl
  clear h ho hsep hu
  go_enter Tryd.func17, Tryd.ntmps17
  go_wp2_with fail
  go_loopw [6] (fun i wr => ∃ (j : Nat) (v' : Value) (new : List Pq), i = .int .i64 (j : Int) ∧ j ≤ os.length ∧ OutI w B xb la lb da db v ps en ((bytesOf2 os).take j) v' new wr) (fun i _ => os.length - (intOf i).toNat)
  case atStart => exact ⟨0, v, [], rfl, Nat.zero_le _, by rw [List.take_zero]; exact I0⟩
  case round =>
    obtain ⟨j, v', new, rfl, hj, I⟩ := hrel
    by_cases hlt : j < os.length
    · have f1 : (0 : Int) ≤ (j : Int) := by omega
      have f2 : (j : Int) < (os.length : Int) := by omega
      obtain ⟨rg, ap, cp, rfl, hcell, hbs, hc1, hc2, hrg, hrk⟩ := (HO.out wr I.g).at hlt
      have hzl : ((bytesOf2 os).getD j []).length ≤ 1000000 := by
        have : (bytesOf2 os).getD j [] = (os[j]).2 := by simp [bytesOf2, List.getD, hlt]
        rw [this]
        exact hrl _ (List.getElem_mem hlt)
      have hlen := hnl.out j v' new wr I (by omega)
      obtain ⟨a1, c1, w1, a2, c2, w2, R1, k1, x1, R2, k2, z2, kk, N⟩ := I.step hB (by rw [List.length_append]; omega) ap cp _ hbs hzl
      rw [← snoc2 (by rw [bytesOf2_len]; exact hlt)] at N
      have kx : wr.cell? ⟨xb, 4, none⟩ = some v' := I.b.q.cell 4
      have lx := I.b.q.lt
      have lg := World.block_lt_of_cell? wr _ hcell
      obtain ⟨vo, vc, hv'⟩ : ∃ vo vc, v' = .slice vo (ps ++ new).length vc := I.b.k.row.form
      subst hv'
      unfold maxLen at hc2
      clear I hbs hlen kk
      generalize (bytesOf2 os).getD j [] = z at *
      generalize hml : (ps ++ new).length = ml at *
      replace hml := hid_into hml
      have s1 : IntKind.i64.wrap (1 - en) = 1 - en := IntWalk.i64_in _ (by omega)
      go_wp2_with fail
      go_region_law (first
        | (refine step_append_eq rfl 29 (.tmp 20) (.tmp 24) rfl _ _ _ (by rfl) (by rfl) R1.out ?_)
        | (refine step_append_eq rfl 44 (.tmp 17) (.tmp 27) rfl _ _ _ (by rfl) (by rfl) R2.out ?_))
      all_goals
        (clear R1 R2 k1 x1 k2 z2 kx lx lg hcell
         go_wp2_with fail
         go_roundw
         case rel =>
          obtain ⟨new', N'⟩ := N.out
          exact ⟨j + 1, _, new', by go_num, by omega, N'⟩
         case measure => simp [intOf]; omega)
    · obtain rfl : j = os.length := by omega
      have hI : OutI w B xb la lb da db v ps en (bytesOf2 os) v' new wr := by
        have e : (bytesOf2 os).take os.length = bytesOf2 os := List.take_of_length_le (by rw [bytesOf2_len]; exact Nat.le_refl _)
        rw [e] at I
        exact I
      clear I
      go_wp2_with fail
      go_end0
      exact ⟨v', new, rfl, hI⟩
end
end Go.Proofs.YtahodgmdikaedaaDoor
end

section
/-
  Two ends, the document's beside them: start, by contract.
-/
namespace Go.Proofs.YtahodgmdikaedaaDoor
open Go.RowKit
/-- Both, and the ends: the program's (states s, t), the document's (states d, e), packets under way. -/
structure Bn (w : World) (B xb la lb da db : Nat) (F G : Nat → Prop) (id : Int) (s t : Lk) (v : Value) (ps : List Pq) : Prop where
  o : Bo w B xb la lb da db v ps
  a : Ld w B F la id s
  b : Ld w B G lb id t
  x : ¬ F xb ∧ ¬ G xb
  fg : ∀ k, F k → ¬ G k
  p : ∀ k, BlkP v ps k → ¬ F k ∧ ¬ G k
/-- An end, and the document's. -/
theorem two_new (W : World) (B : Nat) (hB : B ≤ W.heap.size) (xb : Nat) (cs : List Value) (hq : Cw W xb cs 46) (id : Int) (hi : -9223372036854775808 ≤ id ∧ id ≤ 9223372036854775807) :
    Calls Tryd.prog 20 #[.int .i64 id] W fun e w1 => e = .returned (.pointer (some ⟨W.heap.size, 0, none⟩)) ∧ Hid (Calls Tryd.prog 21 #[.int .i64 id] w1 fun e w2 => ∃ da, e = .returned (.pointer (some ⟨da, 0, none⟩)) ∧ Cw w2 xb cs 46 ∧
      Hid (Ld w2 B (fun k => k = W.heap.size) W.heap.size id newL ∧ Dq w2 da id newL ∧ Below W.heap.size W w2 ∧ W.heap.size < da ∧ da < w2.heap.size)) := by
  refine (Ld.new W B hB id hi).mono ?_
  rintro e w1 ⟨rfl, A1, B1, s1⟩
  refine ⟨rfl, ?_⟩
  refine (dnew_any w1 id hi).mono ?_
  rintro e w2 ⟨rfl, D2, B2, s2⟩
  exact ⟨_, rfl, (hq.below B1 hq.lt).below B2 (by have := hq.lt; omega), A1.below B2, D2, B1.trans (B2.mono B1.size), by omega, by omega⟩
set_option maxHeartbeats 6400000 in
set_option maxRecDepth 20000 in
theorem start_any (w : World) (id : Int) (hi : -9223372036854775808 ≤ id ∧ id ≤ 9223372036854775807) :
    Calls Tryd.prog 11 #[.int .i64 id] w fun e w' => ∃ xb la lb da db F G, e = .returned (.tuple #[.pointer (some ⟨xb, 0, none⟩), .bool true]) ∧ Bn w' w.heap.size xb la lb da db F G id newL newL (.slice none 0 0) [] ∧ Dq w' da id newL ∧ Dq w' db id newL ∧ Below w.heap.size w w' ∧ (∀ k, F k ∨ G k → k ≠ da ∧ k ≠ db) ∧ da ≠ db ∧ da ≠ xb ∧ db ≠ xb ∧ w.heap.size ≤ da ∧ w.heap.size ≤ db := by
  have hi := hid_into hi
  go_enter Tryd.func11, Tryd.ntmps11
  go_wp2_with (refine wpList_box_row rfl 46 (.tmp 6) rfl [.pointer none, .pointer none, .pointer none, .pointer none, .slice none 0 0] (by rfl) ?_; intro w1 bx hb1 hs1)
  refine wp_loop_rounds 3 ?_
  rw [rounds_succ]
  go_wp2_with fail
  have hsz1 := hid_into hb1.size
  have C1 := hid_into (two_new w1.drew w.heap.size hsz1.out w.heap.size _ (bx.keep rfl) id hi.out)
  have hb1 := hid_into hb1
  have hbx := hid_into bx.lt
  have hs1 := hs1
  clear bx
  go_region_law (go_simp; go_wp2_with (first
    | (go_at_call 20; refine C1.out.mono ?_; rintro e w2 ⟨rfl, C2⟩)
    | (go_at_call 21; refine C2.out.mono ?_; rintro e w3 ⟨da, rfl, q3, H3⟩; have z0 : w3.cell? ⟨w.heap.size, 0, none⟩ = some (.pointer none) := q3.cell 0; have z2 : w3.cell? ⟨w.heap.size, 2, none⟩ = some (.pointer none) := q3.cell 2; have fz := q3.frozen)))
  have GS : Gr (fun k => k = w.heap.size) w3 ((w3.setCell ⟨w.heap.size, 0, none⟩ (.pointer (some ⟨w1.heap.size, 0, none⟩))).setCell ⟨w.heap.size, 2, none⟩ (.pointer (some ⟨da, 0, none⟩))) :=
    (Gr.setCell (F := fun k => k = w.heap.size) _ _ _ rfl).trans (Gr.setCell (F := fun k => k = w.heap.size) _ _ _ rfl) fun k hk => Or.inl hk
  have q5 : Hid (Cw ((w3.setCell ⟨w.heap.size, 0, none⟩ (.pointer (some ⟨w1.heap.size, 0, none⟩))).setCell ⟨w.heap.size, 2, none⟩ (.pointer (some ⟨da, 0, none⟩))) w.heap.size [.pointer (some ⟨w1.heap.size, 0, none⟩), .pointer none, .pointer (some ⟨da, 0, none⟩), .pointer none, .slice none 0 0] 46) := (q3.set 0 _).set 2 _
  obtain ⟨A3, D3, B3, l3, l4⟩ := H3.out
  have s1' := hs1.out
  have A5 : Hid (Ld ((w3.setCell ⟨w.heap.size, 0, none⟩ (.pointer (some ⟨w1.heap.size, 0, none⟩))).setCell ⟨w.heap.size, 2, none⟩ (.pointer (some ⟨da, 0, none⟩))) w.heap.size (fun k => k = w1.heap.size) w1.heap.size id newL) := A3.gr GS fun k hk e => by have : k = w1.heap.size := hk; omega
  have D5 : Hid (Dq ((w3.setCell ⟨w.heap.size, 0, none⟩ (.pointer (some ⟨w1.heap.size, 0, none⟩))).setCell ⟨w.heap.size, 2, none⟩ (.pointer (some ⟨da, 0, none⟩))) da id newL) := D3.keep (GS.block da D3.q.lt fun e => by have : w1.heap.size < da := l3; omega)
  have l3' : w1.heap.size < da := l3
  have B3' : Below w1.heap.size w1 w3 := ⟨B3.os, B3.tape, B3.output, B3.size, B3.block⟩
  have B5 : Hid (Below w.heap.size w ((w3.setCell ⟨w.heap.size, 0, none⟩ (.pointer (some ⟨w1.heap.size, 0, none⟩))).setCell ⟨w.heap.size, 2, none⟩ (.pointer (some ⟨da, 0, none⟩)))) := (hb1.out.trans (B3'.mono hsz1.out)).trans (GS.below (by have := B3'.size; omega) fun k hk => by omega)
  have ss : ((w3.setCell ⟨w.heap.size, 0, none⟩ (.pointer (some ⟨w1.heap.size, 0, none⟩))).setCell ⟨w.heap.size, 2, none⟩ (.pointer (some ⟨da, 0, none⟩))).heap.size = w3.heap.size := by simp [World.setCell]
  have NUM : Hid (w.heap.size < w1.heap.size ∧ w1.heap.size < da ∧ da < ((w3.setCell ⟨w.heap.size, 0, none⟩ (.pointer (some ⟨w1.heap.size, 0, none⟩))).setCell ⟨w.heap.size, 2, none⟩ (.pointer (some ⟨da, 0, none⟩))).heap.size) := by show _ ∧ _ ∧ _; omega
  clear GS A3 D3 B3 l3 l4 l3' B3' s1' hs1 C1 C2 H3 z0 z2 fz ss hb1 hsz1 hbx q3
  generalize (w3.setCell ⟨w.heap.size, 0, none⟩ (.pointer (some ⟨w1.heap.size, 0, none⟩))).setCell ⟨w.heap.size, 2, none⟩ (.pointer (some ⟨da, 0, none⟩)) = w5 at *
  generalize w1.heap.size = la at *
  go_wp2_with fail
  rw [rounds_succ]
  go_wp2_with fail
  have hsz5 := hid_into B5.out.size
  have C1 := hid_into (two_new w5.drew w.heap.size hsz5.out w.heap.size _ (q5.out.keep rfl) id hi.out)
  go_region_law (go_simp; go_wp2_with (first
    | (go_at_call 20; refine C1.out.mono ?_; rintro e w6 ⟨rfl, C2⟩)
    | (go_at_call 21; refine C2.out.mono ?_; rintro e w7 ⟨db, rfl, q7, H7⟩; have z1 : w7.cell? ⟨w.heap.size, 1, none⟩ = some (.pointer none) := q7.cell 1; have z3 : w7.cell? ⟨w.heap.size, 3, none⟩ = some (.pointer none) := q7.cell 3; have fz := q7.frozen)))
  have GS : Gr (fun k => k = w.heap.size) w7 ((w7.setCell ⟨w.heap.size, 1, none⟩ (.pointer (some ⟨w5.heap.size, 0, none⟩))).setCell ⟨w.heap.size, 3, none⟩ (.pointer (some ⟨db, 0, none⟩))) :=
    (Gr.setCell (F := fun k => k = w.heap.size) _ _ _ rfl).trans (Gr.setCell (F := fun k => k = w.heap.size) _ _ _ rfl) fun k hk => Or.inl hk
  have q9 : Cw ((w7.setCell ⟨w.heap.size, 1, none⟩ (.pointer (some ⟨w5.heap.size, 0, none⟩))).setCell ⟨w.heap.size, 3, none⟩ (.pointer (some ⟨db, 0, none⟩))) w.heap.size (boC la w5.heap.size da db (.slice none 0 0)) 46 := (q7.set 1 _).set 3 _
  obtain ⟨A7, D7, B7, l7, l8⟩ := H7.out
  have N5 := NUM.out
  have l7' : w5.heap.size < db := l7
  have B7' : Below w5.heap.size w5 w7 := ⟨B7.os, B7.tape, B7.output, B7.size, B7.block⟩
  have g57 : Gr (fun _ => False) w5 w7 := Gr.of_below B7' _ fun k hk hb => by omega
  have A9 : Ld ((w7.setCell ⟨w.heap.size, 1, none⟩ (.pointer (some ⟨w5.heap.size, 0, none⟩))).setCell ⟨w.heap.size, 3, none⟩ (.pointer (some ⟨db, 0, none⟩))) w.heap.size (fun k => k = la) la id newL := (A5.out.gr g57 fun _ _ h => h).gr GS fun k hk e => by omega
  have E9 : Ld ((w7.setCell ⟨w.heap.size, 1, none⟩ (.pointer (some ⟨w5.heap.size, 0, none⟩))).setCell ⟨w.heap.size, 3, none⟩ (.pointer (some ⟨db, 0, none⟩))) w.heap.size (fun k => k = w5.heap.size) w5.heap.size id newL := A7.gr GS fun k hk e => by have : k = w5.heap.size := hk; omega
  have D9 : Dq ((w7.setCell ⟨w.heap.size, 1, none⟩ (.pointer (some ⟨w5.heap.size, 0, none⟩))).setCell ⟨w.heap.size, 3, none⟩ (.pointer (some ⟨db, 0, none⟩))) da id newL := (D5.out.keep (B7'.block da (by omega))).keep (GS.block da (by have := B7'.size; omega) (by omega))
  have H9 : Dq ((w7.setCell ⟨w.heap.size, 1, none⟩ (.pointer (some ⟨w5.heap.size, 0, none⟩))).setCell ⟨w.heap.size, 3, none⟩ (.pointer (some ⟨db, 0, none⟩))) db id newL := D7.keep (GS.block db l8 (by omega))
  have B9 : Below w.heap.size w ((w7.setCell ⟨w.heap.size, 1, none⟩ (.pointer (some ⟨w5.heap.size, 0, none⟩))).setCell ⟨w.heap.size, 3, none⟩ (.pointer (some ⟨db, 0, none⟩))) := (B5.out.trans (B7'.mono hsz5.out)).trans (GS.below (by have := B7'.size; omega) fun k hk => by omega)
  obtain ⟨c0, c1⟩ : ((w7.setCell ⟨w.heap.size, 1, none⟩ (.pointer (some ⟨w5.heap.size, 0, none⟩))).setCell ⟨w.heap.size, 3, none⟩ (.pointer (some ⟨db, 0, none⟩))).cell? ⟨w.heap.size, 0, none⟩ = some (.pointer (some ⟨la, 0, none⟩)) ∧ ((w7.setCell ⟨w.heap.size, 1, none⟩ (.pointer (some ⟨w5.heap.size, 0, none⟩))).setCell ⟨w.heap.size, 3, none⟩ (.pointer (some ⟨db, 0, none⟩))).cell? ⟨w.heap.size, 1, none⟩ = some (.pointer (some ⟨w5.heap.size, 0, none⟩)) := ⟨q9.cell 0, q9.cell 1⟩
  have FIN : Hid (∀ n, ∃ (X L1 L2 D1 D2 : Nat) (F G : Nat → Prop), (Ending.returned (.tuple #[.pointer (some ⟨w.heap.size, 0, none⟩), .bool true]) = .returned (.tuple #[.pointer (some ⟨X, 0, none⟩), .bool true])) ∧ Bn (((w7.setCell ⟨w.heap.size, 1, none⟩ (.pointer (some ⟨w5.heap.size, 0, none⟩))).setCell ⟨w.heap.size, 3, none⟩ (.pointer (some ⟨db, 0, none⟩))).drewN n) w.heap.size X L1 L2 D1 D2 F G id newL newL (.slice none 0 0) [] ∧ Dq (((w7.setCell ⟨w.heap.size, 1, none⟩ (.pointer (some ⟨w5.heap.size, 0, none⟩))).setCell ⟨w.heap.size, 3, none⟩ (.pointer (some ⟨db, 0, none⟩))).drewN n) D1 id newL ∧ Dq (((w7.setCell ⟨w.heap.size, 1, none⟩ (.pointer (some ⟨w5.heap.size, 0, none⟩))).setCell ⟨w.heap.size, 3, none⟩ (.pointer (some ⟨db, 0, none⟩))).drewN n) D2 id newL ∧ Below w.heap.size w (((w7.setCell ⟨w.heap.size, 1, none⟩ (.pointer (some ⟨w5.heap.size, 0, none⟩))).setCell ⟨w.heap.size, 3, none⟩ (.pointer (some ⟨db, 0, none⟩))).drewN n) ∧ (∀ k, F k ∨ G k → k ≠ D1 ∧ k ≠ D2) ∧ D1 ≠ D2 ∧ D1 ≠ X ∧ D2 ≠ X ∧ w.heap.size ≤ D1 ∧ w.heap.size ≤ D2) := fun n => by
    have gn : Gr (fun _ => False) ((w7.setCell ⟨w.heap.size, 1, none⟩ (.pointer (some ⟨w5.heap.size, 0, none⟩))).setCell ⟨w.heap.size, 3, none⟩ (.pointer (some ⟨db, 0, none⟩))) (((w7.setCell ⟨w.heap.size, 1, none⟩ (.pointer (some ⟨w5.heap.size, 0, none⟩))).setCell ⟨w.heap.size, 3, none⟩ (.pointer (some ⟨db, 0, none⟩))).drewN n) := ⟨rfl, rfl, rfl, Nat.le_refl _, fun _ _ _ => rfl⟩
    refine ⟨w.heap.size, la, w5.heap.size, da, db, fun k => k = la, fun k => k = w5.heap.size, rfl, ⟨⟨q9.keep rfl, Wq.nil _ _, ?_, Nat.le_refl _⟩, A9.gr gn fun _ _ h => h, E9.gr gn fun _ _ h => h, ⟨fun e => by omega, fun e => by omega⟩, fun k h1 h2 => by omega, fun k hk => ?_⟩, D9.keep rfl, H9.keep rfl, ⟨B9.os, B9.tape, B9.output, B9.size, B9.block⟩, fun k hk => by omega, by omega, by omega, by omega, by omega, by omega⟩
    · rintro (h | ⟨p, h, _⟩)
      · cases h
      · cases h
    · rcases hk with h | ⟨p, h, _⟩
      · cases h
      · cases h
  clear GS q9 A7 D7 B7 l7 l8 N5 l7' B7' g57 A9 E9 D9 H9 B9 C1 C2 H7 q7 z1 z3 fz A5 D5 B5 q5 hsz5 NUM
  generalize w5.heap.size = lb at *
  go_wp2_with fail
  rw [rounds_succ]
  go_wp2_with fail
  go_quiet (fail)
  go_wp2_with fail
  go_ret2
  obtain ⟨xb', la', lb', da', db', F, G, e, h⟩ := FIN.out nq
  exact ⟨xb', la', lb', da', db', F, G, by rw [← e]; rfl, h⟩
end Go.Proofs.YtahodgmdikaedaaDoor
end

section
/-
  LinkEnds in memory: two ends, packets under way, what came; what a packet that comes leaves.
-/
namespace Go.Proofs.YtahodgmdikaedaaDoor
open Go.RowKit
/-- The blocks of a row of rows. -/
def BlkR (v : Value) (rs : List Rw2) (k : Nat) : Prop := v.ownBlock = some k ∨ ∃ r ∈ rs, r.1.ownBlock = some k
theorem Rq.gr3 {H : Nat → Prop} {w w' : World} {B : Nat} {v : Value} {rs : List Rw2} (h : Rq w B v rs) (hg : Gr H w w') (hn : ∀ k, BlkR v rs k → ¬ H k) : Rq w' B v rs :=
  ⟨h.row.keep fun k hk hlt => hg.block k hlt (hn k (Or.inl hk)), fun r hr => ⟨(h.each r hr).1.keep fun k hk hlt => hg.block k hlt (hn k (Or.inr ⟨r, hr, hk⟩)), (h.each r hr).2⟩⟩
theorem Rq.blkR {w : World} {B : Nat} {v : Value} {rs : List Rw2} (h : Rq w B v rs) : ∀ k, BlkR v rs k → B ≤ k ∧ k < w.heap.size := fun k hk => by
  rcases hk with hk | ⟨r, hr, hk⟩
  · exact h.row.lt k hk
  · exact World.ownsRow.lt (h.each r hr).1 k hk
/-- The memory of LinkEnds' loops. -/
structure Em (w : World) (la xb l0 l1 da db : Nat) (F G : Nat → Prop) (x y : Lk) (v : Value) (ps : List Pq) (cv : Value) (cr : List Rw2) (W : World) : Prop where
  m : Bn W la xb l0 l1 da db F G 3 x y v ps
  r : Rq W la cv cr
  rb : ∀ k, BlkR cv cr k → ¬ F k ∧ ¬ G k ∧ k ≠ xb ∧ ¬ BlkP v ps k
  l : Below la w W
theorem Em.sz {w : World} {la xb l0 l1 da db : Nat} {F G : Nat → Prop} {x y : Lk} {v : Value} {ps : List Pq} {cv : Value} {cr : List Rw2} {W : World} (h : Em w la xb l0 l1 da db F G x y v ps cv cr W) : la ≤ W.heap.size := by
  obtain ⟨v', rs', hl⟩ := h.m.a.l
  have h1 := hl.hi l0 hl.fl
  have h2 := h.m.a.b l0 hl.fl
  omega
section
variable {w W W' : World} {la xb l0 l1 da db : Nat} {F G : Nat → Prop} {x y x' y' : Lk} {v : Value} {ps : List Pq} {cv : Value} {cr : List Rw2}
/-- A change of nothing that is theirs. -/
theorem Em.keep (h : Em w la xb l0 l1 da db F G x y v ps cv cr W) (hg : Gr (fun _ => False) W W') : Em w la xb l0 l1 da db F G x y v ps cv cr W' :=
  ⟨⟨h.m.o.gr hg (fun h => h) fun _ _ h => h, h.m.a.gr hg fun _ _ h => h, h.m.b.gr hg fun _ _ h => h, h.m.x, h.m.fg, h.m.p⟩, h.r.gr3 hg fun _ _ h => h, h.rb, h.l.trans (hg.below h.sz fun _ hk => hk.elim)⟩
theorem blkP_tail {g off cap n : Nat} {p : Pq} {k : Nat} (hv : v = .slice (some ⟨g, off, none⟩) (n + 1) cap) (hk : BlkP (.slice (if cap = 1 then some ⟨g, off, none⟩ else some ⟨g, off + 2, none⟩) n (cap - 1)) ps k) : BlkP v (p :: ps) k := by
  rcases hk with hk | ⟨q, hq, hk⟩
  · refine Or.inl ?_
    rw [hv, ← hk]
    split <;> rfl
  · exact Or.inr ⟨q, List.mem_cons_of_mem _ hq, hk⟩
/-- The first packet is taken out. -/
theorem Em.pop {p : Pq} (h : Em w la xb l0 l1 da db F G x y v (p :: ps) cv cr W) : ∃ g off cap ap cp, v = .slice (some ⟨g, off, none⟩) (ps.length + 1) cap ∧ ps.length + 1 ≤ cap ∧ cap ≤ maxLen ∧ W.cell? ⟨g, off, none⟩ = some (.int .i64 p.to) ∧ W.cell? ⟨g, off + 1, none⟩ = some (.slice ap p.b.length cp) ∧ W.cell? ⟨xb, 4, none⟩ = some v ∧ W.frozen? ⟨xb, 4, none⟩ = false ∧ xb < W.heap.size ∧ g < W.heap.size ∧
    Hid (∀ W2, Gr (fun _ => False) W W2 → Em w la xb l0 l1 da db F G x y (.slice (if cap = 1 then some ⟨g, off, none⟩ else some ⟨g, off + 2, none⟩) ps.length (cap - 1)) ps cv cr (W2.setCell ⟨xb, 4, none⟩ (.slice (if cap = 1 then some ⟨g, off, none⟩ else some ⟨g, off + 2, none⟩) ps.length (cap - 1))) ∧
      Bs (W2.setCell ⟨xb, 4, none⟩ (.slice (if cap = 1 then some ⟨g, off, none⟩ else some ⟨g, off + 2, none⟩) ps.length (cap - 1))) (.slice ap p.b.length cp) p.b) := by
  obtain ⟨g, off, cap, ap, cp, hv, c1, c2, k0, k1, hpv, hpo, hq⟩ := h.m.o.k.head
  refine ⟨g, off, cap, ap, cp, hv, c1, c2, k0, k1, h.m.o.q.cell 4, h.m.o.q.frozen 4, h.m.o.q.lt, World.block_lt_of_cell? W _ k0, fun W2 hg => ?_⟩
  have E2 := h.keep hg
  have hq2 := hq.gr (w' := W2) hg fun _ _ h => h
  have gs : Gr (fun k => k = xb) W2 (W2.setCell ⟨xb, 4, none⟩ (.slice (if cap = 1 then some ⟨g, off, none⟩ else some ⟨g, off + 2, none⟩) ps.length (cap - 1))) := Gr.setCell _ _ _ rfl
  have nx : ∀ k, BlkP (.slice (if cap = 1 then some ⟨g, off, none⟩ else some ⟨g, off + 2, none⟩) ps.length (cap - 1)) ps k → ¬ k = xb := fun k hk e => h.m.o.n (by rw [← e]; exact blkP_tail hv hk)
  refine ⟨⟨⟨⟨E2.m.o.q.set 4 _, hq2.gr gs nx, fun hk => nx xb hk rfl, h.m.o.b⟩, E2.m.a.gr gs fun k hk e => h.m.x.1 (by rw [← e]; exact hk), E2.m.b.gr gs fun k hk e => h.m.x.2 (by rw [← e]; exact hk), h.m.x, h.m.fg, fun k hk => h.m.p k (blkP_tail hv hk)⟩, E2.r.gr3 gs fun k hk => (h.rb k hk).2.2.1, fun k hk => ?_, ?_⟩, ?_⟩
  · obtain ⟨a1, a2, a3, a4⟩ := h.rb k hk
    exact ⟨a1, a2, a3, fun e => a4 (blkP_tail hv e)⟩
  · exact E2.l.trans (gs.below E2.sz fun _ hk => by have := h.m.o.b; omega)
  · refine (hpo.bs.keep fun k hk hlt => hg.block k hlt fun h => h).keep fun k hk hlt => gs.block k hlt fun e => ?_
    exact h.m.o.n (Or.inr ⟨p, List.mem_cons_self .., by rw [hpv, ← e]; exact hk⟩)
/-- Packets of an end go out. -/
theorem Em.out (h : Em w la xb l0 l1 da db F G x y v ps cv cr W) (en : Int) (he : 0 ≤ en ∧ en ≤ 1) (pk : List Pk) {n : Nat} {u : Value} (ho : Po W n 3 pk u) (hn : ∀ k, n ≤ k → k < W.heap.size → ¬ BlkP v ps k ∧ k ≠ xb) (hg : ∀ p ∈ pk, p.Good) (hl : ps.length + pk.length ≤ 1000000) :
    Calls Tryd.prog 17 #[.pointer (some ⟨xb, 0, none⟩), .int .i64 en, u] W fun e W2 => ∃ v' new, e = .returned (.tuple #[]) ∧ Em w la xb l0 l1 da db F G x y v' (ps ++ new) cv cr W2 ∧ new.map (fun p => (p.to, p.b)) = (pk.map (encP 3)).map (fun z => (1 - en, z)) := by
  obtain ⟨os, ho, hb⟩ := ho
  have hub : ∀ k, (u.ownBlock = some k ∨ ∃ r ∈ os, r.1.ownBlock = some k) → n ≤ k ∧ k < W.heap.size := fun k hk => by
    rcases hk with hk | ⟨r, hr, hk⟩
    · exact World.ownsRow.lt ho.row k hk
    · exact World.ownsRow.lt (ho.each r hr).1 k hk
  refine (out_any h.m.o h.sz he ho (fun k hk => ?_) (fun r hr => ?_) (by rw [pb_len hb]; exact hl)).mono ?_
  · obtain ⟨h1, h2⟩ := hub k hk
    obtain ⟨h3, h4⟩ := hn k h1 h2
    exact ⟨h4, fun e => h3 (Or.inl e)⟩
  · have : r.2 ∈ bytesOf2 os := List.mem_map.2 ⟨r, hr, rfl⟩
    rw [hb] at this
    obtain ⟨p, hp, e⟩ := List.mem_map.1 this
    have := encP_len 3 p (hg p hp)
    rw [← e]
    omega
  · rintro e W2 ⟨v', new, rfl, I⟩
    refine ⟨v', new, rfl, ⟨⟨I.b, h.m.a.gr I.g fun k hk e => ?_, h.m.b.gr I.g fun k hk e => ?_, h.m.x, h.m.fg, fun k hk => ?_⟩, h.r.gr3 I.g fun k hk e => ?_, fun k hk => ?_, h.l.trans (I.g.below h.sz fun k hk => ?_)⟩, by rw [I.e, hb]⟩
    · rcases e with e | e
      · exact h.m.x.1 (by rw [← e]; exact hk)
      · exact (h.m.p k (Or.inl e)).1 hk
    · rcases e with e | e
      · exact h.m.x.2 (by rw [← e]; exact hk)
      · exact (h.m.p k (Or.inl e)).2 hk
    · rcases I.k k hk with e | e
      · exact h.m.p k e
      · exact ⟨fun hF => by have := h.m.a.hi k hF; omega, fun hG => by have := h.m.b.hi k hG; omega⟩
    · rcases e with e | e
      · exact (h.rb k hk).2.2.1 e
      · exact (h.rb k hk).2.2.2 (Or.inl e)
    · obtain ⟨a1, a2, a3, a4⟩ := h.rb k hk
      refine ⟨a1, a2, a3, fun e => ?_⟩
      rcases I.k k e with e | e
      · exact a4 e
      · have := (h.r.blkR k hk).2; omega
    · rcases hk with hk | hk
      · have := h.m.o.b; omega
      · exact (h.m.o.k.row.lt k hk).1
end
end Go.Proofs.YtahodgmdikaedaaDoor
end

section
/-
  LinkOrder in memory: two ends, packets under way, what came at each, how many rows were sent.
-/
namespace Go.Proofs.YtahodgmdikaedaaDoor
open Go.RowKit
/-- The memory of LinkOrder's loop: u0, u1 what came; sb how many were sent, cb what came, gb what is to be sent. -/
structure Om (w : World) (la xb l0 l1 da db gb sb cb : Nat) (F G : Nat → Prop) (x y : Lk) (v : Value) (ps : List Pq) (u0 : Value) (r0 : List Rw2) (u1 : Value) (r1 : List Rw2) (s0 s1 : Nat) (av bv : Value) (W : World) : Prop where
  m : Bn W la xb l0 l1 da db F G 9 x y v ps
  a0 : Rq W la u0 r0
  a1 : Rq W la u1 r1
  z0 : ∀ k, BlkR u0 r0 k → ¬ F k ∧ ¬ G k ∧ k ≠ xb ∧ ¬ BlkP v ps k ∧ ¬ BlkR u1 r1 k
  z1 : ∀ k, BlkR u1 r1 k → ¬ F k ∧ ¬ G k ∧ k ≠ xb ∧ ¬ BlkP v ps k
  qs : Cw W sb [.int .i64 (s0 : Int), .int .i64 (s1 : Int)] 36
  qc : Cw W cb [u0, u1] 35
  qg : Cw W gb [av, bv] 35
  zz : ∀ k, (k = sb ∨ k = cb ∨ k = gb) → la ≤ k ∧ ¬ F k ∧ ¬ G k ∧ k ≠ xb ∧ ¬ BlkP v ps k ∧ ¬ BlkR u0 r0 k ∧ ¬ BlkR u1 r1 k
  ne : sb ≠ cb ∧ sb ≠ gb ∧ cb ≠ gb
  l : Below la w W
section
variable {w W W' : World} {la xb l0 l1 da db gb sb cb : Nat} {F G F' G' : Nat → Prop} {x y x' y' : Lk} {v : Value} {ps : List Pq} {u0 u1 : Value} {r0 r1 : List Rw2} {s0 s1 : Nat} {av bv : Value}
theorem Om.sz (h : Om w la xb l0 l1 da db gb sb cb F G x y v ps u0 r0 u1 r1 s0 s1 av bv W) : la ≤ W.heap.size := by
  have h1 := h.qs.lt
  have h2 := (h.zz sb (Or.inl rfl)).1
  omega
/-- What is new is none of theirs. -/
theorem Om.fresh (h : Om w la xb l0 l1 da db gb sb cb F G x y v ps u0 r0 u1 r1 s0 s1 av bv W) (k : Nat) (hk : W.heap.size ≤ k) : ¬ F k ∧ ¬ G k ∧ k ≠ xb ∧ ¬ BlkP v ps k ∧ ¬ BlkR u0 r0 k ∧ ¬ BlkR u1 r1 k ∧ k ≠ sb ∧ k ≠ cb ∧ k ≠ gb :=
  ⟨fun e => by have := h.m.a.hi k e; omega, fun e => by have := h.m.b.hi k e; omega, fun e => by have := h.m.o.q.lt; omega, fun e => by have := (h.m.o.k.blk k e).2; omega, fun e => by have := (h.a0.blkR k e).2; omega, fun e => by have := (h.a1.blkR k e).2; omega, fun e => by have := h.qs.lt; omega, fun e => by have := h.qc.lt; omega, fun e => by have := h.qg.lt; omega⟩
/-- A change of nothing that is theirs. -/
theorem Om.keep (h : Om w la xb l0 l1 da db gb sb cb F G x y v ps u0 r0 u1 r1 s0 s1 av bv W) (hg : Gr (fun _ => False) W W') : Om w la xb l0 l1 da db gb sb cb F G x y v ps u0 r0 u1 r1 s0 s1 av bv W' :=
  ⟨⟨h.m.o.gr hg (fun h => h) fun _ _ h => h, h.m.a.gr hg fun _ _ h => h, h.m.b.gr hg fun _ _ h => h, h.m.x, h.m.fg, h.m.p⟩, h.a0.gr3 hg fun _ _ h => h, h.a1.gr3 hg fun _ _ h => h, h.z0, h.z1, hg.cw h.qs (fun h => h), hg.cw h.qc (fun h => h), hg.cw h.qg (fun h => h), h.zz, h.ne, h.l.trans (hg.below h.sz fun _ hk => hk.elim)⟩
/-- The first end's blocks change. -/
theorem Om.chg0 (h : Om w la xb l0 l1 da db gb sb cb F G x y v ps u0 r0 u1 r1 s0 s1 av bv W) (A2 : Ld W' la F' l0 9 x') (hg : Gr F W W') (hF : ∀ k, F' k → F k ∨ W.heap.size ≤ k) : Om w la xb l0 l1 da db gb sb cb F' G x' y v ps u0 r0 u1 r1 s0 s1 av bv W' := by
  have nF : ∀ k, ¬ F k → k < W.heap.size → ¬ F' k := fun k h1 h2 e => by
    rcases hF k e with e | e
    · exact h1 e
    · omega
  refine ⟨⟨h.m.o.gr hg h.m.x.1 fun k hk => (h.m.p k hk).1, A2, h.m.b.gr hg fun k hk e => h.m.fg k e hk, ⟨nF xb h.m.x.1 h.m.o.q.lt, h.m.x.2⟩, fun k hk hG => ?_, fun k hk => ⟨nF k (h.m.p k hk).1 (h.m.o.k.blk k hk).2, (h.m.p k hk).2⟩⟩, h.a0.gr3 hg fun k hk => (h.z0 k hk).1, h.a1.gr3 hg fun k hk => (h.z1 k hk).1, fun k hk => ?_, fun k hk => ?_, hg.cw h.qs (h.zz sb (Or.inl rfl)).2.1, hg.cw h.qc (h.zz cb (Or.inr (Or.inl rfl))).2.1, hg.cw h.qg (h.zz gb (Or.inr (Or.inr rfl))).2.1, fun k hk => ?_, h.ne, h.l.trans (hg.below h.sz h.m.a.b)⟩
  · rcases hF k hk with e | e
    · exact h.m.fg k e hG
    · have := h.m.b.hi k hG; omega
  · obtain ⟨a1, a2⟩ := h.z0 k hk
    exact ⟨nF k a1 (h.a0.blkR k hk).2, a2⟩
  · obtain ⟨a1, a2⟩ := h.z1 k hk
    exact ⟨nF k a1 (h.a1.blkR k hk).2, a2⟩
  · obtain ⟨a1, a2, a3⟩ := h.zz k hk
    refine ⟨a1, nF k a2 ?_, a3⟩
    rcases hk with rfl | rfl | rfl
    · exact h.qs.lt
    · exact h.qc.lt
    · exact h.qg.lt
/-- The second end's blocks change. -/
theorem Om.chg1 (h : Om w la xb l0 l1 da db gb sb cb F G x y v ps u0 r0 u1 r1 s0 s1 av bv W) (A2 : Ld W' la G' l1 9 y') (hg : Gr G W W') (hF : ∀ k, G' k → G k ∨ W.heap.size ≤ k) : Om w la xb l0 l1 da db gb sb cb F G' x y' v ps u0 r0 u1 r1 s0 s1 av bv W' := by
  have nF : ∀ k, ¬ G k → k < W.heap.size → ¬ G' k := fun k h1 h2 e => by
    rcases hF k e with e | e
    · exact h1 e
    · omega
  refine ⟨⟨h.m.o.gr hg h.m.x.2 fun k hk => (h.m.p k hk).2, h.m.a.gr hg fun k hk e => h.m.fg k hk e, A2, ⟨h.m.x.1, nF xb h.m.x.2 h.m.o.q.lt⟩, fun k hk hG => ?_, fun k hk => ⟨(h.m.p k hk).1, nF k (h.m.p k hk).2 (h.m.o.k.blk k hk).2⟩⟩, h.a0.gr3 hg fun k hk => (h.z0 k hk).2.1, h.a1.gr3 hg fun k hk => (h.z1 k hk).2.1, fun k hk => ?_, fun k hk => ?_, hg.cw h.qs (h.zz sb (Or.inl rfl)).2.2.1, hg.cw h.qc (h.zz cb (Or.inr (Or.inl rfl))).2.2.1, hg.cw h.qg (h.zz gb (Or.inr (Or.inr rfl))).2.2.1, fun k hk => ?_, h.ne, h.l.trans (hg.below h.sz h.m.b.b)⟩
  · rcases hF k hG with e | e
    · exact h.m.fg k hk e
    · have := h.m.a.hi k hk; omega
  · obtain ⟨a1, a2, a3⟩ := h.z0 k hk
    exact ⟨a1, nF k a2 (h.a0.blkR k hk).2, a3⟩
  · obtain ⟨a1, a2, a3⟩ := h.z1 k hk
    exact ⟨a1, nF k a2 (h.a1.blkR k hk).2, a3⟩
  · obtain ⟨a1, a2, a3, a4⟩ := h.zz k hk
    refine ⟨a1, a2, nF k a3 ?_, a4⟩
    rcases hk with rfl | rfl | rfl
    · exact h.qs.lt
    · exact h.qc.lt
    · exact h.qg.lt
/-- A box of one's own changes. -/
theorem Om.box (h : Om w la xb l0 l1 da db gb sb cb F G x y v ps u0 r0 u1 r1 s0 s1 av bv W) (b : Nat) (hb : b = sb ∨ b = cb) (hg : Gr (fun k => k = b) W W') (s0' s1' : Nat) (v0 v1 : Value) (t0 t1 : List Rw2) (qs : Cw W' sb [.int .i64 (s0' : Int), .int .i64 (s1' : Int)] 36) (qc : Cw W' cb [v0, v1] 35)
    (a0 : Rq W la v0 t0) (a1 : Rq W la v1 t1) (n0 : ∀ k, BlkR v0 t0 k → ¬ F k ∧ ¬ G k ∧ k ≠ xb ∧ ¬ BlkP v ps k ∧ ¬ BlkR v1 t1 k ∧ k ≠ sb ∧ k ≠ cb ∧ k ≠ gb) (n1 : ∀ k, BlkR v1 t1 k → ¬ F k ∧ ¬ G k ∧ k ≠ xb ∧ ¬ BlkP v ps k ∧ k ≠ sb ∧ k ≠ cb ∧ k ≠ gb) : Om w la xb l0 l1 da db gb sb cb F G x y v ps v0 t0 v1 t1 s0' s1' av bv W' := by
  have hz := h.zz b (by rcases hb with e | e; exact Or.inl e; exact Or.inr (Or.inl e))
  have e0 : ∀ k, BlkR v0 t0 k → ¬ k = b := fun k hk e => by
    have := n0 k hk
    rcases hb with e2 | e2
    · exact this.2.2.2.2.2.1 (e.trans e2)
    · exact this.2.2.2.2.2.2.1 (e.trans e2)
  have e1 : ∀ k, BlkR v1 t1 k → ¬ k = b := fun k hk e => by
    have := n1 k hk
    rcases hb with e2 | e2
    · exact this.2.2.2.2.1 (e.trans e2)
    · exact this.2.2.2.2.2.1 (e.trans e2)
  refine ⟨⟨h.m.o.gr hg (fun e => hz.2.2.2.1 e.symm) fun k hk e => hz.2.2.2.2.1 (by rw [← e]; exact hk), h.m.a.gr hg fun k hk e => hz.2.1 (by rw [← e]; exact hk), h.m.b.gr hg fun k hk e => hz.2.2.1 (by rw [← e]; exact hk), h.m.x, h.m.fg, h.m.p⟩, a0.gr3 hg e0, a1.gr3 hg e1, fun k hk => ?_, fun k hk => ?_, qs, qc, hg.cw h.qg (fun e => ?_), fun k hk => ?_, h.ne, h.l.trans (hg.below h.sz fun k hk => by rw [hk]; exact hz.1)⟩
  · obtain ⟨b1, b2, b3, b4, b5, _⟩ := n0 k hk
    exact ⟨b1, b2, b3, b4, b5⟩
  · obtain ⟨b1, b2, b3, b4, _⟩ := n1 k hk
    exact ⟨b1, b2, b3, b4⟩
  · rcases hb with e2 | e2
    · exact h.ne.2.1 (e2.symm.trans e.symm)
    · exact h.ne.2.2 (e2.symm.trans e.symm)
  · obtain ⟨b1, b2, b3, b4, b5, _, _⟩ := h.zz k hk
    refine ⟨b1, b2, b3, b4, b5, fun e => ?_, fun e => ?_⟩
    · obtain ⟨_, _, _, _, _, d1, d2, d3⟩ := n0 k e
      rcases hk with e2 | e2 | e2
      · exact d1 e2
      · exact d2 e2
      · exact d3 e2
    · obtain ⟨_, _, _, _, d1, d2, d3⟩ := n1 k e
      rcases hk with e2 | e2 | e2
      · exact d1 e2
      · exact d2 e2
      · exact d3 e2
/-- Packets of an end go out. -/
theorem Om.out (h : Om w la xb l0 l1 da db gb sb cb F G x y v ps u0 r0 u1 r1 s0 s1 av bv W) (en : Int) (he : 0 ≤ en ∧ en ≤ 1) (pk : List Pk) {n : Nat} {u : Value} (ho : Po W n 9 pk u) (hn : ∀ k, n ≤ k → k < W.heap.size → ¬ BlkP v ps k ∧ k ≠ xb) (hg : ∀ p ∈ pk, p.Good) (hl : ps.length + pk.length ≤ 1000000) :
    Calls Tryd.prog 17 #[.pointer (some ⟨xb, 0, none⟩), .int .i64 en, u] W fun e W2 => ∃ v' new, e = .returned (.tuple #[]) ∧ Om w la xb l0 l1 da db gb sb cb F G x y v' (ps ++ new) u0 r0 u1 r1 s0 s1 av bv W2 ∧ new.map (fun p => (p.to, p.b)) = (pk.map (encP 9)).map (fun z => (1 - en, z)) := by
  obtain ⟨os, ho, hb⟩ := ho
  have hub : ∀ k, (u.ownBlock = some k ∨ ∃ r ∈ os, r.1.ownBlock = some k) → n ≤ k ∧ k < W.heap.size := fun k hk => by
    rcases hk with hk | ⟨r, hr, hk⟩
    · exact World.ownsRow.lt ho.row k hk
    · exact World.ownsRow.lt (ho.each r hr).1 k hk
  refine (out_any h.m.o h.sz he ho (fun k hk => ?_) (fun r hr => ?_) (by rw [pb_len hb]; exact hl)).mono ?_
  · obtain ⟨h1, h2⟩ := hub k hk
    obtain ⟨h3, h4⟩ := hn k h1 h2
    exact ⟨h4, fun e => h3 (Or.inl e)⟩
  · have : r.2 ∈ bytesOf2 os := List.mem_map.2 ⟨r, hr, rfl⟩
    rw [hb] at this
    obtain ⟨p, hp, e⟩ := List.mem_map.1 this
    have := encP_len 9 p (hg p hp)
    rw [← e]
    omega
  · rintro e W2 ⟨v', new, rfl, I⟩
    have nk : ∀ k, k < W.heap.size → ¬ BlkP v ps k → ¬ BlkP v' (ps ++ new) k := fun k h1 h2 e => by
      rcases I.k k e with e | e
      · exact h2 e
      · omega
    have nz : ∀ b, (b = sb ∨ b = cb ∨ b = gb) → ¬ (b = xb ∨ v.ownBlock = some b) := fun b hb e => by
      obtain ⟨_, _, _, a4, a5, _⟩ := h.zz b hb
      rcases e with e | e
      · exact a4 e
      · exact a5 (Or.inl e)
    refine ⟨v', new, rfl, ⟨⟨I.b, h.m.a.gr I.g fun k hk e => ?_, h.m.b.gr I.g fun k hk e => ?_, h.m.x, h.m.fg, fun k hk => ?_⟩, h.a0.gr3 I.g fun k hk e => ?_, h.a1.gr3 I.g fun k hk e => ?_, fun k hk => ?_, fun k hk => ?_, I.g.cw h.qs (nz sb (Or.inl rfl)), I.g.cw h.qc (nz cb (Or.inr (Or.inl rfl))), I.g.cw h.qg (nz gb (Or.inr (Or.inr rfl))), fun k hk => ?_, h.ne, h.l.trans (I.g.below h.sz fun k hk => ?_)⟩, by rw [I.e, hb]⟩
    · rcases e with e | e
      · exact h.m.x.1 (by rw [← e]; exact hk)
      · exact (h.m.p k (Or.inl e)).1 hk
    · rcases e with e | e
      · exact h.m.x.2 (by rw [← e]; exact hk)
      · exact (h.m.p k (Or.inl e)).2 hk
    · rcases I.k k hk with e | e
      · exact h.m.p k e
      · exact ⟨fun hF => by have := h.m.a.hi k hF; omega, fun hG => by have := h.m.b.hi k hG; omega⟩
    · rcases e with e | e
      · exact (h.z0 k hk).2.2.1 e
      · exact (h.z0 k hk).2.2.2.1 (Or.inl e)
    · rcases e with e | e
      · exact (h.z1 k hk).2.2.1 e
      · exact (h.z1 k hk).2.2.2 (Or.inl e)
    · obtain ⟨a1, a2, a3, a4, a5⟩ := h.z0 k hk
      exact ⟨a1, a2, a3, nk k (h.a0.blkR k hk).2 a4, a5⟩
    · obtain ⟨a1, a2, a3, a4⟩ := h.z1 k hk
      exact ⟨a1, a2, a3, nk k (h.a1.blkR k hk).2 a4⟩
    · obtain ⟨a1, a2, a3, a4, a5, a6⟩ := h.zz k hk
      refine ⟨a1, a2, a3, a4, nk k ?_ a5, a6⟩
      rcases hk with rfl | rfl | rfl
      · exact h.qs.lt
      · exact h.qc.lt
      · exact h.qg.lt
    · rcases hk with hk | hk
      · have := h.m.o.b; omega
      · exact (h.m.o.k.row.lt k hk).1
end
end Go.Proofs.YtahodgmdikaedaaDoor
end
