/-
  Joined from: Base.
-/
import Derived.Test.YtahodgmdikaedaaDoorProg
import Derived.WalkKit
import Derived.Maps.AppendAt
import Derived.Deep.AppendLies
section
/-
  Words for bytes in memory: a slice of bytes that can be read (Bs), a Writer (Wr), and what a step of a Writer leaves (Wstep). Plain facts; no walk.
-/
namespace Go.Proofs.YtahodgmdikaedaaDoor
open Go.RowKit

theorem Tryd.info5 : (Tryd.prog.info? 5).map (fun i => (i.zero, i.size, i.bytes)) = some (some (.int .u8 0), 1, 1) := by kernel_rfl

/-- Bytes as cells. -/
def cellsOf (zs : List Int) : List Value := zs.map (Value.int .u8)
theorem cellsOf_length (zs : List Int) : (cellsOf zs).length = zs.length := by simp [cellsOf]
theorem cellsOf_append (a b : List Int) : cellsOf (a ++ b) = cellsOf a ++ cellsOf b := by simp [cellsOf]
theorem cellsOf_get (zs : List Int) (j : Nat) (u : Value) (h : (cellsOf zs)[j]? = some u) : j < zs.length ∧ u = .int .u8 (zs.getD j 0) := by
  have hj : j < zs.length := by have := (List.getElem?_eq_some_iff.1 h).1; simpa [cellsOf] using this
  refine ⟨hj, ?_⟩
  have e : (cellsOf zs)[j]? = some (.int .u8 (zs.getD j 0)) := by simp [cellsOf, List.getD, hj]
  rw [e] at h
  exact (Option.some.inj h).symm
theorem cellsOf_get' (zs : List Int) (j : Nat) (h : j < zs.length) : (cellsOf zs)[j]? = some (.int .u8 (zs.getD j 0)) := by simp [cellsOf, List.getD, h]
theorem cellsOf_one (zs : List Int) : ∀ u ∈ cellsOf zs, u.oneCell' = true := ints_oneCell .u8 zs

/-- The slice v reads as the bytes zs. -/
def Bs (w : World) (v : Value) (zs : List Int) : Prop :=
  (zs = [] ∧ ∃ ao cap, v = .slice ao 0 cap ∧ cap ≤ maxLen ∧ (ao = none → cap = 0)) ∨
  (zs ≠ [] ∧ ∃ b off cap, v = .slice (some ⟨b, off, none⟩) zs.length cap ∧ zs.length ≤ cap ∧ cap ≤ maxLen ∧
    ∀ i, i < zs.length → w.cell? ⟨b, off + i, none⟩ = some (.int .u8 (zs.getD i 0)))

/-- The slice v, of its own row from block base on, holds the bytes zs. -/
def Ow (w : World) (base : Nat) (v : Value) (zs : List Int) : Prop := w.ownsRow base 5 1 v zs.length (cellsOf zs)

theorem Ow.form {w : World} {base : Nat} {v : Value} {zs : List Int} (h : Ow w base v zs) :
    ∃ ao cap, v = .slice ao zs.length cap ∧ (ao = none ∧ cap = 0 ∧ zs = [] ∨ ∃ g cur, ao = some ⟨g, 0, none⟩ ∧ base ≤ g ∧ g < w.heap.size ∧ w.heap[g]? = some (.cells cur 5 (0, 0)) ∧ zs.length ≤ cap ∧ cap ≤ maxLen ∧ cur.size = cap ∧ cur.toList.take zs.length = cellsOf zs) := by
  rcases h.2 with ⟨rfl, h0⟩ | ⟨g, cap, cur, rfl, hb, hg, hn, hc, hs, ht⟩
  · refine ⟨none, 0, by rw [h0], Or.inl ⟨rfl, rfl, ?_⟩⟩
    exact List.eq_nil_of_length_eq_zero h0
  · exact ⟨_, cap, rfl, Or.inr ⟨g, cur, rfl, hb, (Array.getElem?_eq_some_iff.1 hg).1, hg, hn, hc, by simpa using hs, by simpa using ht⟩⟩

theorem Ow.mono {w : World} {base base' : Nat} {v : Value} {zs : List Int} (h : Ow w base v zs) (hb : base' ≤ base) : Ow w base' v zs := by
  refine ⟨h.1, ?_⟩
  rcases h.2 with h2 | ⟨g, cap, cur, h1, h2, h3⟩
  · exact Or.inl h2
  · exact Or.inr ⟨g, cap, cur, h1, by omega, h3⟩

theorem Ow.bs {w : World} {base : Nat} {v : Value} {zs : List Int} (h : Ow w base v zs) : Bs w v zs := by
  obtain ⟨ao, cap, rfl, ⟨rfl, rfl, rfl⟩ | ⟨g, cur, rfl, hb, hl, hg, hn, hc, hs, ht⟩⟩ := h.form
  · exact Or.inl ⟨rfl, none, 0, rfl, by unfold maxLen; omega, fun _ => rfl⟩
  · by_cases hz : zs = []
    · subst hz
      exact Or.inl ⟨rfl, _, cap, rfl, hc, by intro h; cases h⟩
    · refine Or.inr ⟨hz, g, 0, cap, rfl, hn, hc, fun i hi => ?_⟩
      have := h.cells (g := g) rfl i _ (cellsOf_get' zs i hi)
      simpa [Addr.add_lit] using this

theorem Bs.keep {w w' : World} {v : Value} {zs : List Int} (h : Bs w v zs) (hk : ∀ k, v.ownBlock = some k → k < w.heap.size → w'.heap[k]? = w.heap[k]?) : Bs w' v zs := by
  rcases h with h | ⟨hz, b, off, cap, rfl, hn, hc, hcell⟩
  · exact Or.inl h
  · refine Or.inr ⟨hz, b, off, cap, rfl, hn, hc, fun i hi => ?_⟩
    have h1 := hcell i hi
    have hlt := World.block_lt_of_cell? w _ h1
    rw [World.cell?_of_block (w := w) (hk b rfl hlt)]
    exact h1

theorem Bs.below {w w' : World} {v : Value} {zs : List Int} {B : Nat} (h : Bs w v zs) (hk : Below B w w') (hb : w.heap.size ≤ B) : Bs w' v zs :=
  h.keep fun k _ hlt => hk.block k (by omega)

theorem Bs.len {w : World} {v : Value} {zs : List Int} (h : Bs w v zs) : ∃ ao cap, v = .slice ao zs.length cap ∧ zs.length ≤ maxLen := by
  rcases h with ⟨rfl, ao, cap, rfl, _, _⟩ | ⟨_, b, off, cap, rfl, h1, h2, _⟩
  · exact ⟨ao, cap, rfl, by unfold maxLen; simp⟩
  · exact ⟨_, cap, rfl, by omega⟩

/-- A block of bytes laid whole, seen as a slice. -/
theorem Bs_of_block {w : World} {B : Nat} {zs : List Int} {t : TypeId} {fr : Nat × Nat} (hb : w.heap[B]? = some (.cells (cellsOf zs).toArray t fr)) (hm : zs.length ≤ maxLen) : Bs w (.slice (some ⟨B, 0, none⟩) zs.length zs.length) zs := by
  by_cases hz : zs = []
  · subst hz
    exact Or.inl ⟨rfl, _, 0, rfl, by unfold maxLen; omega, by intro h; cases h⟩
  · refine Or.inr ⟨hz, B, 0, zs.length, rfl, Nat.le_refl _, hm, fun i hi => ?_⟩
    have := World.news_of_block hb i _ (by simpa using cellsOf_get' zs i hi)
    simpa [Addr.add_lit] using this

theorem Ow_of_block {w : World} {B base : Nat} {zs : List Int} (hb : w.heap[B]? = some (.cells (cellsOf zs).toArray 5 (0, 0))) (hm : zs.length ≤ maxLen) (hB : base ≤ B) : Ow w base (.slice (some ⟨B, 0, none⟩) zs.length zs.length) zs :=
  ⟨by simp [cellsOf], Or.inr ⟨B, zs.length, _, rfl, hB, hb, Nat.le_refl _, hm, by simp [cellsOf], by simp only [Nat.mul_one]; exact List.take_of_length_le (by simp [cellsOf])⟩⟩

/-- append of bytes, whatever the shape of the source. -/
theorem run_append_bs (w : World) (base : Nat) (ty : TypeId) (v : Value) (xs : List Int) (hown : Ow w base v xs) (x : Value) (zs : List Int) (hb : Bs w x zs)
    (h63 : xs.length + zs.length ≤ 140737488355328) (hbase : base ≤ w.heap.size) :
    ∃ ao cap w', (Builtin.append_ #[29, 29] ty #[v, x]).run Tryd.prog w = .ok (.slice ao (xs.length + zs.length) cap) w' ∧ Ow w' base (.slice ao (xs.length + zs.length) cap) (xs ++ zs) ∧ w.grownBy w' v.ownBlock ∧
      ((Value.slice ao (xs.length + zs.length) cap).ownBlock = v.ownBlock ∨ (Value.slice ao (xs.length + zs.length) cap).ownBlock = some w.heap.size) := by
  obtain ⟨i0, hi, hz0, hz1, hz2⟩ := info_parts Tryd.info5
  have key : ∀ a m c, m = zs.length → (∀ j u, (cellsOf zs)[j]? = some u → w.cell? (Addr.add a j) = some u) → x = .slice (some a) m c → ∃ ao cap w', (Builtin.append_ #[29, 29] ty #[v, x]).run Tryd.prog w = .ok (.slice ao (xs.length + zs.length) cap) w' ∧ Ow w' base (.slice ao (xs.length + zs.length) cap) (xs ++ zs) ∧ w.grownBy w' v.ownBlock ∧
      ((Value.slice ao (xs.length + zs.length) cap).ownBlock = v.ownBlock ∨ (Value.slice ao (xs.length + zs.length) cap).ownBlock = some w.heap.size) := by
    intro a m c hm hc hx
    subst hm; subst hx
    obtain ⟨v', w', hr, h2, h3, _, h5⟩ := run_append_own_at (P := Tryd.prog) w base 29 ty 5 i0 (.int .u8 0) 1 1 Tryd.underlying29 hi hz0 hz1 hz2 rfl (by decide) v xs.length (cellsOf xs) hown a zs.length c (cellsOf zs) (by simp [cellsOf]) hc (cellsOf_one zs) (by unfold maxLen; omega) (by omega) hbase
    have h2' : Ow w' base v' (xs ++ zs) := by
      unfold Ow
      rw [cellsOf_append, List.length_append]
      exact h2
    obtain ⟨ao, cap, rfl, _⟩ := h2'.form
    rw [List.length_append] at hr h2' h5
    exact ⟨ao, cap, w', hr, h2', h3, h5⟩
  rcases hb with ⟨rfl, ao, cap, rfl, hc, hn⟩ | ⟨hz, b, off, cap, rfl, hn, hc, hcell⟩
  · cases ao with
    | some a => exact key a 0 cap rfl (by intro j u h; simp [cellsOf] at h) rfl
    | none =>
      obtain rfl := hn rfl
      have hr := run_append_owned_none (P := Tryd.prog) w base 29 ty 5 i0 1 Tryd.underlying29 hi v xs.length (cellsOf xs) hown
      obtain ⟨ao, cap, hv, _⟩ := Ow.form hown
      refine ⟨ao, cap, w, ?_, ?_, World.grownBy.refl _ _, Or.inl ?_⟩
      · rw [hr]; simp [hv]
      · simpa [hv] using hown
      · simp [hv]
  · refine key ⟨b, off, none⟩ zs.length cap rfl (fun j u h => ?_) rfl
    obtain ⟨hj, rfl⟩ := cellsOf_get zs j u h
    rw [Addr.add_lit]
    exact hcell j hj

theorem wpList_append_bs (w : World) {ops : Array Oper} {rest : List Oper} {o : Oper} {a : Act} {Q : Exit → Act → World → Prop} (hgd : o.guard = none) (s x : Operand)
    (ho : o.op = .call { callee := .builtin .append, args := #[s, x], argTypes := #[29, 29] })
    (base : Nat) (v : Value) (xs : List Int) (hs : a.eval s = v) (hown : Ow w base v xs) (vx : Value) (zs : List Int) (hx : a.eval x = vx) (hb : Bs w vx zs)
    (h63 : xs.length + zs.length ≤ 140737488355328) (hbase : base ≤ w.heap.size)
    (h : ∀ ao cap w', Ow w' base (.slice ao (xs.length + zs.length) cap) (xs ++ zs) → w.grownBy w' v.ownBlock →
      ((Value.slice ao (xs.length + zs.length) cap).ownBlock = v.ownBlock ∨ (Value.slice ao (xs.length + zs.length) cap).ownBlock = some w.heap.size) →
      wpList Tryd.prog ops Q rest (a.put o.dst (.slice ao (xs.length + zs.length) cap)) w') : wpList Tryd.prog ops Q (o :: rest) a w := by
  obtain ⟨ao, cap, w', hr, h2, h3, h4⟩ := run_append_bs w base o.type v xs hown vx zs hb h63 hbase
  refine wpList_plain hgd fun _ hK => ?_
  unfold Oper.wp execOp
  simp only [ho, resolve, invoke, builtin, Sem.run_bind, Sem.run_pure, Result.andThen_ok, List.map_toArray, List.map_cons, List.map_nil, hs, hx, hr]
  exact hK _ _ (h ao cap w' h2 h3 h4)

end Go.Proofs.YtahodgmdikaedaaDoor
end
