/-
  Joined from: PairRows.
-/
import Derived.Test.YtbfldcieibdapaaGreatM01
section
/-
  Rows of pairs in memory: a slice that reads as them (Ps), one of the call's own (Po), append. No walk.
-/
namespace Go.Proofs.YtbfldcieibdapaaGreat
open Go.RowKit

theorem Tryz.info62 : (Tryz.prog.info? 62).map (fun i => (i.zero, i.size, i.bytes)) = some (some (.agg #[.int .u16 0, .int .u16 0]), 2, 4) := by kernel_rfl
def cellsP (l : List Ii) : List Value := l.flatMap fun x => [.int .u16 x.1, .int .u16 x.2]
theorem cellsP_len (l : List Ii) : (cellsP l).length = l.length * 2 := by
  induction l with
  | nil => rfl
  | cons x l ih => simp [cellsP] at *; omega
theorem cellsP_append (a b : List Ii) : cellsP (a ++ b) = cellsP a ++ cellsP b := by simp [cellsP]
theorem cellsP_at : ∀ (l : List Ii) (i : Nat) (x : Ii), l[i]? = some x → (cellsP l)[i * 2]? = some (.int .u16 x.1) ∧ (cellsP l)[i * 2 + 1]? = some (.int .u16 x.2)
  | [], i, x, h => by simp at h
  | y :: l, 0, x, h => by
    simp only [List.getElem?_cons_zero, Option.some.injEq] at h
    subst h
    exact ⟨rfl, rfl⟩
  | y :: l, i + 1, x, h => by
    have := cellsP_at l i x (by simpa using h)
    have e : cellsP (y :: l) = .int .u16 y.1 :: .int .u16 y.2 :: cellsP l := rfl
    rw [e, show (i + 1) * 2 = i * 2 + 1 + 1 by omega]
    simpa using this
theorem cellsP_one (l : List Ii) : ∀ u ∈ cellsP l, u.oneCell' = true := by
  intro u hu
  simp only [cellsP, List.mem_flatMap] at hu
  obtain ⟨x, _, hu⟩ := hu
  simp only [List.mem_cons, List.not_mem_nil, or_false] at hu
  rcases hu with rfl | rfl <;> rfl
/-- The slice v reads as the pairs l. -/
def Ps (w : World) (v : Value) (l : List Ii) : Prop :=
  (l = [] ∧ ∃ ao cap, v = .slice ao 0 cap ∧ cap ≤ maxLen ∧ (ao = none → cap = 0)) ∨
  (l ≠ [] ∧ ∃ g off cap, v = .slice (some ⟨g, off, none⟩) l.length cap ∧ l.length ≤ cap ∧ cap ≤ maxLen ∧ ∀ j u, (cellsP l)[j]? = some u → w.cell? ⟨g, off + j, none⟩ = some u)
/-- A row of pairs of the call's own, from block base on. -/
def Po (w : World) (base : Nat) (v : Value) (l : List Ii) : Prop := w.ownsRow base 62 2 v l.length (cellsP l)
theorem Ps.len {w : World} {v : Value} {l : List Ii} (h : Ps w v l) : ∃ ao cap, v = .slice ao l.length cap ∧ l.length ≤ maxLen := by
  rcases h with ⟨rfl, ao, cap, rfl, _, _⟩ | ⟨_, g, off, cap, rfl, h1, h2, _⟩
  · exact ⟨ao, cap, rfl, by unfold maxLen; simp⟩
  · exact ⟨_, cap, rfl, by omega⟩
theorem Ps.keep {w w' : World} {v : Value} {l : List Ii} (h : Ps w v l) (hk : ∀ k, v.ownBlock = some k → k < w.heap.size → w'.heap[k]? = w.heap[k]?) : Ps w' v l := by
  rcases h with h | ⟨hz, g, off, cap, rfl, hn, hc, hcell⟩
  · exact Or.inl h
  · refine Or.inr ⟨hz, g, off, cap, rfl, hn, hc, fun j u hu => ?_⟩
    have h1 := hcell j u hu
    have hlt := World.block_lt_of_cell? w _ h1
    rw [World.cell?_of_block (w := w) (hk g rfl hlt)]
    exact h1
theorem Ps.below {w w' : World} {v : Value} {l : List Ii} (h : Ps w v l) (hb : Below w.heap.size w w') : Ps w' v l := h.keep fun k _ hk => hb.block k hk
theorem Ps.belowB {w w' : World} {v : Value} {l : List Ii} {B : Nat} (h : Ps w v l) (hb : Below B w w') (hB : w.heap.size ≤ B) : Ps w' v l := h.keep fun k _ hk => hb.block k (by omega)
theorem Ps.sm {w w' : World} {v : Value} {l : List Ii} (h : Ps w v l) (hb : Sm w w') : Ps w' v l := h.keep fun k _ _ => by rw [hb.heap]
/-- The cells of the instruction at a place. -/
theorem Ps.at {w w' : World} {ao : Option Addr} {n cap : Nat} {l : List Ii} {B : Nat} (h : Ps w (.slice ao n cap) l) (hb : Below B w w') (hB : w.heap.size ≤ B) (i : Nat) (x : Ii) (hi : l[i]? = some x) :
    ∃ g off, ao = some ⟨g, off, none⟩ ∧ w'.cell? ⟨g, off + i * 2, none⟩ = some (.int .u16 x.1) ∧ w'.cell? ⟨g, off + i * 2 + 1, none⟩ = some (.int .u16 x.2) := by
  rcases h with ⟨rfl, _⟩ | ⟨_, g, off, c, hv, h1, h2, hc⟩
  · simp at hi
  · simp only [Value.slice.injEq] at hv
    obtain ⟨c0, c1⟩ := cellsP_at l i x hi
    have d0 := hc _ _ c0
    have d1 := hc _ _ c1
    have hlt := World.block_lt_of_cell? w _ d0
    refine ⟨g, off, hv.1, ?_, ?_⟩
    · exact (hb.cell (p := ⟨g, off + i * 2, none⟩) (Nat.lt_of_lt_of_le hlt hB)).trans d0
    · exact (hb.cell (p := ⟨g, off + i * 2 + 1, none⟩) (Nat.lt_of_lt_of_le hlt hB)).trans (by rw [Nat.add_assoc]; exact d1)
theorem Ps.lt {w : World} {v : Value} {l : List Ii} (h : Ps w v l) (hz : l ≠ []) : ∀ k, v.ownBlock = some k → k < w.heap.size := by
  rcases h with ⟨h0, _⟩ | ⟨_, g, off, cap, rfl, _, _, hcell⟩
  · exact absurd h0 hz
  · intro k hk
    have hk' : g = k := by simpa [Value.ownBlock] using hk
    subst hk'
    obtain ⟨x, hx⟩ : ∃ x, l[0]? = some x := ⟨_, List.getElem?_eq_getElem (List.length_pos_iff.2 hz)⟩
    exact World.block_lt_of_cell? w _ (hcell _ _ (cellsP_at l 0 x hx).1)
theorem Po.form {w : World} {base : Nat} {v : Value} {l : List Ii} (h : Po w base v l) : ∃ ao cap, v = .slice ao l.length cap := by
  rcases h.2 with ⟨rfl, h0⟩ | ⟨g, cap, cur, rfl, _⟩
  · exact ⟨none, 0, by rw [h0]⟩
  · exact ⟨_, cap, rfl⟩
theorem Po.ls {w : World} {base : Nat} {v : Value} {l : List Ii} (h : Po w base v l) : Ps w v l := by
  rcases h.2 with ⟨rfl, h0⟩ | ⟨g, cap, cur, rfl, hb, hg, hn, hc, hs, ht⟩
  · exact Or.inl ⟨List.eq_nil_of_length_eq_zero h0, none, 0, rfl, by unfold maxLen; omega, fun _ => rfl⟩
  · by_cases hz : l = []
    · subst hz
      exact Or.inl ⟨rfl, _, cap, rfl, hc, by intro h; cases h⟩
    · refine Or.inr ⟨hz, g, 0, cap, rfl, hn, hc, fun j u hu => ?_⟩
      have := World.ownsRow.cells h (g := g) rfl j u hu
      simpa [Addr.add_lit] using this
theorem Po.nil (w : World) (base : Nat) : Po w base (.slice none 0 0) [] := World.ownsRow_nil _ _ _ _
theorem Po.lt {w : World} {base : Nat} {v : Value} {l : List Ii} (h : Po w base v l) : ∀ k, v.ownBlock = some k → base ≤ k ∧ k < w.heap.size := fun k hk => World.ownsRow.lt h k hk
theorem Po.keep {w w' : World} {base : Nat} {v : Value} {l : List Ii} (h : Po w base v l) (hk : ∀ k, v.ownBlock = some k → k < w.heap.size → w'.heap[k]? = w.heap[k]?) : Po w' base v l := by
  refine ⟨h.1, ?_⟩
  rcases h.2 with h2 | ⟨g, cap, cur, rfl, hb, hg, rest⟩
  · exact Or.inl h2
  · exact Or.inr ⟨g, cap, cur, rfl, hb, by rw [hk g rfl (Array.getElem?_eq_some_iff.1 hg).1]; exact hg, rest⟩
theorem Po.below {w w' : World} {base : Nat} {v : Value} {l : List Ii} (h : Po w base v l) (hb : Below w.heap.size w w') : Po w' base v l := h.keep fun k _ hk => hb.block k hk
theorem Po.sm {w w' : World} {base : Nat} {v : Value} {l : List Ii} (h : Po w base v l) (hb : Sm w w') : Po w' base v l := h.keep fun k _ _ => by rw [hb.heap]

theorem run_append_ps (w : World) (base : Nat) (ty : TypeId) (v : Value) (xs : List Ii) (hown : Po w base v xs) (x : Value) (zs : List Ii) (hb : Ps w x zs) (h63 : xs.length + zs.length ≤ 1000000) (hbase : base ≤ w.heap.size) :
    ∃ ao cap w', (Builtin.append_ #[60, 60] ty #[v, x]).run Tryz.prog w = .ok (.slice ao (xs.length + zs.length) cap) w' ∧ Po w' base (.slice ao (xs.length + zs.length) cap) (xs ++ zs) ∧ w.grownBy w' v.ownBlock ∧
      ((Value.slice ao (xs.length + zs.length) cap).ownBlock = v.ownBlock ∨ (Value.slice ao (xs.length + zs.length) cap).ownBlock = some w.heap.size) := by
  obtain ⟨i0, hi, hz0, hz1, hz2⟩ := info_parts Tryz.info62
  have key : ∀ a m c, m = zs.length → (∀ j u, (cellsP zs)[j]? = some u → w.cell? (Addr.add a j) = some u) → x = .slice (some a) m c → ∃ ao cap w', (Builtin.append_ #[60, 60] ty #[v, x]).run Tryz.prog w = .ok (.slice ao (xs.length + zs.length) cap) w' ∧ Po w' base (.slice ao (xs.length + zs.length) cap) (xs ++ zs) ∧ w.grownBy w' v.ownBlock ∧
      ((Value.slice ao (xs.length + zs.length) cap).ownBlock = v.ownBlock ∨ (Value.slice ao (xs.length + zs.length) cap).ownBlock = some w.heap.size) := by
    intro a m c hm hc hx
    subst hm; subst hx
    obtain ⟨v', w', hr, h2, h3, _, h5⟩ := run_append_own_at (P := Tryz.prog) w base 60 ty 62 i0 (.agg #[.int .u16 0, .int .u16 0]) 2 4 Tryz.underlying60 hi hz0 hz1 hz2 rfl (by decide) v xs.length (cellsP xs) hown a zs.length c (cellsP zs) (cellsP_len zs) hc (cellsP_one zs) (by unfold maxLen; omega) (by omega) hbase
    have h2' : Po w' base v' (xs ++ zs) := by
      unfold Po
      rw [cellsP_append, List.length_append]
      exact h2
    obtain ⟨ao, cap, rfl⟩ := h2'.form
    rw [List.length_append] at hr h2' h5
    exact ⟨ao, cap, w', hr, h2', h3, h5⟩
  rcases hb with ⟨rfl, ao, cap, rfl, hc, hn⟩ | ⟨hz, g, off, cap, rfl, hn, hc, hcell⟩
  · cases ao with
    | some a => exact key a 0 cap rfl (by intro j u h; simp [cellsP] at h) rfl
    | none =>
      obtain rfl := hn rfl
      have hr := run_append_owned_none (P := Tryz.prog) w base 60 ty 62 i0 2 Tryz.underlying60 hi v xs.length (cellsP xs) hown
      obtain ⟨ao, cap, hv⟩ := Po.form hown
      refine ⟨ao, cap, w, ?_, ?_, World.grownBy.refl _ _, Or.inl ?_⟩
      · rw [hr]; simp [hv]
      · simpa [hv] using hown
      · simp [hv]
  · exact key ⟨g, off, none⟩ zs.length cap rfl (fun j u h => by rw [Addr.add_lit]; exact hcell j u h) rfl

theorem wpList_append_ps (w : World) {ops : Array Oper} {rest : List Oper} {o : Oper} {a : Act} {Q : Exit → Act → World → Prop} (hgd : o.guard = none) (s x : Operand)
    (ho : o.op = .call { callee := .builtin .append, args := #[s, x], argTypes := #[60, 60] })
    (base : Nat) (v : Value) (xs : List Ii) (hs : a.eval s = v) (hown : Po w base v xs) (vx : Value) (zs : List Ii) (hx : a.eval x = vx) (hb : Ps w vx zs)
    (h63 : xs.length + zs.length ≤ 1000000) (hbase : base ≤ w.heap.size)
    (h : ∀ ao cap w', Po w' base (.slice ao (xs.length + zs.length) cap) (xs ++ zs) → w.grownBy w' v.ownBlock →
      ((Value.slice ao (xs.length + zs.length) cap).ownBlock = v.ownBlock ∨ (Value.slice ao (xs.length + zs.length) cap).ownBlock = some w.heap.size) →
      wpList Tryz.prog ops Q rest (a.put o.dst (.slice ao (xs.length + zs.length) cap)) w') : wpList Tryz.prog ops Q (o :: rest) a w := by
  obtain ⟨ao, cap, w', hr, h2, h3, h4⟩ := run_append_ps w base o.type v xs hown vx zs hb h63 hbase
  refine wpList_plain hgd fun _ hK => ?_
  unfold Oper.wp execOp
  simp only [ho, resolve, invoke, builtin, Sem.run_bind, Sem.run_pure, Result.andThen_ok, List.map_toArray, List.map_cons, List.map_nil, hs, hx, hr]
  exact hK _ _ (h ao cap w' h2 h3 h4)

/-- Pairs laid whole in a block, seen as a slice. -/
theorem Ps_of_block {w : World} {B : Nat} {l : List Ii} {t : TypeId} {fr : Nat × Nat} (hb : w.heap[B]? = some (.cells (cellsP l).toArray t fr)) (hm : l.length ≤ maxLen) : Ps w (.slice (some ⟨B, 0, none⟩) l.length l.length) l := by
  by_cases hz : l = []
  · subst hz
    exact Or.inl ⟨rfl, _, 0, rfl, by unfold maxLen; omega, by intro h; cases h⟩
  · refine Or.inr ⟨hz, B, 0, l.length, rfl, Nat.le_refl _, hm, fun j u hu => ?_⟩
    have := World.news_of_block hb j u (by simpa using hu)
    simpa [Addr.add_lit] using this
end Go.Proofs.YtbfldcieibdapaaGreat
end
