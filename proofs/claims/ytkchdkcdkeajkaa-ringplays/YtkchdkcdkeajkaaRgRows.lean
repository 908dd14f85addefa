/-
  Rows of states in memory: one that reads as them (Rs), one of the call's own (So), append. No walk.
-/
import Derived.Test.YtkchdkcdkeajkaaLaw
namespace Go.Proofs.Ytkchdkcdkeajkaa
open Go.RowKit
theorem Try.info35 : (Try.prog.info? 35).map (fun i => (i.zero, i.size, i.bytes)) = some (some (.agg zeroS.toArray), 20, 88) := by kernel_rfl
/-- A state that was handed in. -/
def Gs (s : Sp) : Prop := s.Wf ∧ -9223372036854775808 ≤ s.frame ∧ s.frame ≤ 9223372036854775807
/-- The slice at ao of n states reads as the states l. -/
structure Rs (w : World) (ao : Option Addr) (n cap : Nat) (l : List Sp) : Prop where
  len : l.length = n
  le : n ≤ cap
  mx : cap ≤ maxLen
  at' : ∀ i s, l[i]? = some s → ∃ g off, ao = some ⟨g, off, none⟩ ∧ ∀ j u, (stV s)[j]? = some u → w.cell? ⟨g, off + i * 20 + j, none⟩ = some u
theorem Rs.keep {w w' : World} {ao : Option Addr} {n cap : Nat} {l : List Sp} (h : Rs w ao n cap l) (hk : ∀ g off, ao = some ⟨g, off, none⟩ → g < w.heap.size → w'.heap[g]? = w.heap[g]?) : Rs w' ao n cap l := by
  refine ⟨h.len, h.le, h.mx, fun i s hs => ?_⟩
  obtain ⟨g, off, h1, h2⟩ := h.at' i s hs
  refine ⟨g, off, h1, fun j u hu => ?_⟩
  have h3 := h2 j u hu
  have hlt := World.block_lt_of_cell? w _ h3
  rw [World.cell?_of_block (w := w) (hk g off h1 hlt)]
  exact h3
theorem Rs.below {w w' : World} {ao : Option Addr} {n cap : Nat} {l : List Sp} {B : Nat} (h : Rs w ao n cap l) (hb : Below B w w') (hB : w.heap.size ≤ B) : Rs w' ao n cap l := h.keep fun g _ _ hg => hb.block g (by omega)
def cellsS (l : List Sp) : List Value := l.flatMap stV
/-- States whose cells are sixteen. -/
def Fit (l : List Sp) : Prop := ∀ s ∈ l, s.Wf
theorem Fit.nil : Fit [] := fun s hs => by cases hs
theorem Fit.snoc {l : List Sp} {s : Sp} (h : Fit l) (hs : s.Wf) : Fit (l ++ [s]) := fun t ht => by
  rcases List.mem_append.1 ht with h1 | h1
  · exact h t h1
  · rw [List.mem_singleton.1 h1]; exact hs
theorem cellsS_len : ∀ {l : List Sp}, Fit l → (cellsS l).length = l.length * 20
  | [], _ => rfl
  | s :: l, h => by
    have ih := cellsS_len (l := l) fun t ht => h t (by simp [ht])
    have h1 := (stV_c (h s (by simp))).len
    simp only [cellsS, List.flatMap_cons, List.length_append, List.length_cons] at ih ⊢
    omega
theorem cellsS_append (a b : List Sp) : cellsS (a ++ b) = cellsS a ++ cellsS b := by simp [cellsS]
theorem cellsS_one {l : List Sp} (h : Fit l) : ∀ u ∈ cellsS l, u.oneCell' = true := by
  intro u hu
  simp only [cellsS, List.mem_flatMap] at hu
  obtain ⟨s, hs, hu⟩ := hu
  exact (stV_c (h s hs)).one u hu
theorem cellsS_at : ∀ {l : List Sp}, Fit l → ∀ (i : Nat) (s : Sp), l[i]? = some s → ∀ (j : Nat) (u : Value), (stV s)[j]? = some u → (cellsS l)[i * 20 + j]? = some u
  | [], _, i, s, h, _, _, _ => by simp at h
  | t :: l, hf, 0, s, h, j, u, hu => by
    simp only [List.getElem?_cons_zero, Option.some.injEq] at h
    subst h
    have e : cellsS (t :: l) = stV t ++ cellsS l := by simp [cellsS]
    rw [e, Nat.zero_mul, Nat.zero_add, List.getElem?_append_left (List.getElem?_eq_some_iff.1 hu).1]
    exact hu
  | t :: l, hf, i + 1, s, h, j, u, hu => by
    have ih := cellsS_at (l := l) (fun t ht => hf t (by simp [ht])) i s (by simpa using h) j u hu
    have e : cellsS (t :: l) = stV t ++ cellsS l := by simp [cellsS]
    have h1 := (stV_c (hf t (by simp))).len
    rw [e, List.getElem?_append_right (by rw [h1]; omega), h1, show (i + 1) * 20 + j - 20 = i * 20 + j by omega]
    exact ih
/-- A row of states of the call's own, from block base on. -/
structure So (w : World) (base : Nat) (v : Value) (l : List Sp) : Prop where
  own : w.ownsRow base 35 20 v l.length (cellsS l)
  fit : Fit l
theorem So.form {w : World} {base : Nat} {v : Value} {l : List Sp} (h : So w base v l) : ∃ ao cap, v = .slice ao l.length cap := by
  rcases h.own.2 with ⟨rfl, h0⟩ | ⟨g, cap, cur, rfl, _⟩
  · exact ⟨none, 0, by rw [h0]⟩
  · exact ⟨_, cap, rfl⟩
theorem So.nil (w : World) (base : Nat) : So w base (.slice none 0 0) [] := ⟨World.ownsRow_nil _ _ _ _, Fit.nil⟩
theorem So.lt {w : World} {base : Nat} {v : Value} {l : List Sp} (h : So w base v l) : ∀ k, v.ownBlock = some k → base ≤ k ∧ k < w.heap.size := fun k hk => World.ownsRow.lt h.own k hk
theorem So.keep {w w' : World} {base : Nat} {v : Value} {l : List Sp} (h : So w base v l) (hk : ∀ k, v.ownBlock = some k → k < w.heap.size → w'.heap[k]? = w.heap[k]?) : So w' base v l := by
  refine ⟨⟨h.own.1, ?_⟩, h.fit⟩
  rcases h.own.2 with h2 | ⟨g, cap, cur, rfl, hb, hg, rest⟩
  · exact Or.inl h2
  · exact Or.inr ⟨g, cap, cur, rfl, hb, by rw [hk g rfl (Array.getElem?_eq_some_iff.1 hg).1]; exact hg, rest⟩
theorem So.below {w w' : World} {base : Nat} {v : Value} {l : List Sp} (h : So w base v l) (hb : Below w.heap.size w w') : So w' base v l := h.keep fun k _ hk => hb.block k hk
theorem So.only {w w' : World} {base g : Nat} {v : Value} {l : List Sp} (h : So w base v l) (hb : Only g w w') (hg : v.ownBlock ≠ some g) : So w' base v l := h.keep fun k hk _ => hb.block k fun e => hg (by rw [hk, e])
theorem So.mono {w : World} {base b' : Nat} {v : Value} {l : List Sp} (h : So w base v l) (hb : b' ≤ base) : So w b' v l := by
  refine ⟨⟨h.own.1, ?_⟩, h.fit⟩
  rcases h.own.2 with h2 | ⟨g, cap, cur, rfl, hg, rest⟩
  · exact Or.inl h2
  · exact Or.inr ⟨g, cap, cur, rfl, Nat.le_trans hb hg, rest⟩
/-- Where the state at a place stands. -/
theorem So.at {w : World} {base n cap : Nat} {ao : Option Addr} {l : List Sp} (h : So w base (.slice ao n cap) l) (i : Nat) (s : Sp) (hi : l[i]? = some s) : ∃ g, ao = some ⟨g, 0, none⟩ ∧ base ≤ g ∧ g < w.heap.size ∧ w.rangeAt g (i * 20) (stV s) := by
  rcases h.own.2 with ⟨h2, h0⟩ | ⟨g, cp, cur, hv, hb, hg, rest⟩
  · rw [List.eq_nil_of_length_eq_zero h0] at hi
    simp at hi
  · simp only [Value.slice.injEq] at hv
    obtain ⟨rfl, rfl, rfl⟩ := hv
    refine ⟨g, rfl, hb, (Array.getElem?_eq_some_iff.1 hg).1, fun j u hu => ?_⟩
    have := World.ownsRow.cells h.own (g := g) rfl _ _ (cellsS_at h.fit i s hi j u hu)
    simpa [Addr.add_lit] using this

theorem run_append_st (w : World) (base : Nat) (ty : TypeId) (v : Value) (xs : List Sp) (hown : So w base v xs) (g c : Nat) (s : Sp) (hs : s.Wf) (hb : Cw w g (stV s) 35) (h63 : xs.length + 1 ≤ 1000000) (hbase : base ≤ w.heap.size) :
    ∃ ao cap w', (Builtin.append_ #[22, 22] ty #[v, .slice (some ⟨g, 0, none⟩) 1 c]).run Try.prog w = .ok (.slice ao (xs.length + 1) cap) w' ∧ So w' base (.slice ao (xs.length + 1) cap) (xs ++ [s]) ∧ w.grownBy w' v.ownBlock ∧
      ((Value.slice ao (xs.length + 1) cap).ownBlock = v.ownBlock ∨ (Value.slice ao (xs.length + 1) cap).ownBlock = some w.heap.size) := by
  obtain ⟨i0, hi, hz0, hz1, hz2⟩ := info_parts Try.info35
  have hlen : (stV s).length = 1 * 20 := by rw [(stV_c hs).len]
  obtain ⟨v', w', hr, h2, h3, _, h5⟩ := run_append_own_at (P := Try.prog) w base 22 ty 35 i0 (.agg zeroS.toArray) 20 88 Try.underlying22 hi hz0 hz1 hz2 rfl (by decide) v xs.length (cellsS xs) hown.own ⟨g, 0, none⟩ 1 c (stV s) hlen (fun j u hu => by rw [Addr.add_lit, Nat.zero_add, hb.cell]; exact hu) (stV_c hs).one (by unfold maxLen; omega) (by omega) hbase
  have h2' : So w' base v' (xs ++ [s]) := by
    refine ⟨?_, hown.fit.snoc hs⟩
    rw [cellsS_append, List.length_append, show cellsS [s] = stV s by simp [cellsS]]
    exact h2
  obtain ⟨ao, cap, rfl⟩ := h2'.form
  rw [List.length_append] at hr h2' h5
  exact ⟨ao, cap, w', hr, h2', h3, h5⟩
theorem wpList_append_st (w : World) {ops : Array Oper} {rest : List Oper} {o : Oper} {a : Act} {Q : Exit → Act → World → Prop} (hgd : o.guard = none) (x y : Operand)
    (ho : o.op = .call { callee := .builtin .append, args := #[x, y], argTypes := #[22, 22] })
    (base : Nat) (v : Value) (xs : List Sp) (hx : a.eval x = v) (hown : So w base v xs) (g c : Nat) (s : Sp) (hs : s.Wf) (hy : a.eval y = .slice (some ⟨g, 0, none⟩) 1 c) (hb : Cw w g (stV s) 35)
    (h63 : xs.length + 1 ≤ 1000000) (hbase : base ≤ w.heap.size)
    (h : ∀ ao cap w', So w' base (.slice ao (xs.length + 1) cap) (xs ++ [s]) → w.grownBy w' v.ownBlock →
      ((Value.slice ao (xs.length + 1) cap).ownBlock = v.ownBlock ∨ (Value.slice ao (xs.length + 1) cap).ownBlock = some w.heap.size) →
      wpList Try.prog ops Q rest (a.put o.dst (.slice ao (xs.length + 1) cap)) w') : wpList Try.prog ops Q (o :: rest) a w := by
  obtain ⟨ao, cap, w', hr, h2, h3, h4⟩ := run_append_st w base o.type v xs hown g c s hs hb h63 hbase
  refine wpList_plain hgd fun _ hK => ?_
  unfold Oper.wp execOp
  simp only [ho, resolve, invoke, builtin, Sem.run_bind, Sem.run_pure, Result.andThen_ok, List.map_toArray, List.map_cons, List.map_nil, hx, hy, hr]
  exact hK _ _ (h ao cap w' h2 h3 h4)
/-- A slice of one state. -/
theorem run_one_st (w : World) {s : Sp} (hs : s.Wf) : (Instr.buildSlice 22 1 #[(0, .agg (stV s).toArray)]).run Try.prog w = .ok (.slice (some ⟨w.heap.size, 0, none⟩) 1 1) (w.alloc (.cells (stV s).toArray 35)) := by
  obtain ⟨fr, cells, seed, over, win⟩ := s
  obtain ⟨c0, c1, c2, c3, c4, c5, c6, c7, c8, c9, c10, c11, c12, c13, c14, c15, e⟩ := sixteen hs.cells
  simp only at e
  subst e
  obtain ⟨i0, hi, hz0, hz1, hz2⟩ := info_parts Try.info35
  refine run_buildSlice w 22 35 1 _ _ i0 (.agg zeroS.toArray) Try.underlying22 hi hz0 (by rw [hz1]; decide) (by rw [hz1]; decide) ?_
  rw [hz1]
  kernel_rfl
theorem wpList_one_st {w : World} {ops : Array Oper} {rest : List Oper} {o : Oper} {a : Act} {Q : Exit → Act → World → Prop} (hgd : o.guard = none) (x : Operand) (ho : o.op = .buildSlice 22 1 #[(0, x)]) (cs : List Value) (hrun : Hid (∀ W : World, (Instr.buildSlice 22 1 #[(0, .agg cs.toArray)]).run Try.prog W = .ok (.slice (some ⟨W.heap.size, 0, none⟩) 1 1) (W.alloc (.cells cs.toArray 35)))) (hx : a.eval x = .agg cs.toArray)
    (h : ∀ W, Cw W w.heap.size cs 35 → Below w.heap.size w W → Hid (W.heap.size = w.heap.size + 1) → wpList Try.prog ops Q rest (a.put o.dst (.slice (some ⟨w.heap.size, 0, none⟩) 1 1)) W) : wpList Try.prog ops Q (o :: rest) a w := by
  refine wpList_plain hgd fun _ hK => ?_
  unfold Oper.wp execOp
  simp only [ho, Sem.run_bind, List.map_toArray, List.map_cons, List.map_nil, hx, hrun.out w, Result.andThen_ok]
  exact hK _ _ (h _ (Cw.new w cs 35) ((Below.refl _ _).alloc (Nat.le_refl _) _) (World.size_alloc _ _))
end Go.Proofs.Ytkchdkcdkeajkaa
