/-
  Joined from: PairRows, OwnG.
-/
import Derived.Test.YtbfldcieibdapabGreatM01
section
/-
  Rows of pairs in memory: a slice that reads as them (Ps), one of the call's own (Po), append. No walk.
-/
namespace Go.Proofs.YtbfldcieibdapabGreat
open Go.RowKit

theorem Tryz.info41 : (Tryz.prog.info? 41).map (fun i => (i.zero, i.size, i.bytes)) = some (some (.agg #[.int .u16 0, .int .u16 0]), 2, 4) := by kernel_rfl
def cellsP (l : List Ii) : List Value := l.flatMap fun x => [.int .u16 x.1, .int .u16 x.2]
theorem cellsP_len (l : List Ii) : (cellsP l).length = l.length * 2 := by
  induction l with
  | nil => rfl
  | cons x l ih => simp [cellsP] at *; omega
theorem cellsP_append (a b : List Ii) : cellsP (a ++ b) = cellsP a ++ cellsP b := by simp [cellsP]
theorem cellsP_at : ∀ (l : List Ii) (i : Nat) (x : Ii), l[i]? = some x → (cellsP l)[i * 2]? = some (.int .u16 x.1) ∧ (cellsP l)[i * 2 + 1]? = some (.int .u16 x.2)
  | [], i, x, h => by simp at h
  | y :: l, 0, x, h => by
    simp only [List.getElem?_cons_zero, Option.some.injEq] at h
    subst h
    exact ⟨rfl, rfl⟩
  | y :: l, i + 1, x, h => by
    have := cellsP_at l i x (by simpa using h)
    have e : cellsP (y :: l) = .int .u16 y.1 :: .int .u16 y.2 :: cellsP l := rfl
    rw [e, show (i + 1) * 2 = i * 2 + 1 + 1 by omega]
    simpa using this
theorem cellsP_one (l : List Ii) : ∀ u ∈ cellsP l, u.oneCell' = true := by
  intro u hu
  simp only [cellsP, List.mem_flatMap] at hu
  obtain ⟨x, _, hu⟩ := hu
  simp only [List.mem_cons, List.not_mem_nil, or_false] at hu
  rcases hu with rfl | rfl <;> rfl
/-- The slice v reads as the pairs l. -/
def Ps (w : World) (v : Value) (l : List Ii) : Prop :=
  (l = [] ∧ ∃ ao cap, v = .slice ao 0 cap ∧ cap ≤ maxLen ∧ (ao = none → cap = 0)) ∨
  (l ≠ [] ∧ ∃ g off cap, v = .slice (some ⟨g, off, none⟩) l.length cap ∧ l.length ≤ cap ∧ cap ≤ maxLen ∧ ∀ j u, (cellsP l)[j]? = some u → w.cell? ⟨g, off + j, none⟩ = some u)
/-- A row of pairs of the call's own, from block base on. -/
def Po (w : World) (base : Nat) (v : Value) (l : List Ii) : Prop := w.ownsRow base 41 2 v l.length (cellsP l)
theorem Ps.len {w : World} {v : Value} {l : List Ii} (h : Ps w v l) : ∃ ao cap, v = .slice ao l.length cap ∧ l.length ≤ maxLen := by
  rcases h with ⟨rfl, ao, cap, rfl, _, _⟩ | ⟨_, g, off, cap, rfl, h1, h2, _⟩
  · exact ⟨ao, cap, rfl, by unfold maxLen; simp⟩
  · exact ⟨_, cap, rfl, by omega⟩
theorem Ps.keep {w w' : World} {v : Value} {l : List Ii} (h : Ps w v l) (hk : ∀ k, v.ownBlock = some k → k < w.heap.size → w'.heap[k]? = w.heap[k]?) : Ps w' v l := by
  rcases h with h | ⟨hz, g, off, cap, rfl, hn, hc, hcell⟩
  · exact Or.inl h
  · refine Or.inr ⟨hz, g, off, cap, rfl, hn, hc, fun j u hu => ?_⟩
    have h1 := hcell j u hu
    have hlt := World.block_lt_of_cell? w _ h1
    rw [World.cell?_of_block (w := w) (hk g rfl hlt)]
    exact h1
theorem Ps.below {w w' : World} {v : Value} {l : List Ii} (h : Ps w v l) (hb : Below w.heap.size w w') : Ps w' v l := h.keep fun k _ hk => hb.block k hk
theorem Ps.belowB {w w' : World} {v : Value} {l : List Ii} {B : Nat} (h : Ps w v l) (hb : Below B w w') (hB : w.heap.size ≤ B) : Ps w' v l := h.keep fun k _ hk => hb.block k (by omega)
theorem Ps.sm {w w' : World} {v : Value} {l : List Ii} (h : Ps w v l) (hb : Sm w w') : Ps w' v l := h.keep fun k _ _ => by rw [hb.heap]
/-- The cells of the instruction at a place. -/
theorem Ps.at {w w' : World} {ao : Option Addr} {n cap : Nat} {l : List Ii} {B : Nat} (h : Ps w (.slice ao n cap) l) (hb : Below B w w') (hB : w.heap.size ≤ B) (i : Nat) (x : Ii) (hi : l[i]? = some x) :
    ∃ g off, ao = some ⟨g, off, none⟩ ∧ w'.cell? ⟨g, off + i * 2, none⟩ = some (.int .u16 x.1) ∧ w'.cell? ⟨g, off + i * 2 + 1, none⟩ = some (.int .u16 x.2) := by
  rcases h with ⟨rfl, _⟩ | ⟨_, g, off, c, hv, h1, h2, hc⟩
  · simp at hi
  · simp only [Value.slice.injEq] at hv
    obtain ⟨c0, c1⟩ := cellsP_at l i x hi
    have d0 := hc _ _ c0
    have d1 := hc _ _ c1
    have hlt := World.block_lt_of_cell? w _ d0
    refine ⟨g, off, hv.1, ?_, ?_⟩
    · exact (hb.cell (p := ⟨g, off + i * 2, none⟩) (Nat.lt_of_lt_of_le hlt hB)).trans d0
    · exact (hb.cell (p := ⟨g, off + i * 2 + 1, none⟩) (Nat.lt_of_lt_of_le hlt hB)).trans (by rw [Nat.add_assoc]; exact d1)
theorem Ps.lt {w : World} {v : Value} {l : List Ii} (h : Ps w v l) (hz : l ≠ []) : ∀ k, v.ownBlock = some k → k < w.heap.size := by
  rcases h with ⟨h0, _⟩ | ⟨_, g, off, cap, rfl, _, _, hcell⟩
  · exact absurd h0 hz
  · intro k hk
    have hk' : g = k := by simpa [Value.ownBlock] using hk
    subst hk'
    obtain ⟨x, hx⟩ : ∃ x, l[0]? = some x := ⟨_, List.getElem?_eq_getElem (List.length_pos_iff.2 hz)⟩
    exact World.block_lt_of_cell? w _ (hcell _ _ (cellsP_at l 0 x hx).1)
theorem Po.form {w : World} {base : Nat} {v : Value} {l : List Ii} (h : Po w base v l) : ∃ ao cap, v = .slice ao l.length cap := by
  rcases h.2 with ⟨rfl, h0⟩ | ⟨g, cap, cur, rfl, _⟩
  · exact ⟨none, 0, by rw [h0]⟩
  · exact ⟨_, cap, rfl⟩
theorem Po.ls {w : World} {base : Nat} {v : Value} {l : List Ii} (h : Po w base v l) : Ps w v l := by
  rcases h.2 with ⟨rfl, h0⟩ | ⟨g, cap, cur, rfl, hb, hg, hn, hc, hs, ht⟩
  · exact Or.inl ⟨List.eq_nil_of_length_eq_zero h0, none, 0, rfl, by unfold maxLen; omega, fun _ => rfl⟩
  · by_cases hz : l = []
    · subst hz
      exact Or.inl ⟨rfl, _, cap, rfl, hc, by intro h; cases h⟩
    · refine Or.inr ⟨hz, g, 0, cap, rfl, hn, hc, fun j u hu => ?_⟩
      have := World.ownsRow.cells h (g := g) rfl j u hu
      simpa [Addr.add_lit] using this
theorem Po.nil (w : World) (base : Nat) : Po w base (.slice none 0 0) [] := World.ownsRow_nil _ _ _ _
theorem Po.lt {w : World} {base : Nat} {v : Value} {l : List Ii} (h : Po w base v l) : ∀ k, v.ownBlock = some k → base ≤ k ∧ k < w.heap.size := fun k hk => World.ownsRow.lt h k hk
theorem Po.keep {w w' : World} {base : Nat} {v : Value} {l : List Ii} (h : Po w base v l) (hk : ∀ k, v.ownBlock = some k → k < w.heap.size → w'.heap[k]? = w.heap[k]?) : Po w' base v l := by
  refine ⟨h.1, ?_⟩
  rcases h.2 with h2 | ⟨g, cap, cur, rfl, hb, hg, rest⟩
  · exact Or.inl h2
  · exact Or.inr ⟨g, cap, cur, rfl, hb, by rw [hk g rfl (Array.getElem?_eq_some_iff.1 hg).1]; exact hg, rest⟩
theorem Po.below {w w' : World} {base : Nat} {v : Value} {l : List Ii} (h : Po w base v l) (hb : Below w.heap.size w w') : Po w' base v l := h.keep fun k _ hk => hb.block k hk
theorem Po.sm {w w' : World} {base : Nat} {v : Value} {l : List Ii} (h : Po w base v l) (hb : Sm w w') : Po w' base v l := h.keep fun k _ _ => by rw [hb.heap]

theorem run_append_ps (w : World) (base : Nat) (ty : TypeId) (v : Value) (xs : List Ii) (hown : Po w base v xs) (x : Value) (zs : List Ii) (hb : Ps w x zs) (h63 : xs.length + zs.length ≤ 1000000) (hbase : base ≤ w.heap.size) :
    ∃ ao cap w', (Builtin.append_ #[39, 39] ty #[v, x]).run Tryz.prog w = .ok (.slice ao (xs.length + zs.length) cap) w' ∧ Po w' base (.slice ao (xs.length + zs.length) cap) (xs ++ zs) ∧ w.grownBy w' v.ownBlock ∧
      ((Value.slice ao (xs.length + zs.length) cap).ownBlock = v.ownBlock ∨ (Value.slice ao (xs.length + zs.length) cap).ownBlock = some w.heap.size) := by
  obtain ⟨i0, hi, hz0, hz1, hz2⟩ := info_parts Tryz.info41
  have key : ∀ a m c, m = zs.length → (∀ j u, (cellsP zs)[j]? = some u → w.cell? (Addr.add a j) = some u) → x = .slice (some a) m c → ∃ ao cap w', (Builtin.append_ #[39, 39] ty #[v, x]).run Tryz.prog w = .ok (.slice ao (xs.length + zs.length) cap) w' ∧ Po w' base (.slice ao (xs.length + zs.length) cap) (xs ++ zs) ∧ w.grownBy w' v.ownBlock ∧
      ((Value.slice ao (xs.length + zs.length) cap).ownBlock = v.ownBlock ∨ (Value.slice ao (xs.length + zs.length) cap).ownBlock = some w.heap.size) := by
    intro a m c hm hc hx
    subst hm; subst hx
    obtain ⟨v', w', hr, h2, h3, _, h5⟩ := run_append_own_at (P := Tryz.prog) w base 39 ty 41 i0 (.agg #[.int .u16 0, .int .u16 0]) 2 4 Tryz.underlying39 hi hz0 hz1 hz2 rfl (by decide) v xs.length (cellsP xs) hown a zs.length c (cellsP zs) (cellsP_len zs) hc (cellsP_one zs) (by unfold maxLen; omega) (by omega) hbase
    have h2' : Po w' base v' (xs ++ zs) := by
      unfold Po
      rw [cellsP_append, List.length_append]
      exact h2
    obtain ⟨ao, cap, rfl⟩ := h2'.form
    rw [List.length_append] at hr h2' h5
    exact ⟨ao, cap, w', hr, h2', h3, h5⟩
  rcases hb with ⟨rfl, ao, cap, rfl, hc, hn⟩ | ⟨hz, g, off, cap, rfl, hn, hc, hcell⟩
  · cases ao with
    | some a => exact key a 0 cap rfl (by intro j u h; simp [cellsP] at h) rfl
    | none =>
      obtain rfl := hn rfl
      have hr := run_append_owned_none (P := Tryz.prog) w base 39 ty 41 i0 2 Tryz.underlying39 hi v xs.length (cellsP xs) hown
      obtain ⟨ao, cap, hv⟩ := Po.form hown
      refine ⟨ao, cap, w, ?_, ?_, World.grownBy.refl _ _, Or.inl ?_⟩
      · rw [hr]; simp [hv]
      · simpa [hv] using hown
      · simp [hv]
  · exact key ⟨g, off, none⟩ zs.length cap rfl (fun j u h => by rw [Addr.add_lit]; exact hcell j u h) rfl

theorem wpList_append_ps (w : World) {ops : Array Oper} {rest : List Oper} {o : Oper} {a : Act} {Q : Exit → Act → World → Prop} (hgd : o.guard = none) (s x : Operand)
    (ho : o.op = .call { callee := .builtin .append, args := #[s, x], argTypes := #[39, 39] })
    (base : Nat) (v : Value) (xs : List Ii) (hs : a.eval s = v) (hown : Po w base v xs) (vx : Value) (zs : List Ii) (hx : a.eval x = vx) (hb : Ps w vx zs)
    (h63 : xs.length + zs.length ≤ 1000000) (hbase : base ≤ w.heap.size)
    (h : ∀ ao cap w', Po w' base (.slice ao (xs.length + zs.length) cap) (xs ++ zs) → w.grownBy w' v.ownBlock →
      ((Value.slice ao (xs.length + zs.length) cap).ownBlock = v.ownBlock ∨ (Value.slice ao (xs.length + zs.length) cap).ownBlock = some w.heap.size) →
      wpList Tryz.prog ops Q rest (a.put o.dst (.slice ao (xs.length + zs.length) cap)) w') : wpList Tryz.prog ops Q (o :: rest) a w := by
  obtain ⟨ao, cap, w', hr, h2, h3, h4⟩ := run_append_ps w base o.type v xs hown vx zs hb h63 hbase
  refine wpList_plain hgd fun _ hK => ?_
  unfold Oper.wp execOp
  simp only [ho, resolve, invoke, builtin, Sem.run_bind, Sem.run_pure, Result.andThen_ok, List.map_toArray, List.map_cons, List.map_nil, hs, hx, hr]
  exact hK _ _ (h ao cap w' h2 h3 h4)

/-- Pairs laid whole in a block, seen as a slice. -/
theorem Ps_of_block {w : World} {B : Nat} {l : List Ii} {t : TypeId} {fr : Nat × Nat} (hb : w.heap[B]? = some (.cells (cellsP l).toArray t fr)) (hm : l.length ≤ maxLen) : Ps w (.slice (some ⟨B, 0, none⟩) l.length l.length) l := by
  by_cases hz : l = []
  · subst hz
    exact Or.inl ⟨rfl, _, 0, rfl, by unfold maxLen; omega, by intro h; cases h⟩
  · refine Or.inr ⟨hz, B, 0, l.length, rfl, Nat.le_refl _, hm, fun j u hu => ?_⟩
    have := World.news_of_block hb j u (by simpa using hu)
    simpa [Addr.add_lit] using this
end Go.Proofs.YtbfldcieibdapabGreat
end

section
/-
  Rows of one's own of any one width, and append: no number of the seat is in it.
-/
namespace Go.Proofs.YtbfldcieibdapabGreat.Ax
open Go.RowKit
/-- What an element's type and its words are. -/
structure Kd (P : Program) {α : Type} (t e c : Nat) (en : α → List Value) : Prop where
  ty : P.underlying t = some (.slice e)
  len : ∀ s, (en s).length = c
  one : ∀ s u, u ∈ en s → u.oneCell' = true
  pos : 0 < c
  inf : ∃ z by', (P.info? e).map (fun i => (i.zero, i.size, i.bytes)) = some (some z, c, by') ∧ z.cells.size = c ∧ by' ≤ 1000
section
variable {P : Program} {α : Type} {t e c : Nat} {en : α → List Value}
theorem fm_len (hl : ∀ s, (en s).length = c) (l : List α) : (l.flatMap en).length = l.length * c := by
  induction l with
  | nil => simp
  | cons x l ih => simp only [List.flatMap_cons, List.length_append, ih, hl, List.length_cons, Nat.add_mul, Nat.one_mul]; omega
theorem fm_at (hl : ∀ s, (en s).length = c) : ∀ (l : List α) (i j : Nat) (x : α) (u : Value), l[i]? = some x → (en x)[j]? = some u → (l.flatMap en)[i * c + j]? = some u
  | [], i, j, x, u, h, _ => by simp at h
  | y :: l, 0, j, x, u, h, hu => by
    simp only [List.getElem?_cons_zero, Option.some.injEq] at h
    subst h
    have hj := (List.getElem?_eq_some_iff.1 hu).1
    rw [Nat.zero_mul, Nat.zero_add, List.flatMap_cons, List.getElem?_append_left hj]
    exact hu
  | y :: l, i + 1, j, x, u, h, hu => by
    have := fm_at hl l i j x u (by simpa using h) hu
    rw [List.flatMap_cons, List.getElem?_append_right (by rw [hl, Nat.add_mul]; omega), hl, show (i + 1) * c + j - c = i * c + j by rw [Nat.add_mul]; omega]
    exact this
/-- A row of one's own, from block base on. -/
def Ro (w : World) (base e c : Nat) (en : α → List Value) (v : Value) (l : List α) : Prop := w.ownsRow base e c v l.length (l.flatMap en)
theorem Ro.nil (w : World) (base : Nat) : Ro w base e c en (.slice none 0 0) ([] : List α) := World.ownsRow_nil _ _ _ _
theorem Ro.form {w : World} {base : Nat} {v : Value} {l : List α} (h : Ro w base e c en v l) : ∃ ao cap, v = .slice ao l.length cap ∧ cap ≤ maxLen ∧ l.length ≤ cap := by
  rcases h.2 with ⟨rfl, h0⟩ | ⟨g, cap, cur, rfl, _, _, h1, h2, _⟩
  · exact ⟨none, 0, by rw [h0], by unfold maxLen; omega, by omega⟩
  · exact ⟨_, cap, rfl, h2, h1⟩
theorem Ro.lt {w : World} {base : Nat} {v : Value} {l : List α} (h : Ro w base e c en v l) : ∀ k, v.ownBlock = some k → base ≤ k ∧ k < w.heap.size := fun k hk => World.ownsRow.lt h k hk
theorem Ro.keep {w w' : World} {base : Nat} {v : Value} {l : List α} (h : Ro w base e c en v l) (hk : ∀ k, v.ownBlock = some k → base ≤ k → k < w.heap.size → w'.heap[k]? = w.heap[k]?) : Ro w' base e c en v l := by
  refine ⟨h.1, ?_⟩
  rcases h.2 with h2 | ⟨g, cap, cur, rfl, hb, hg, rest⟩
  · exact Or.inl h2
  · exact Or.inr ⟨g, cap, cur, rfl, hb, by rw [hk g rfl hb (Array.getElem?_eq_some_iff.1 hg).1]; exact hg, rest⟩
/-- Where a row that has something stands, and its cells. -/
theorem Ro.spot {w : World} {base : Nat} {v : Value} {l : List α} (h : Ro w base e c en v l) (hz : l ≠ []) : ∃ g cap, v = .slice (some ⟨g, 0, none⟩) l.length cap ∧ base ≤ g ∧ g < w.heap.size ∧ l.length ≤ cap ∧ cap ≤ maxLen ∧ ∀ j u, (l.flatMap en)[j]? = some u → w.cell? ⟨g, j, none⟩ = some u := by
  rcases h.2 with ⟨rfl, h0⟩ | ⟨g, cap, cur, rfl, hb, hg, hn, hc, hs, ht⟩
  · exact absurd (List.eq_nil_of_length_eq_zero h0) hz
  · refine ⟨g, cap, rfl, hb, (Array.getElem?_eq_some_iff.1 hg).1, hn, hc, fun j u hu => ?_⟩
    have := World.ownsRow.cells h (g := g) rfl j u hu
    simpa [Addr.add_lit] using this
/-- Append of a row that can be read to a row of one's own. -/
theorem Ro.app (K : Kd P t e c en) {w : World} {base : Nat} {v : Value} {xs : List α} (h : Ro w base e c en v xs) (a : Addr) (cap : Nat) (zs : List α) (hc : ∀ j u, (zs.flatMap en)[j]? = some u → w.cell? (a.add j) = some u)
    (hn : xs.length + zs.length ≤ 1000000) (hb : base ≤ w.heap.size) :
    ∃ v' w', (∀ ty, (Builtin.append_ #[t, t] ty #[v, .slice (.some a) zs.length cap]).run P w = .ok v' w') ∧ Ro w' base e c en v' (xs ++ zs) ∧ w.grownBy w' v.ownBlock ∧ (v'.ownBlock = v.ownBlock ∨ v'.ownBlock = .some w.heap.size) := by
  obtain ⟨z, by', hinf, hzs, hby⟩ := K.inf
  obtain ⟨i0, hi, hz0, hz1, hz2⟩ := info_parts hinf
  have hbb : (xs.length + zs.length) * by' ≤ 140737488355328 := by
    have : (xs.length + zs.length) * by' ≤ 1000000 * 1000 := Nat.mul_le_mul hn hby
    omega
  obtain ⟨v', w', hr, h2, h3, _, h5⟩ := run_append_own_at (P := P) w base t 0 e i0 z c by' K.ty hi hz0 hz1 hz2 hzs K.pos v xs.length (xs.flatMap en) h a zs.length cap (zs.flatMap en) (fm_len K.len zs) hc
    (fun u hu => by obtain ⟨s, _, hs⟩ := List.mem_flatMap.1 hu; exact K.one s u hs) (by unfold maxLen; omega) hbb hb
  exact ⟨v', w', fun ty => hr, by unfold Ro; rw [List.flatMap_append, List.length_append]; exact h2, h3, h5⟩
theorem grown_below {w w' w0 : World} {row : Option Nat} {B : Nat} (h : w.grownBy w' row) (hb : Below B w0 w) (hB : B ≤ w.heap.size) (hr : ∀ k, row = .some k → B ≤ k) : Below B w0 w' :=
  ⟨h.os.trans hb.os, h.tape.trans hb.tape, h.output.trans hb.output, Nat.le_trans hb.size h.size, fun k hk => (h.block k (Nat.lt_of_lt_of_le hk hB) (fun e => by have := hr k e.symm; omega)).trans (hb.block k hk)⟩
end
end Go.Proofs.YtbfldcieibdapabGreat.Ax
end
