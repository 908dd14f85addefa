/-
  What the document's Put of a ring makes of its row: the front, and a state behind it. No walk.
-/
import Derived.Test.YtkchdkcdkeajkaaRgRef
import Derived.Deep.Upon
import Derived.Great.BuildSlice
namespace Go.Proofs.Ytkchdkcdkeajkaa
open Go.RowKit
section
variable {ops : Array Oper} {o : Oper} {a : Act} {w : World} {K : Act → World → Prop} {Q : Exit → Act → World → Prop} {E : Prop}
theorem run_made_nil (w : World) : (Instr.buildSlice 22 0 #[]).run Try.prog w = .ok (.slice (some ⟨w.heap.size, 0, none⟩) 0 0) (w.alloc (.cells #[] 35)) := by kernel_rfl
theorem step_made_nil (hgd : o.guard = none) (ho : o.op = .buildSlice 22 0 #[]) (h : K (a.put o.dst (.slice (some ⟨w.heap.size, 0, none⟩) 0 0)) (w.alloc (.cells #[] 35))) : if Region.wanted o (yielded ops a.tmps) = true then Oper.wp Try.prog o a w K Q else E := by
  have hw : Region.wanted o (yielded ops a.tmps) = true := by simp [Region.wanted, hgd]
  rw [if_pos hw]
  unfold Oper.wp execOp
  simp only [ho, Sem.run_bind, List.map_toArray, List.map_nil, run_made_nil, Result.andThen_ok]
  exact h
theorem step_one_st (hgd : o.guard = none) (x : Operand) (ho : o.op = .buildSlice 22 1 #[(0, x)]) (cs : List Value) (hrun : Hid (∀ W : World, (Instr.buildSlice 22 1 #[(0, .agg cs.toArray)]).run Try.prog W = .ok (.slice (some ⟨W.heap.size, 0, none⟩) 1 1) (W.alloc (.cells cs.toArray 35)))) (hx : a.eval x = .agg cs.toArray)
    (h : K (a.put o.dst (.slice (some ⟨w.heap.size, 0, none⟩) 1 1)) (w.alloc (.cells cs.toArray 35))) : if Region.wanted o (yielded ops a.tmps) = true then Oper.wp Try.prog o a w K Q else E := by
  have hw : Region.wanted o (yielded ops a.tmps) = true := by simp [Region.wanted, hgd]
  rw [if_pos hw]
  unfold Oper.wp execOp
  simp only [ho, Sem.run_bind, List.map_toArray, List.map_cons, List.map_nil, hx, hrun.out w, Result.andThen_ok]
  exact h
/-- An append whose run is known. -/
theorem step_append_eq {w' : World} (hgd : o.guard = none) (t : TypeId) (s x : Operand) (ho : o.op = .call { callee := .builtin .append, args := #[s, x], argTypes := #[t, t] })
    (v u v' : Value) (hs : a.eval s = v) (hx : a.eval x = u) (hr : ∀ ty, (Builtin.append_ #[t, t] ty #[v, u]).run Try.prog w = .ok v' w') (h : K (a.put o.dst v') w') : if Region.wanted o (yielded ops a.tmps) = true then Oper.wp Try.prog o a w K Q else E := by
  have hw : Region.wanted o (yielded ops a.tmps) = true := by simp [Region.wanted, hgd]
  rw [if_pos hw]
  unfold Oper.wp execOp
  simp only [ho, resolve, invoke, builtin, Sem.run_bind, Sem.run_pure, Result.andThen_ok, List.map_toArray, List.map_cons, List.map_nil, hs, hx, hr]
  exact h
end
theorem So.made {w : World} {base g : Nat} (hg : w.heap[g]? = some (.cells #[] 35)) (hb : base ≤ g) : So w base (.slice (some ⟨g, 0, none⟩) 0 0) [] :=
  ⟨⟨rfl, Or.inr ⟨g, 0, #[], rfl, hb, hg, Nat.le_refl _, by unfold maxLen; omega, rfl, rfl⟩⟩, Fit.nil⟩
theorem Rs.take {w : World} {ao : Option Addr} {n cap k : Nat} {l : List Sp} (h : Rs w ao n cap l) (hk : k ≤ n) : Rs w ao k cap (l.take k) := by
  refine ⟨by rw [List.length_take, h.len]; omega, Nat.le_trans hk h.le, h.mx, fun i s hs => ?_⟩
  have hi : i < k := by have := (List.getElem?_eq_some_iff.1 hs).1; rw [List.length_take] at this; omega
  rw [List.getElem?_take_of_lt hi] at hs
  exact h.at' i s hs
theorem So.rs {w : World} {base n cap : Nat} {ao : Option Addr} {l : List Sp} (h : So w base (.slice ao n cap) l) : Rs w ao l.length cap l ∧ n = l.length ∧ ∀ g off, ao = some ⟨g, off, none⟩ → base ≤ g := by
  have hn : n = l.length := by obtain ⟨a1, c1, e⟩ := h.form; simp only [Value.slice.injEq] at e; exact e.2.1
  subst hn
  rcases h.own.2 with ⟨e, h0⟩ | ⟨g, cp, cur, hv, hb, hg, h1, h2, _⟩
  · simp only [Value.slice.injEq] at e
    obtain ⟨rfl, h0, rfl⟩ := e
    refine ⟨⟨rfl, by omega, by unfold maxLen; omega, fun i s hs => ?_⟩, rfl, fun g off hg => by cases hg⟩
    have := (List.getElem?_eq_some_iff.1 hs).1
    omega
  · simp only [Value.slice.injEq] at hv
    obtain ⟨rfl, _, rfl⟩ := hv
    refine ⟨⟨rfl, h1, h2, fun i s hs => ?_⟩, rfl, fun g' off hg' => ?_⟩
    · obtain ⟨g2, e2, _, _, hr⟩ := h.at i s hs
      simp only [Option.some.injEq, Addr.mk.injEq, and_true] at e2
      subst e2
      exact ⟨g, 0, rfl, fun j u hu => by rw [Nat.zero_add]; exact hr j u hu⟩
    · simp only [Option.some.injEq, Addr.mk.injEq, and_true] at hg'
      omega
theorem Rs.drop1 {w : World} {ao : Option Addr} {n cap : Nat} {l : List Sp} (h : Rs w ao (n + 1) cap l) (hf : Fit l) : ∃ g off, ao = some ⟨g, off, none⟩ ∧ Rs w (some ⟨g, off + 20, none⟩) n (cap - 1) (l.drop 1) := by
  have hl := h.len
  obtain ⟨g, off, e, _, _⟩ := h.frame hf (i := 0) (List.getElem?_eq_getElem (by omega))
  refine ⟨g, off, e, by rw [List.length_drop]; omega, by have := h.le; omega, by have := h.mx; omega, fun i s hs => ?_⟩
  rw [List.getElem?_drop] at hs
  obtain ⟨g', off', e', h2⟩ := h.at' _ s hs
  rw [e] at e'
  simp only [Option.some.injEq, Addr.mk.injEq, and_true] at e'
  obtain ⟨rfl, rfl⟩ := e'
  refine ⟨g, off + 20, rfl, fun j u hu => ?_⟩
  have := h2 j u hu
  rw [show off + 20 + i * 20 + j = off + (1 + i) * 20 + j by omega]
  exact this
/-- The front of a row, behind an empty row of the call's own. -/
theorem run_front {W : World} {base g k cap : Nat} {ao : Option Addr} {M : List Sp} (hg : W.heap[g]? = some (.cells #[] 35)) (hb : base ≤ g) (hB : base ≤ W.heap.size) (hm : Rs W ao k cap M) (hf : Fit M) (h6 : M.length ≤ 601) :
    ∃ v W', (∀ ty, (Builtin.append_ #[22, 22] ty #[.slice (some ⟨g, 0, none⟩) 0 0, .slice ao k cap]).run Try.prog W = .ok v W') ∧ So W' base v M ∧ W.grownBy W' (some g) := by
  obtain ⟨i0, hi, hz0, hz1, hz2⟩ := info_parts Try.info35
  have hs := So.made hg hb
  have hlen := hm.len
  by_cases hk : k = 0
  · subst hk
    obtain rfl : M = [] := List.eq_nil_of_length_eq_zero hlen
    refine ⟨_, W, fun ty => run_append_nothing (P := Try.prog) W 22 22 ty 35 i0 Try.underlying22 hi (some ⟨g, 0, none⟩) 0 0 (Nat.le_refl _) _ ⟨Or.inl ⟨35, Try.underlying22⟩, fun w' => rfl, ?_, ?_, by simp, fun u hu => by cases hu⟩, hs, ⟨rfl, rfl, rfl, Nat.le_refl _, fun _ _ _ => rfl⟩⟩
    · cases ao <;> simp [Builtin.firstCells, loadCells, loadCellsFrom]
    · cases ao <;> simp [Builtin.firstCells, loadCells, loadCellsFrom]
  · have hk' : 0 < M.length := by omega
    obtain ⟨g1, off, rfl, _, _⟩ := hm.frame hf (i := 0) (List.getElem?_eq_getElem hk')
    have key : ∀ j u, (cellsS M)[j]? = some u → W.cell? ((⟨g1, off, none⟩ : Addr).add j) = some u := by
      intro j u hu
      have hj : j < M.length * 20 := by have := (List.getElem?_eq_some_iff.1 hu).1; rw [cellsS_len hf] at this; exact this
      have hM : M[j / 20]? = some M[j / 20] := List.getElem?_eq_getElem (by omega)
      obtain ⟨g', off', e', h2⟩ := hm.at' _ _ hM
      simp only [Option.some.injEq, Addr.mk.injEq, and_true] at e'
      obtain ⟨rfl, rfl⟩ := e'
      have hl20 := (stV_c (hf _ (List.mem_of_getElem? hM))).len
      have hj2 : j % 20 < (stV M[j / 20]).length := by rw [hl20]; omega
      have hc := cellsS_at hf _ _ hM (j % 20) _ (List.getElem?_eq_getElem hj2)
      rw [show j / 20 * 20 + j % 20 = j by omega, hu] at hc
      have h3 := h2 (j % 20) _ (List.getElem?_eq_getElem hj2)
      rw [Addr.add_lit, show off + j = off + j / 20 * 20 + j % 20 by omega, h3, hc]
    obtain ⟨v', w', hr, h2, h3, _, h5⟩ := run_append_own_at (P := Try.prog) W base 22 22 35 i0 (.agg zeroS.toArray) 20 88 Try.underlying22 hi hz0 hz1 hz2 rfl (by decide) (.slice (some ⟨g, 0, none⟩) 0 0) 0 [] hs.own ⟨g1, off, none⟩ k cap (cellsS M) (by rw [cellsS_len hf, hlen]) key (cellsS_one hf) (by unfold maxLen; omega) (by omega) hB
    refine ⟨v', w', fun ty => hr, ⟨?_, hf⟩, h3⟩
    rw [hlen, ← Nat.zero_add k]
    exact h2
end Go.Proofs.Ytkchdkcdkeajkaa
