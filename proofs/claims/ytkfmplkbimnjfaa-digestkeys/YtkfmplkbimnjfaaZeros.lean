/-
  append of so many noughts onto a row of one's own ('append(p, make([]byte, n)...)').
-/
import Derived.Test.YtkfmplkbimnjfaaConcat
import Derived.Lib.AppendZerosOnto
namespace Go.Proofs.Ytkfmplkbimnjfaa
open Go.RowKit
theorem setCells_mid (b : Nat) (t : TypeId) : ∀ (vs pre old post : List Value) (w : World), w.heap[b]? = some (.cells (pre ++ (old ++ post)).toArray t (0, 0)) → old.length = vs.length → (w.setCells b pre.length vs).heap[b]? = some (.cells (pre ++ (vs ++ post)).toArray t (0, 0))
  | [], pre, old, post, w, h, hl => by
    have : old = [] := List.eq_nil_of_length_eq_zero hl
    subst this
    exact h
  | v :: vs, pre, [], post, w, h, hl => by simp at hl
  | v :: vs, pre, u :: old, post, w, h, hl => by
    have h1 : (w.setCell ⟨b, pre.length, none⟩ v).heap[b]? = some (.cells ((pre ++ [v]) ++ (old ++ post)).toArray t (0, 0)) := by
      simp only [World.setCell, Array.getElem?_modify, h]
      simp
    have h2 := setCells_mid b t vs (pre ++ [v]) old post _ h1 (by simpa using hl)
    show ((w.setCell ⟨b, pre.length, none⟩ v).setCells b (pre.length + 1) vs).heap[b]? = _
    simpa using h2
theorem zeroCells_b (k : Nat) : Builtin.zeroCells #[Value.int .u8 0] k = (cellsOf (zeroB k)).toArray := by
  apply Array.ext
  · simp [Builtin.zeroCells, cellsOf, zeroB]
  · intro i h1 h2
    simp [Builtin.zeroCells, cellsOf, zeroB, Nat.mod_one]
theorem nextcap_le (n c : Nat) (h : c < n) : Builtin.nextslicecap n c ≤ 8 * n + 10000 := by
  unfold Builtin.nextslicecap
  split
  · omega
  split
  · omega
  · have h1 : ∀ r d, Builtin.growBy n r d ≤ max d (2 * n + 400) := by
      intro r
      induction r with
      | zero => intro d; simp [Builtin.growBy]; omega
      | succ r ih =>
        intro d
        simp only [Builtin.growBy]
        split
        · omega
        · have := ih (d + (d + 768) / 4); omega
    have := h1 4 c
    omega
theorem run_append_zeros (w : World) (base : Nat) (ao : Option Addr) (cap : Nat) (xs : List Int) (hown : Ow w base (.slice ao xs.length cap) xs) (k : Nat) (hk : xs.length + k ≤ 1000000) (hbase : base ≤ w.heap.size) :
    ∃ ao' cap' w', (Builtin.append_ #[22, 3] 22 #[.slice ao xs.length cap, .int .i64 (k : Int)]).run Try.prog w = .ok (.slice ao' (xs.length + k) cap') w' ∧ Ow w' base (.slice ao' (xs.length + k) cap') (xs ++ zeroB k) ∧ Below base w w' := by
  obtain ⟨i0, hi0, hz0, hz1, hz2⟩ := info_parts Try.info5
  have hw : IntKind.i64.wrap (k : Int) = k := by rw [wrap64_small _ (by omega) (by omega)]
  have hneg : ¬ ((k : Int) < 0) := by omega
  have h48i : ¬ (281474976710656 < (k : Int) * 1) := by omega
  obtain ⟨a1, c1, hv, ⟨h1, h2, h3⟩ | ⟨g, cur, h1, hg1, hg2, hg3, hg4, hg5, hg6, hg7⟩⟩ := hown.form
  · simp only [Value.slice.injEq] at hv
    obtain ⟨rfl, _, rfl⟩ := hv
    subst h1; subst h2; subst h3
    by_cases h0 : k = 0
    · subst h0
      refine ⟨none, 0, w, ?_, World.ownsRow_nil _ _ _ _, Below.refl _ _⟩
      have hw0 : IntKind.i64.wrap 0 = 0 := by decide
      simp [Builtin.append_, run_underlying Try.underlying22, run_underlying Try.underlying3, sizeOf, typeInfo, hi0, hz2, asInt, asIntOf, hw0]
    · have hrun := Lib.run_append_nil_zeros (P := Try.prog) w 22 3 22 5 i0 (.int .u8 0) .i64 .i64 Try.underlying22 Try.underlying3 hi0 hz0 k (by omega) (by rw [hz1]; decide) (by omega) (by rw [hz2]; simp at hk; omega)
      have hge := grownCap_ge w k 0 5
      have hle := grownCap_le_maxLen w k 0 5 (by unfold maxLen; simp at hk; omega)
      generalize grownCap w k 0 5 = c at *
      refine ⟨_, c, _, by simpa using hrun, ?_, (Below.refl _ w).drew.alloc hbase _⟩
      refine ⟨by simp [cellsOf, zeroB], Or.inr ⟨w.heap.size, c, _, by simp [zeroB], hbase, heap_alloc_new w.drew _, by simp [zeroB]; exact hge, hle, ?_, ?_⟩⟩
      · simp [Builtin.zeroCells, Value.cells]; omega
      · show ((Builtin.zeroCells #[Value.int .u8 0] k ++ _).toList.take _) = _
        rw [zeroCells_b]
        simp [cellsOf, zeroB]
  · simp only [Value.slice.injEq] at hv
    obtain ⟨rfl, _, rfl⟩ := hv
    subst h1
    have hcells : ∀ j v, (cellsOf xs)[j]? = some v → w.cell? ((⟨g, 0, none⟩ : Addr).add j) = some v := fun j v hj => by
      obtain ⟨hjl, rfl⟩ := cellsOf_get xs j v hj
      rw [Addr.add_lit, Nat.zero_add, cell_of_row w g j _ _ _ hg3]
      have e := congrArg (fun l => l[j]?) hg7
      simp only [List.getElem?_take, hjl, if_true, cellsOf_get' xs j hjl] at e
      simpa using e
    by_cases hroom : xs.length + k ≤ cap
    · have hcl : cur.toList = cellsOf xs ++ ((cur.toList.drop xs.length).take k ++ cur.toList.drop (xs.length + k)) := by
        rw [← hg7, ← List.drop_drop, List.take_append_drop, List.take_append_drop]
      have hml : ((cur.toList.drop xs.length).take k).length = k := by
        rw [List.length_take, List.length_drop, Array.length_toList, hg6]; omega
      have hg3' : w.heap[g]? = some (.cells (cellsOf xs ++ ((cur.toList.drop xs.length).take k ++ cur.toList.drop (xs.length + k))).toArray 5 (0, 0)) := by
        rw [← hcl]; simpa using hg3
      have hset := setCells_mid g 5 (cellsOf (zeroB k)) (cellsOf xs) _ _ w hg3' (by rw [hml, cellsOf_length, zeroB_len])
      rw [cellsOf_length] at hset
      have hst := run_storeCells_cells (P := Try.prog) g xs.length (cellsOf (zeroB k)) 0 w (fun j hj => by
          rw [cellsOf_length, zeroB_len] at hj
          rw [cell_of_row w g _ _ _ _ hg3]
          have hlt : xs.length + j < cur.size := by omega
          simp [hlt]) (fun j _ => frozen_of_row w g _ _ _ hg3) (cellsOf_one _)
      have hadd : (⟨g, 0, none⟩ : Addr).add xs.length = ⟨g, xs.length, none⟩ := by rw [Addr.add_lit, Nat.zero_add]
      refine ⟨some ⟨g, 0, none⟩, cap, w.setCells g xs.length (cellsOf (zeroB k)), ?_, ?_, ?_⟩
      · have hz : (if k = 0 then (pure #[] : Sem (Array Value)) else pure (Builtin.zeroCells (Value.int .u8 0).cells k)) = pure (cellsOf (zeroB k)).toArray := by
          split
          · rename_i h; subst h; rfl
          · show pure (Builtin.zeroCells #[Value.int .u8 0] k) = _
            rw [zeroCells_b]
        by_cases h0 : k = 0
        · subst h0
          have hw0 : IntKind.i64.wrap 0 = 0 := by decide
          simp [Builtin.append_, run_underlying Try.underlying22, run_underlying Try.underlying3, sizeOf, typeInfo, hi0, hz1, hz2, asInt, asIntOf, hw0, hg4, hadd]
          have hst0 : (storeCells ⟨g, xs.length, none⟩ [] 0).run Try.prog w = .ok () (w.setCells g xs.length []) := by simpa [cellsOf, zeroB] using hst
          simp [hst0, cellsOf, zeroB]
        · have hzc : Builtin.zeroCells (Value.int .u8 0).cells k = (cellsOf (zeroB k)).toArray := zeroCells_b k
          simp only [Nat.add_zero] at hst
          simp [Builtin.append_, run_underlying Try.underlying22, run_underlying Try.underlying3, sizeOf, typeInfo, zeroValue, hi0, hz0, hz1, hz2, asInt, asIntOf, hw, hneg, hroom, hadd, h0, hzc, show ¬ (281474976710656 < (k : Int)) by omega]
          simp [hst]
      · refine ⟨by simp [cellsOf, zeroB], Or.inr ⟨g, cap, _, by simp [zeroB], hg1, hset, by simp [zeroB]; exact hroom, hg5, ?_, ?_⟩⟩
        · have e : cur.toList.length = cap := by rw [Array.length_toList]; exact hg6
          simp [cellsOf, zeroB]; omega
        · show ((cellsOf xs ++ (cellsOf (zeroB k) ++ cur.toList.drop (xs.length + k))).toArray.toList.take _) = _
          rw [List.length_append, zeroB_len, Nat.mul_one, List.toList_toArray, ← List.append_assoc, List.take_append_of_le_length (by rw [List.length_append, cellsOf_length, cellsOf_length, zeroB_len]; exact Nat.le_refl _), cellsOf_append]
          exact List.take_of_length_le (by rw [List.length_append, cellsOf_length, cellsOf_length, zeroB_len]; exact Nat.le_refl _)
      · have hr := setCells_rest g (cellsOf (zeroB k)) xs.length w
        exact ⟨hr.1, hr.2.1, hr.2.2.1, by rw [hr.2.2.2]; exact Nat.le_refl _, fun i hi => setCells_other g i (by omega) _ _ _⟩
    · have hold : (Builtin.firstCells i0.size xs.length (.slice (some ⟨g, 0, none⟩) xs.length cap)).run Try.prog w.drew = .ok (cellsOf xs).toArray w.drew := by
        have h := run_loadCells_list (P := Try.prog) w.drew ⟨g, 0, none⟩ (cellsOf xs) (fun j v hj => hcells j v hj)
        rw [cellsOf_length] at h
        simp [Builtin.firstCells, hz1, h]
      have hcap : cap < xs.length + k := by omega
      have hnext : Builtin.nextslicecap (xs.length + k) cap * i0.bytes ≤ 281474976710656 := by
        rw [hz2, Nat.mul_one]
        exact Nat.le_trans (nextcap_le _ _ (by omega)) (by omega)
      have hrun := Lib.run_append_grow_zeros (P := Try.prog) w 22 3 22 5 i0 (.int .u8 0) .i64 .i64 Try.underlying22 Try.underlying3 hi0 hz0 (some ⟨g, 0, none⟩) xs.length cap (cellsOf xs) hold k (by omega) (by rw [hz1]; decide) hcap (by omega) (by rw [hz2]; omega) hnext
      have hge := grownCap_ge w (xs.length + k) cap 5
      have hle := grownCap_le_maxLen w (xs.length + k) cap 5 (by unfold maxLen; omega)
      generalize grownCap w (xs.length + k) cap 5 = c at *
      refine ⟨_, c, _, hrun, ?_, (Below.refl _ w).drew.alloc hbase _⟩
      refine ⟨by simp [cellsOf, zeroB], Or.inr ⟨w.heap.size, c, _, by simp [zeroB], hbase, heap_alloc_new w.drew _, by simp [zeroB]; exact hge, hle, ?_, ?_⟩⟩
      · simp [Builtin.zeroCells, Value.cells, cellsOf]; omega
      · show (((cellsOf xs).toArray ++ Builtin.zeroCells #[Value.int .u8 0] k ++ Builtin.zeroCells #[Value.int .u8 0] (c - (xs.length + k))).toList.take _) = _
        rw [zeroCells_b, zeroCells_b, List.length_append, zeroB_len, Nat.mul_one]
        simp only [Array.toList_append]
        rw [List.take_append_of_le_length (by rw [List.length_append, cellsOf_length, cellsOf_length, zeroB_len]; exact Nat.le_refl _), cellsOf_append]
        exact List.take_of_length_le (by rw [List.length_append, cellsOf_length, cellsOf_length, zeroB_len]; exact Nat.le_refl _)
end Go.Proofs.Ytkfmplkbimnjfaa
