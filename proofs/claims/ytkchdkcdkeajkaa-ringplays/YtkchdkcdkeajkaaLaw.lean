/-
  Words for the laws: states that are made, stored and loaded.
-/
import Derived.Test.YtkchdkcdkeajkaaVmSt
import Derived.Deep.DeepCutAuto
namespace Go.Proofs.Ytkchdkcdkeajkaa
open Go.RowKit
theorem sixteen {l : List Int} (h : l.length = 16) : ∃ c0 c1 c2 c3 c4 c5 c6 c7 c8 c9 c10 c11 c12 c13 c14 c15, l = [c0, c1, c2, c3, c4, c5, c6, c7, c8, c9, c10, c11, c12, c13, c14, c15] := by
  match l, h with
  | [c0, c1, c2, c3, c4, c5, c6, c7, c8, c9, c10, c11, c12, c13, c14, c15], _ => exact ⟨c0, c1, c2, c3, c4, c5, c6, c7, c8, c9, c10, c11, c12, c13, c14, c15, rfl⟩
section
variable {ops : Array Oper} {o : Oper} {a : Act} {w : World} {K : Act → World → Prop} {Q : Exit → Act → World → Prop} {E : Prop}
theorem step_alloc_row (hgd : o.guard = none) (ty : TypeId) (ho : o.op = .alloc ty) (cs : List Value) (hz : (Try.prog.info? ty).bind (·.zero) = some (.agg cs.toArray))
    (h : ∀ W, Cw W w.heap.size cs ty → Below w.heap.size w W → Hid (W.heap.size = w.heap.size + 1) → K (a.put o.dst (.pointer (some ⟨w.heap.size, 0, none⟩))) W) : if Region.wanted o (yielded ops a.tmps) = true then Oper.wp Try.prog o a w K Q else E := by
  have hw : Region.wanted o (yielded ops a.tmps) = true := by simp [Region.wanted, hgd]
  rw [if_pos hw]
  cases hi : Try.prog.info? ty with
  | none => rw [hi] at hz; cases hz
  | some i =>
    have hz' : i.zero = some (.agg cs.toArray) := by rw [hi] at hz; exact hz
    unfold Oper.wp execOp
    simp only [ho, Sem.run_bind, Instr.alloc, zeroValue, typeInfo, hi, hz', newVar, newRow, run_newObj_alloc, Sem.run_pure, Result.andThen_ok, run_program]
    exact h _ (Cw.new w cs ty) ((Below.refl _ _).alloc (Nat.le_refl _) _) (World.size_alloc _ _)
theorem step_store_rw (hgd : o.guard = none) (ty : TypeId) (x y : Operand) (ho : o.op = .store ty x y) (g : Nat) (cs ds : List Value) (t : TypeId) (hx : a.eval x = .pointer (some ⟨g, 0, none⟩)) (hy : a.eval y = .agg ds.toArray)
    (hc : Cw w g cs t) (hi : Hid ((Try.prog.info? ty).map (·.size) = some cs.length)) (hl : Hid (cs.length = ds.length)) (h1 : Hid (∀ v ∈ ds, v.oneCell' = true))
    (h : ∀ W, Cw W g ds t → Only g w W → K (a.put o.dst undef) W) : if Region.wanted o (yielded ops a.tmps) = true then Oper.wp Try.prog o a w K Q else E := by
  have hw : Region.wanted o (yielded ops a.tmps) = true := by simp [Region.wanted, hgd]
  rw [if_pos hw]
  refine wp_store_mid ty x y ho g 0 ds.toArray hx hy (by rw [List.size_toArray, ← hl.out]; exact hc.there) (by rw [List.size_toArray, ← hl.out]; exact hi.out) (all_oneCell_toArray h1.out) ?_
  exact h _ (hc.put hl.out) (Only.sets g 0 w ds)
/-- A store of a whole row, half run. -/
theorem upon_store {b : Nat} {cs ds : List Value} {t : TypeId} (hc : Cw w b cs t) (hl : Hid (cs.length = ds.length)) (h1 : Hid (∀ v ∈ ds, v.oneCell' = true)) (h : ∀ W, Cw W b ds t → Only b w W → K (a.put o.dst undef) W) :
    Oper.upon Try.prog o a K Q ((Sem.run Try.prog (storeCells ⟨b, 0, none⟩ ds) w).andThen fun _ w' => Result.ok Next.skip w') := by
  have ht := hc.there
  rw [hl.out] at ht
  have := run_storeCells_cells (P := Try.prog) b 0 ds 0 w (fun j hj => by simpa using (ht j hj).1) (fun j hj => by simpa using (ht j hj).2) h1.out
  simp only [Nat.add_zero] at this
  rw [this]
  exact h _ (hc.put hl.out) (Only.sets b 0 w ds)
end
/-- What a state needs, to be stored. -/
theorem st_len {s : Sp} (h : s.Wf) : Hid (zeroS.length = (stV s).length) := by rw [(stV_c h).len]; exact hid_into rfl
theorem st_one {s : Sp} (h : s.Wf) : Hid (∀ v ∈ stV s, v.oneCell' = true) := (stV_c h).one
theorem zeroS_size : Hid ((Try.prog.info? 35).map (·.size) = some zeroS.length) := Try.size35
theorem st_size {s : Sp} (h : s.Wf) : Hid ((Try.prog.info? 35).map (·.size) = some (stV s).length) := by rw [(stV_c h).len]; exact Try.size35
section
variable {ops : Array Oper} {rest : List Oper} {o : Oper} {a : Act} {w : World} {Q : Exit → Act → World → Prop}
theorem wpList_build_row (hg : o.guard = none) (t : TypeId) (parts : Array (Nat × Operand)) (ho : o.op = .build t parts) (cs : List Value) (ps : List (Nat × Value)) (hp : parts.toList.map (fun (i, x) => (i, a.eval x)) = ps)
    (hb : Try.prog.built t ps = some cs.toArray)
    (h : wpList Try.prog ops Q rest (a.put o.dst (.agg cs.toArray)) w) : wpList Try.prog ops Q (o :: rest) a w :=
  wpList_build hg t parts ho (by rw [Array.toList_map, hp, hb]; rfl) (by rw [Array.toList_map, hp, hb]; exact h)
end
theorem setS_last {s : Sp} (h : s.Wf) (j : Nat) (v : Value) : (stV s).set (17 + j) v = .int .i64 s.frame :: (s.cells.map (Value.int .i32) ++ ([.int .u32 s.seed, .bool s.over, .int .i64 s.win] : List Value).set j v) := by
  have hl := h.cells
  rw [stV, show 17 + j = (16 + j) + 1 by omega, List.set_cons_succ, List.set_append_right _ _ (by simp [hl])]
  simp [hl]
theorem setS_over {s : Sp} (h : s.Wf) (v : Bool) : (stV s).set 18 (.bool v) = stV { s with over := v } := setS_last h 1 _
theorem setS_win {s : Sp} (h : s.Wf) (v : Int) : (stV s).set 19 (.int .i64 v) = stV { s with win := v } := setS_last h 2 _
theorem two_blocks {w : World} {a b : Nat} {cs : List Value} {t : TypeId} (h : Cw w a cs t) (hn : a ≠ b) (i : Nat) (v : Value) : Cw (w.setCell ⟨b, i, none⟩ v) a cs t := h.keep (Below.heap_setCell _ _ _ _ hn)
theorem built28z : Try.prog.built 35 [] = some zeroS.toArray := by kernel_rfl
/-- A row and a number, as what is answered. -/
theorem ret_row2 {f : Func} {a : Act} {g : Nat} {cs : List Value} {t : TypeId} {w : World} {post : Ending → World → Prop} {r u : Tmp} {ty : TypeId} {d : TypeDesc} (hf : f.results = #[.cell r ty, .tmp u]) (hr : a.tmps.getD r undef = .pointer (some ⟨g, 0, none⟩)) (hdf : a.defers = [])
    (hc : Cw w g cs t) (hu : Try.prog.underlying ty = some d) (hd : d.isRow = true) (hi : Hid ((Try.prog.info? ty).map (·.size) = some cs.length)) (h : post (.returned (.tuple #[.agg cs.toArray, a.tmps.getD u undef])) w) : bodyPost Try.prog f post .ret a w := by
  refine bodyPost_ret ?_ hdf h
  rw [results_cell_tmp hf, hr]
  have e1 := run_loadVar_row w g t ty cs.toArray (0, 0) d hc hu (by cases d <;> first | rfl | cases hd) (by rw [List.size_toArray]; exact hi.out)
  simp only [asAddr, Sem.run_pure, Result.andThen_ok, e1]
end Go.Proofs.Ytkchdkcdkeajkaa
