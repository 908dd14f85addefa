/-
  Two states against each other: the model's comparison of structs, as numbers; laws for guarded operations.
-/
import Derived.Test.YtkchdkcdkeajkaaLaw
namespace Go.Proofs.Ytkchdkcdkeajkaa
open Go.RowKit
theorem all_range_eqI : ∀ (xs ys : List Int), xs.length = ys.length → ((List.range xs.length).all fun i => xs.getD i 0 == ys.getD i 0) = decide (xs = ys)
  | [], [], _ => rfl
  | x :: xs, y :: ys, h => by
    have ih := all_range_eqI xs ys (by simpa using h)
    rw [List.length_cons, List.range_succ_eq_map, List.all_cons, List.all_map]
    simp only [List.getD_cons_zero, Function.comp_def, List.getD_cons_succ, ih]
    by_cases hx : x = y <;> simp [hx]
  | [], _ :: _, h => by simp at h
  | _ :: _, [], h => by simp at h
theorem sizeOf21 (w : World) : (sizeOf 21).run Try.prog w = .ok 1 w := by kernel_rfl
theorem run_eq16 (d : Nat) (xs ys : List Int) (hx : xs.length = 16) (hy : ys.length = 16) (w : World) :
    (Op.equalIn (d + 2) 32 (.agg (xs.map (Value.int .i32)).toArray) (.agg (ys.map (Value.int .i32)).toArray)).run Try.prog w = .ok (decide (xs = ys)) w := by
  rw [← all_range_eqI xs ys (hx.trans hy.symm), hx, List.range_eq_range']
  rw [Op.equalIn]
  simp only [Sem.run_bind, run_underlying Try.underlying32, Result.andThen_ok, sizeOf21, Std.Legacy.Range.forIn_eq_forIn_range', Std.Legacy.Range.size, Nat.sub_zero, Nat.add_sub_cancel, Nat.div_one]
  have hl : ∀ i ∈ List.range' 0 16 1, i < 16 := fun i hi => by simpa using (List.mem_range'_1.1 hi).2
  generalize List.range' 0 16 1 = l at hl ⊢
  induction l with
  | nil => simp
  | cons i l ih =>
    have hi : i < 16 := hl i (by simp)
    have px : (part 21 (xs.map (Value.int .i32)).toArray (i * 1)).run Try.prog w = .ok (.int .i32 (xs.getD i 0)) w := by
      simp [part, isAgg, run_underlying Try.underlying21, List.getD, List.getElem?_eq_getElem (show i < xs.length by omega)]
    have py : (part 21 (ys.map (Value.int .i32)).toArray (i * 1)).run Try.prog w = .ok (.int .i32 (ys.getD i 0)) w := by
      simp [part, isAgg, run_underlying Try.underlying21, List.getD, List.getElem?_eq_getElem (show i < ys.length by omega)]
    have pe : (Op.equalIn (d + 1) 21 (.int .i32 (xs.getD i 0)) (.int .i32 (ys.getD i 0))).run Try.prog w = .ok (xs.getD i 0 == ys.getD i 0) w := by
      rw [run_equalIn_int w d 21 .i32 .i32 _ _ Try.underlying21]
    simp only [List.forIn_cons, Sem.run_bind, px, py, pe, Result.andThen_ok, List.all_cons]
    cases hb : (xs.getD i 0 == ys.getD i 0)
    · simp
    · simp only [Bool.not_true, Bool.false_eq_true, if_false, Sem.run_pure, Result.andThen_ok, Bool.true_and]
      exact ih fun j hj => hl j (by simp [hj])
def eqS (s t : Sp) : Bool := decide (s.frame = t.frame) && (decide (s.cells = t.cells) && (decide (s.seed = t.seed) && (decide (s.over = t.over) && decide (s.win = t.win))))
theorem eqS_same (s : Sp) : eqS s s = true := by simp [eqS]
theorem run_eqS (s t : Sp) (hs : s.Wf) (ht : t.Wf) (w : World) : (Op.equalIn 10000 35 (.agg (stV s).toArray) (.agg (stV t).toArray)).run Try.prog w = .ok (eqS s t) w := by
  have h16 := run_eq16 9997 s.cells t.cells hs.cells ht.cells w
  obtain ⟨fr, cells, seed, over, win⟩ := s
  obtain ⟨fr', cells', seed', over', win'⟩ := t
  obtain ⟨c0, c1, c2, c3, c4, c5, c6, c7, c8, c9, c10, c11, c12, c13, c14, c15, e⟩ := sixteen hs.cells
  obtain ⟨d0, d1, d2, d3, d4, d5, d6, d7, d8, d9, d10, d11, d12, d13, d14, d15, e'⟩ := sixteen ht.cells
  simp only at e e' h16
  subst e
  subst e'
  simp only [List.map_cons, List.map_nil] at h16
  simp only [stV, List.map_cons, List.map_nil, List.cons_append, List.nil_append]
  obtain ⟨q, hq⟩ : ∃ q, q = decide ([c0, c1, c2, c3, c4, c5, c6, c7, c8, c9, c10, c11, c12, c13, c14, c15] = [d0, d1, d2, d3, d4, d5, d6, d7, d8, d9, d10, d11, d12, d13, d14, d15]) := ⟨_, rfl⟩
  rw [← hq] at h16
  have e : eqS ⟨fr, [c0, c1, c2, c3, c4, c5, c6, c7, c8, c9, c10, c11, c12, c13, c14, c15], seed, over, win⟩ ⟨fr', [d0, d1, d2, d3, d4, d5, d6, d7, d8, d9, d10, d11, d12, d13, d14, d15], seed', over', win'⟩ = (decide (fr = fr') && (q && (decide (seed = seed') && (decide (over = over') && decide (win = win'))))) := by rw [hq]; rfl
  rw [e]
  clear hq e
  simp [go_sem, h16]
  cases q <;> by_cases h1 : fr = fr' <;> by_cases h2 : seed = seed' <;> by_cases h3 : over = over' <;> by_cases h4 : win = win' <;> simp [h1, h2, h3, h4]
theorem guard28 : Try.prog.eqGuardType Try.prog.depth 35 = false := by kernel_rfl
section
variable {ops : Array Oper} {rest : List Oper} {o : Oper} {a : Act} {w : World} {Q : Exit → Act → World → Prop}
/-- Two rows of a state against each other. -/
theorem wpList_eql28 (hw : Region.wanted o (yielded ops a.tmps) = true) (x y : Operand) (ho : o.op = .binOp .eql 35 x y 35) (cs ds : List Value) (q : Bool) (hq : Hid (∀ w, (Op.equalIn 10000 35 (.agg cs.toArray) (.agg ds.toArray)).run Try.prog w = .ok q w)) (hx : a.eval x = .agg cs.toArray) (hy : a.eval y = .agg ds.toArray)
    (h : wpList Try.prog ops Q rest (a.put o.dst (.bool q)) w) : wpList Try.prog ops Q (o :: rest) a w := by
  refine BigFrame.wpList_want hw fun K hK => ?_
  unfold Oper.wp execOp
  simp only [ho, hx, hy, Sem.run_bind, run_eqGuard_agg w .eql 35 x y cs.toArray ds.toArray guard28, Result.andThen_ok, run_eql_struct, hq.out w, Sem.run_pure]
  exact hK _ _ h
theorem wpList_neq28 (hw : Region.wanted o (yielded ops a.tmps) = true) (x y : Operand) (ho : o.op = .binOp .neq 35 x y 35) (cs ds : List Value) (q : Bool) (hq : Hid (∀ w, (Op.equalIn 10000 35 (.agg cs.toArray) (.agg ds.toArray)).run Try.prog w = .ok q w)) (hx : a.eval x = .agg cs.toArray) (hy : a.eval y = .agg ds.toArray)
    (h : wpList Try.prog ops Q rest (a.put o.dst (.bool (!q))) w) : wpList Try.prog ops Q (o :: rest) a w := by
  refine BigFrame.wpList_want hw fun K hK => ?_
  unfold Oper.wp execOp
  simp only [ho, hx, hy, Sem.run_bind, run_eqGuard_agg w .neq 35 x y cs.toArray ds.toArray guard28, Result.andThen_ok, run_neq_struct, hq.out w, Sem.run_pure]
  exact hK _ _ h
/-- A whole row is loaded, guarded or not. -/
theorem wpList_load_rwG (hw : Region.wanted o (yielded ops a.tmps) = true) (ty : TypeId) (x : Operand) (ho : o.op = .load ty x) (g : Nat) (cs : List Value) (t : TypeId) (d : TypeDesc) (hx : a.eval x = .pointer (some ⟨g, 0, none⟩))
    (hc : Cw w g cs t) (hu : Try.prog.underlying ty = some d) (hd : d.isRow = true) (hi : Hid ((Try.prog.info? ty).map (·.size) = some cs.length))
    (h : wpList Try.prog ops Q rest (a.put o.dst (.agg cs.toArray)) w) : wpList Try.prog ops Q (o :: rest) a w :=
  BigFrame.wpList_want hw fun _ hK => wp_load_mid ty x ho g 0 hx cs d hc.range hu hd hi.out (hK _ _ h)
theorem wpList_build_rowG (hw : Region.wanted o (yielded ops a.tmps) = true) (t : TypeId) (parts : Array (Nat × Operand)) (ho : o.op = .build t parts) (cs : List Value) (ps : List (Nat × Value)) (hp : parts.toList.map (fun (i, x) => (i, a.eval x)) = ps)
    (hb : Try.prog.built t ps = some cs.toArray)
    (h : wpList Try.prog ops Q rest (a.put o.dst (.agg cs.toArray)) w) : wpList Try.prog ops Q (o :: rest) a w :=
  BigFrame.wpList_want hw fun _ hK => wp_build t parts ho (by rw [Array.toList_map, hp, hb]; rfl) (by rw [Array.toList_map, hp, hb]; exact hK _ _ h)
end
end Go.Proofs.Ytkchdkcdkeajkaa
