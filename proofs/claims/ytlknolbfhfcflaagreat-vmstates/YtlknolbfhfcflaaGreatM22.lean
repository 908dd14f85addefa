/-
  Joined from: Law, StEq, Known.
-/
import Derived.Test.YtlknolbfhfcflaaGreatM10
import Derived.Deep.DeepCutAuto
section
/-
  Words for the laws: a game that the law made (Kn), and Step within a region that draws its order.
-/
namespace Go.Proofs.YtlknolbfhfcflaaGreat
open Go.RowKit
section
variable {ops : Array Oper} {o : Oper} {a : Act} {w : World} {K : Act → World → Prop} {Q : Exit → Act → World → Prop} {E : Prop}
theorem step_alloc_row (hgd : o.guard = none) (ty : TypeId) (ho : o.op = .alloc ty) (cs : List Value) (hz : (Tryz.prog.info? ty).bind (·.zero) = some (.agg cs.toArray))
    (h : ∀ W, Cw W w.heap.size cs ty → Below w.heap.size w W → Hid (W.heap.size = w.heap.size + 1) → K (a.put o.dst (.pointer (some ⟨w.heap.size, 0, none⟩))) W) : if Region.wanted o (yielded ops a.tmps) = true then Oper.wp Tryz.prog o a w K Q else E := by
  have hw : Region.wanted o (yielded ops a.tmps) = true := by simp [Region.wanted, hgd]
  rw [if_pos hw]
  cases hi : Tryz.prog.info? ty with
  | none => rw [hi] at hz; cases hz
  | some i =>
    have hz' : i.zero = some (.agg cs.toArray) := by rw [hi] at hz; exact hz
    unfold Oper.wp execOp
    simp only [ho, Sem.run_bind, Instr.alloc, zeroValue, typeInfo, hi, hz', newVar, newRow, run_newObj_alloc, Sem.run_pure, Result.andThen_ok, run_program]
    exact h _ (Cw.new w cs ty) ((Below.refl _ _).alloc (Nat.le_refl _) _) (World.size_alloc _ _)
theorem step_store_rw (hgd : o.guard = none) (ty : TypeId) (x y : Operand) (ho : o.op = .store ty x y) (g : Nat) (cs ds : List Value) (t : TypeId) (hx : a.eval x = .pointer (some ⟨g, 0, none⟩)) (hy : a.eval y = .agg ds.toArray)
    (hc : Cw w g cs t) (hi : Hid ((Tryz.prog.info? ty).map (·.size) = some cs.length)) (hl : Hid (cs.length = ds.length)) (h1 : Hid (∀ v ∈ ds, v.oneCell' = true))
    (h : ∀ W, Cw W g ds t → Only g w W → K (a.put o.dst undef) W) : if Region.wanted o (yielded ops a.tmps) = true then Oper.wp Tryz.prog o a w K Q else E := by
  have hw : Region.wanted o (yielded ops a.tmps) = true := by simp [Region.wanted, hgd]
  rw [if_pos hw]
  refine wp_store_mid ty x y ho g 0 ds.toArray hx hy (by rw [List.size_toArray, ← hl.out]; exact hc.there) (by rw [List.size_toArray, ← hl.out]; exact hi.out) (all_oneCell_toArray h1.out) ?_
  exact h _ (hc.put hl.out) (Only.sets g 0 w ds)
/-- A store of a whole row, half run. -/
theorem upon_store {b : Nat} {cs ds : List Value} {t : TypeId} (hc : Cw w b cs t) (hl : Hid (cs.length = ds.length)) (h1 : Hid (∀ v ∈ ds, v.oneCell' = true)) (h : ∀ W, Cw W b ds t → Only b w W → K (a.put o.dst undef) W) :
    Oper.upon Tryz.prog o a K Q ((Sem.run Tryz.prog (storeCells ⟨b, 0, none⟩ ds) w).andThen fun _ w' => Result.ok Next.skip w') := by
  have ht := hc.there
  rw [hl.out] at ht
  have := run_storeCells_cells (P := Tryz.prog) b 0 ds 0 w (fun j hj => by simpa using (ht j hj).1) (fun j hj => by simpa using (ht j hj).2) h1.out
  simp only [Nat.add_zero] at this
  rw [this]
  exact h _ (hc.put hl.out) (Only.sets b 0 w ds)
end
/-- A game of the law's own, in block G; its program l, of the slice cv; what lies below N is left as it is. -/
structure Kn (w W : World) (N G : Nat) (cv : Value) (cap fuel : Int) (l : List Ii) : Prop where
  g : Cw W G [cv, .int .i64 cap, .int .i64 fuel] 59
  ls : Ls W cv l
  below : Below w.heap.size w W
  lo : w.heap.size ≤ N
  lt : G < N
  own : ∀ k, cv.ownBlock = some k → k < N
  size : N ≤ W.heap.size
variable {w W W' : World} {N G : Nat} {cv : Value} {cap fuel : Int} {l : List Ii}
theorem Kn.next (h : Kn w W N G cv cap fuel l) (hb : Below W.heap.size W W') : Kn w W' N G cv cap fuel l :=
  ⟨h.g.below hb h.g.lt, h.ls.below hb, h.below.trans (hb.mono h.below.size), h.lo, h.lt, h.own, Nat.le_trans h.size hb.size⟩
theorem Kn.only (h : Kn w W N G cv cap fuel l) {b : Nat} (hb : Only b W W') (hN : N ≤ b) : Kn w W' N G cv cap fuel l :=
  ⟨hb.cw h.g (by have := h.lt; omega), h.ls.keep (fun k hk _ => hb.block k (by have := h.own k hk; omega)), h.below.trans (hb.below (by have := h.lo; omega)), h.lo, h.lt, h.own, by rw [hb.size]; exact h.size⟩
theorem Kn.sm (h : Kn w W N G cv cap fuel l) (hs : Sm W W') : Kn w W' N G cv cap fuel l := h.next ⟨hs.os, hs.tape, hs.output, by rw [hs.size]; exact Nat.le_refl _, fun k _ => by rw [hs.heap]⟩
/-- The cells of the game. -/
def GmC (G : Nat) (cv : Value) (cap fuel : Int) (V : World) : Prop := V.cell? ⟨G, 0, none⟩ = some cv ∧ V.cell? ⟨G, 1, none⟩ = some (.int .i64 cap) ∧ V.cell? ⟨G, 2, none⟩ = some (.int .i64 fuel)
theorem Kn.s (h : Kn w W N G cv cap fuel l) : W.cell? ⟨G, 0, none⟩ = some cv ∧ W.cell? ⟨G, 1, none⟩ = some (.int .i64 cap) ∧ W.cell? ⟨G, 2, none⟩ = some (.int .i64 fuel) := ⟨(h.g.cell 0).trans rfl, (h.g.cell 1).trans rfl, (h.g.cell 2).trans rfl⟩
theorem Kn.step (h : Kn w W N G cv cap fuel l) (s t : Sp) (i0 i1 e : Int) (hs : s.Wf) (hi0 : 0 ≤ i0 ∧ i0 < 65536) (hi1 : 0 ≤ i1 ∧ i1 < 65536) (he : stepF l cap fuel s i0 i1 = (t, e)) :
    Calls Tryz.prog 28 #[.agg #[cv, .int .i64 cap, .int .i64 fuel], .agg (stV s).toArray, .agg #[.int .u16 i0, .int .u16 i1]] W fun r w' => r = .returned (.tuple #[.agg (stV t).toArray, .int .i64 e]) ∧ Below W.heap.size W w' := by
  have := Step_any cv l cap fuel s i0 i1 W h.ls hs hi0 hi1
  rw [he] at this
  exact this
/-- A game just made. -/
theorem Kn.make (w : World) (l : List Ii) (cap fuel : Int) (hl : l.length ≤ 1000) : Kn w ((w.alloc (.cells (cells2 l).toArray 56)).alloc (.cells #[.slice (some ⟨w.heap.size, 0, none⟩) l.length l.length, .int .i64 cap, .int .i64 fuel] 59)) (w.heap.size + 2) (w.heap.size + 1) (.slice (some ⟨w.heap.size, 0, none⟩) l.length l.length) cap fuel l := by
  have hc : Cw (w.alloc (.cells (cells2 l).toArray 56)) w.heap.size (cells2 l) 56 := Cw.new _ _ _
  have hg := Cw.new (w.alloc (.cells (cells2 l).toArray 56)) [.slice (some ⟨w.heap.size, 0, none⟩) l.length l.length, .int .i64 cap, .int .i64 fuel] 59
  rw [World.size_alloc] at hg
  refine ⟨hg, Ls_of_block (hc.alloc _) (by unfold maxLen; omega), (((Below.refl w.heap.size w).alloc (Nat.le_refl _) _).alloc (by rw [World.size_alloc]; omega) _), by omega, by omega, ?_, ?_⟩
  · intro k hk
    have : w.heap.size = k := by simpa [Value.ownBlock] using hk
    omega
  · rw [World.size_alloc, World.size_alloc]; omega
/-- A variable for a state that was made ahead of a call. -/
theorem Kn.alloc1 {W0 wa : World} (H : Kn w W0.drew N G cv cap fuel l) (Ba : Below (W0.alloc (.cells zeroS.toArray 25)).drew.heap.size (W0.alloc (.cells zeroS.toArray 25)).drew wa) :
    Hid (Cw wa W0.heap.size zeroS 25) ∧ Hid (N ≤ W0.heap.size) ∧ Hid (Kn w wa N G cv cap fuel l) := by
  have h1 : Kn w (W0.alloc (.cells zeroS.toArray 25)).drew N G cv cap fuel l := (H.next (W' := W0.drew.alloc (.cells zeroS.toArray 25)) ((Below.refl _ _).alloc (Nat.le_refl _) _)).sm ⟨rfl, rfl, rfl, rfl⟩
  have h2 : Cw (W0.alloc (.cells zeroS.toArray 25)).drew W0.heap.size zeroS 25 := Cw.keep (Cw.new W0 zeroS 25) rfl
  refine ⟨h2.below Ba ?_, H.size, h1.next Ba⟩
  show W0.heap.size < (W0.alloc _).heap.size
  rw [World.size_alloc]; omega
theorem Kn.alloc2 {W0 wa : World} (H : Kn w W0 N G cv cap fuel l) (Ba : Below (W0.alloc (.cells zeroS.toArray 25)).heap.size (W0.alloc (.cells zeroS.toArray 25)) wa) :
    Hid (Cw wa W0.heap.size zeroS 25) ∧ Hid (N ≤ W0.heap.size) ∧ Hid (Kn w wa N G cv cap fuel l) := by
  have h1 : Kn w (W0.alloc (.cells zeroS.toArray 25)) N G cv cap fuel l := H.next ((Below.refl _ _).alloc (Nat.le_refl _) _)
  refine ⟨Cw.below (Cw.new W0 zeroS 25) Ba ?_, H.size, h1.next Ba⟩
  rw [World.size_alloc]; omega
/-- What a state needs, to be stored. -/
theorem st_len {s : Sp} (h : s.Wf) : Hid (zeroS.length = (stV s).length) := by rw [(stV_c h).len]; exact hid_into rfl
theorem st_one {s : Sp} (h : s.Wf) : Hid (∀ v ∈ stV s, v.oneCell' = true) := (stV_c h).one
theorem zeroS_size : Hid ((Tryz.prog.info? 25).map (·.size) = some zeroS.length) := Tryz.size25
theorem st_size {s : Sp} (h : s.Wf) : Hid ((Tryz.prog.info? 25).map (·.size) = some (stV s).length) := by rw [(stV_c h).len]; exact Tryz.size25
theorem startS_wf (k : Int) (hk : 0 ≤ k ∧ k < 4294967296) : (startS k).Wf := ⟨rfl, by intro x hx; simp only [startS, zeros, List.mem_cons, List.not_mem_nil, or_false, or_self] at hx; subst hx; exact zero_in, by show (0 : Int) ≤ (if k = 0 then 1 else k) ∧ (if k = 0 then 1 else k) < 4294967296; split <;> omega⟩
end Go.Proofs.YtlknolbfhfcflaaGreat
end

section
/-
  Two states against each other: the model's comparison of structs, as numbers; laws for guarded operations.
-/
namespace Go.Proofs.YtlknolbfhfcflaaGreat
open Go.RowKit
theorem all_range_eqI : ∀ (xs ys : List Int), xs.length = ys.length → ((List.range xs.length).all fun i => xs.getD i 0 == ys.getD i 0) = decide (xs = ys)
  | [], [], _ => rfl
  | x :: xs, y :: ys, h => by
    have ih := all_range_eqI xs ys (by simpa using h)
    rw [List.length_cons, List.range_succ_eq_map, List.all_cons, List.all_map]
    simp only [List.getD_cons_zero, Function.comp_def, List.getD_cons_succ, ih]
    by_cases hx : x = y <;> simp [hx]
  | [], _ :: _, h => by simp at h
  | _ :: _, [], h => by simp at h
theorem sizeOf21 (w : World) : (sizeOf 21).run Tryz.prog w = .ok 1 w := by kernel_rfl
theorem run_eq16 (d : Nat) (xs ys : List Int) (hx : xs.length = 16) (hy : ys.length = 16) (w : World) :
    (Op.equalIn (d + 2) 22 (.agg (xs.map (Value.int .i32)).toArray) (.agg (ys.map (Value.int .i32)).toArray)).run Tryz.prog w = .ok (decide (xs = ys)) w := by
  rw [← all_range_eqI xs ys (hx.trans hy.symm), hx, List.range_eq_range']
  rw [Op.equalIn]
  simp only [Sem.run_bind, run_underlying Tryz.underlying22, Result.andThen_ok, sizeOf21, Std.Legacy.Range.forIn_eq_forIn_range', Std.Legacy.Range.size, Nat.sub_zero, Nat.add_sub_cancel, Nat.div_one]
  have hl : ∀ i ∈ List.range' 0 16 1, i < 16 := fun i hi => by simpa using (List.mem_range'_1.1 hi).2
  generalize List.range' 0 16 1 = l at hl ⊢
  induction l with
  | nil => simp
  | cons i l ih =>
    have hi : i < 16 := hl i (by simp)
    have px : (part 21 (xs.map (Value.int .i32)).toArray (i * 1)).run Tryz.prog w = .ok (.int .i32 (xs.getD i 0)) w := by
      simp [part, isAgg, run_underlying Tryz.underlying21, List.getD, List.getElem?_eq_getElem (show i < xs.length by omega)]
    have py : (part 21 (ys.map (Value.int .i32)).toArray (i * 1)).run Tryz.prog w = .ok (.int .i32 (ys.getD i 0)) w := by
      simp [part, isAgg, run_underlying Tryz.underlying21, List.getD, List.getElem?_eq_getElem (show i < ys.length by omega)]
    have pe : (Op.equalIn (d + 1) 21 (.int .i32 (xs.getD i 0)) (.int .i32 (ys.getD i 0))).run Tryz.prog w = .ok (xs.getD i 0 == ys.getD i 0) w := by
      rw [run_equalIn_int w d 21 .i32 .i32 _ _ Tryz.underlying21]
    simp only [List.forIn_cons, Sem.run_bind, px, py, pe, Result.andThen_ok, List.all_cons]
    cases hb : (xs.getD i 0 == ys.getD i 0)
    · simp
    · simp only [Bool.not_true, Bool.false_eq_true, if_false, Sem.run_pure, Result.andThen_ok, Bool.true_and]
      exact ih fun j hj => hl j (by simp [hj])
def eqS (s t : Sp) : Bool := decide (s.frame = t.frame) && (decide (s.cells = t.cells) && (decide (s.seed = t.seed) && (decide (s.over = t.over) && decide (s.win = t.win))))
theorem eqS_same (s : Sp) : eqS s s = true := by simp [eqS]
theorem run_eqS (s t : Sp) (hs : s.Wf) (ht : t.Wf) (w : World) : (Op.equalIn 10000 25 (.agg (stV s).toArray) (.agg (stV t).toArray)).run Tryz.prog w = .ok (eqS s t) w := by
  have h16 := run_eq16 9997 s.cells t.cells hs.cells ht.cells w
  obtain ⟨fr, cells, seed, over, win⟩ := s
  obtain ⟨fr', cells', seed', over', win'⟩ := t
  obtain ⟨c0, c1, c2, c3, c4, c5, c6, c7, c8, c9, c10, c11, c12, c13, c14, c15, e⟩ := sixteen hs.cells
  obtain ⟨d0, d1, d2, d3, d4, d5, d6, d7, d8, d9, d10, d11, d12, d13, d14, d15, e'⟩ := sixteen ht.cells
  simp only at e e' h16
  subst e
  subst e'
  simp only [List.map_cons, List.map_nil] at h16
  simp only [stV, List.map_cons, List.map_nil, List.cons_append, List.nil_append]
  obtain ⟨q, hq⟩ : ∃ q, q = decide ([c0, c1, c2, c3, c4, c5, c6, c7, c8, c9, c10, c11, c12, c13, c14, c15] = [d0, d1, d2, d3, d4, d5, d6, d7, d8, d9, d10, d11, d12, d13, d14, d15]) := ⟨_, rfl⟩
  rw [← hq] at h16
  have e : eqS ⟨fr, [c0, c1, c2, c3, c4, c5, c6, c7, c8, c9, c10, c11, c12, c13, c14, c15], seed, over, win⟩ ⟨fr', [d0, d1, d2, d3, d4, d5, d6, d7, d8, d9, d10, d11, d12, d13, d14, d15], seed', over', win'⟩ = (decide (fr = fr') && (q && (decide (seed = seed') && (decide (over = over') && decide (win = win'))))) := by rw [hq]; rfl
  rw [e]
  clear hq e
  simp [go_sem, h16]
  cases q <;> by_cases h1 : fr = fr' <;> by_cases h2 : seed = seed' <;> by_cases h3 : over = over' <;> by_cases h4 : win = win' <;> simp [h1, h2, h3, h4]
theorem guard28 : Tryz.prog.eqGuardType Tryz.prog.depth 25 = false := by kernel_rfl
section
variable {ops : Array Oper} {rest : List Oper} {o : Oper} {a : Act} {w : World} {Q : Exit → Act → World → Prop}
/-- Two rows of a state against each other. -/
theorem wpList_eql28 (hw : Region.wanted o (yielded ops a.tmps) = true) (x y : Operand) (ho : o.op = .binOp .eql 25 x y 25) (cs ds : List Value) (q : Bool) (hq : Hid (∀ w, (Op.equalIn 10000 25 (.agg cs.toArray) (.agg ds.toArray)).run Tryz.prog w = .ok q w)) (hx : a.eval x = .agg cs.toArray) (hy : a.eval y = .agg ds.toArray)
    (h : wpList Tryz.prog ops Q rest (a.put o.dst (.bool q)) w) : wpList Tryz.prog ops Q (o :: rest) a w := by
  refine BigFrame.wpList_want hw fun K hK => ?_
  unfold Oper.wp execOp
  simp only [ho, hx, hy, Sem.run_bind, run_eqGuard_agg w .eql 25 x y cs.toArray ds.toArray guard28, Result.andThen_ok, run_eql_struct, hq.out w, Sem.run_pure]
  exact hK _ _ h
theorem wpList_neq28 (hw : Region.wanted o (yielded ops a.tmps) = true) (x y : Operand) (ho : o.op = .binOp .neq 25 x y 25) (cs ds : List Value) (q : Bool) (hq : Hid (∀ w, (Op.equalIn 10000 25 (.agg cs.toArray) (.agg ds.toArray)).run Tryz.prog w = .ok q w)) (hx : a.eval x = .agg cs.toArray) (hy : a.eval y = .agg ds.toArray)
    (h : wpList Tryz.prog ops Q rest (a.put o.dst (.bool (!q))) w) : wpList Tryz.prog ops Q (o :: rest) a w := by
  refine BigFrame.wpList_want hw fun K hK => ?_
  unfold Oper.wp execOp
  simp only [ho, hx, hy, Sem.run_bind, run_eqGuard_agg w .neq 25 x y cs.toArray ds.toArray guard28, Result.andThen_ok, run_neq_struct, hq.out w, Sem.run_pure]
  exact hK _ _ h
/-- A whole row is loaded, guarded or not. -/
theorem wpList_load_rwG (hw : Region.wanted o (yielded ops a.tmps) = true) (ty : TypeId) (x : Operand) (ho : o.op = .load ty x) (g : Nat) (cs : List Value) (t : TypeId) (d : TypeDesc) (hx : a.eval x = .pointer (some ⟨g, 0, none⟩))
    (hc : Cw w g cs t) (hu : Tryz.prog.underlying ty = some d) (hd : d.isRow = true) (hi : Hid ((Tryz.prog.info? ty).map (·.size) = some cs.length))
    (h : wpList Tryz.prog ops Q rest (a.put o.dst (.agg cs.toArray)) w) : wpList Tryz.prog ops Q (o :: rest) a w :=
  BigFrame.wpList_want hw fun _ hK => wp_load_mid ty x ho g 0 hx cs d hc.range hu hd hi.out (hK _ _ h)
theorem wpList_build_rowG (hw : Region.wanted o (yielded ops a.tmps) = true) (t : TypeId) (parts : Array (Nat × Operand)) (ho : o.op = .build t parts) (cs : List Value) (ps : List (Nat × Value)) (hp : parts.toList.map (fun (i, x) => (i, a.eval x)) = ps)
    (hb : Tryz.prog.built t ps = some cs.toArray)
    (h : wpList Tryz.prog ops Q rest (a.put o.dst (.agg cs.toArray)) w) : wpList Tryz.prog ops Q (o :: rest) a w :=
  BigFrame.wpList_want hw fun _ hK => wp_build t parts ho (by rw [Array.toList_map, hp, hb]; rfl) (by rw [Array.toList_map, hp, hb]; exact hK _ _ h)
end
end Go.Proofs.YtlknolbfhfcflaaGreat
end

section
/-
  What the laws know by heart: known.
-/
namespace Go.Proofs.YtlknolbfhfcflaaGreat
open Go.RowKit
def kcode : List Ii := [(2, 0), (16, 0), (4, 0), (3, 0)]
def kst (f a : Int) : Sp := ⟨f, [a, 0, 0, 0, 0, 0, 0, 0, 0, 0, 0, 0, 0, 0, 0, 0], 1, false, 0⟩
theorem kn1 : stepF kcode 9 9 (startS 1) 3 0 = (kst 1 3, 0) := by rfl
theorem kn2 : stepF kcode 9 9 (kst 1 3) 3 0 = (kst 2 6, 0) := by rfl
theorem kst_wf (f a : Int) (ha : In32 a) : (kst f a).Wf := ⟨rfl, by intro x hx; simp only [kst, List.mem_cons, List.not_mem_nil, or_false, or_self] at hx; rcases hx with rfl | rfl; exact ha; exact zero_in, by show (0 : Int) ≤ 1 ∧ (1 : Int) < 4294967296; omega⟩
set_option maxRecDepth 20000 in
set_option maxHeartbeats 4000000 in
theorem known_any (w : World) : Calls Tryz.prog 11 #[] w fun e w' => e = .returned (.bool true) ∧ Below w.heap.size w w' := by
  have w0 : (startS 1).Wf := startS_wf 1 (by omega)
  have w1 : (kst 1 3).Wf := kst_wf 1 3 ⟨by omega, by omega⟩
  have w2 : (kst 2 6).Wf := kst_wf 2 6 ⟨by omega, by omega⟩
  have ST : ∀ W, Calls Tryz.prog 29 #[.int .u32 1] W fun e w' => e = .returned (.agg (stV (startS 1)).toArray) ∧ Below W.heap.size W w' := fun W => Start_any 1 W
  have SP1 : Hid (∀ W N G cv, Kn w W N G cv 9 9 kcode → Calls Tryz.prog 28 #[.agg #[cv, .int .i64 9, .int .i64 9], .agg (stV (startS 1)).toArray, .agg #[.int .u16 3, .int .u16 0]] W fun r w' => r = .returned (.tuple #[.agg (stV (kst 1 3)).toArray, .int .i64 0]) ∧ Below W.heap.size W w') := fun W N G cv h => h.step _ _ _ _ _ w0 (by omega) (by omega) kn1
  have SP2 : Hid (∀ W N G cv, Kn w W N G cv 9 9 kcode → Calls Tryz.prog 28 #[.agg #[cv, .int .i64 9, .int .i64 9], .agg (stV (kst 1 3)).toArray, .agg #[.int .u16 3, .int .u16 0]] W fun r w' => r = .returned (.tuple #[.agg (stV (kst 2 6)).toArray, .int .i64 0]) ∧ Below W.heap.size W w') := fun W N G cv h => h.step _ _ _ _ _ w1 (by omega) (by omega) kn2
  have L1 := st_len w1
  have L2 := st_len w2
  have O1 := st_one w1
  have O2 := st_one w2
  have Z1 := st_size w1
  have C2 := hid_into (stV_c w2)
  have HZ : Hid ((Tryz.prog.info? 25).bind (·.zero) = some (.agg zeroS.toArray)) := Tryz.zero25
  have ZS := zeroS_size
  clear w0 w1 w2
  generalize hss : stV (startS 1) = ss at ST SP1
  clear hss
  have hl1 : (stV (kst 1 3)).length = 20 := rfl
  generalize hs1 : stV (kst 1 3) = s1 at SP1 SP2 L1 O1 Z1 hl1
  clear hs1
  generalize hs2 : stV (kst 2 6) = s2 at SP2 L2 O2 C2
  clear hs2
  go_enter Tryz.func11, Tryz.ntmps11
  go_upto_region 2 with fail
  have H : Hid (Kn w (((w.alloc (.cells (cells2 kcode).toArray 56)).alloc (.cells #[.slice (some ⟨w.heap.size, 0, none⟩) 4 4, .int .i64 9, .int .i64 9] 59))) (w.heap.size + 2) (w.heap.size + 1) (.slice (some ⟨w.heap.size, 0, none⟩) 4 4) 9 9 kcode) := by
    have hc : Cw (w.alloc (.cells (cells2 kcode).toArray 56)) w.heap.size (cells2 kcode) 56 := Cw.new _ _ _
    have hg := Cw.new (w.alloc (.cells (cells2 kcode).toArray 56)) [.slice (some ⟨w.heap.size, 0, none⟩) 4 4, .int .i64 9, .int .i64 9] 59
    rw [World.size_alloc] at hg
    refine ⟨hg.keep rfl, (Ls_of_block (hc.alloc _) (by decide)).keep fun k _ _ => rfl, (((Below.refl w.heap.size w).alloc (Nat.le_refl _) _).alloc (by rw [World.size_alloc]; omega) _), by omega, by omega, ?_, ?_⟩
    · intro k hk
      have : w.heap.size = k := by simpa [Value.ownBlock] using hk
      omega
    · show w.heap.size + 2 ≤ ((w.alloc _).alloc _).heap.size
      rw [World.size_alloc, World.size_alloc]; omega
  have hA : (w.alloc (.cells (cells2 kcode).toArray 56)).alloc (.cells #[.slice (some ⟨w.heap.size, 0, none⟩) 4 4, .int .i64 9, .int .i64 9] 59) = (w.alloc (.cells #[.int .i64 2, .int .i64 0, .int .i64 16, .int .i64 0, .int .i64 4, .int .i64 0, .int .i64 3, .int .i64 0] 56)).alloc (.cells #[.slice (some ⟨w.heap.size, 0, none⟩) 4 4, .int .i64 9, .int .i64 9] 59) := rfl
  rw [hA] at H
  clear hA
  generalize (w.alloc (.cells #[.int .i64 2, .int .i64 0, .int .i64 16, .int .i64 0, .int .i64 4, .int .i64 0, .int .i64 3, .int .i64 0] 56)).alloc (.cells #[.slice (some ⟨w.heap.size, 0, none⟩) 4 4, .int .i64 9, .int .i64 9] 59) = W0 at H ⊢
  replace H := hid_into (H.out.sm (W' := W0.drew) ⟨rfl, rfl, rfl, rfl⟩)
  generalize (Value.slice (some ⟨w.heap.size, 0, none⟩) 4 4) = cv at H ⊢
  go_cut [2, 3] (fun pv ev wx => ∃ b, pv = .pointer (some ⟨b, 0, none⟩) ∧ ev = .int .i64 0 ∧ w.heap.size + 2 ≤ b ∧ Cw wx b s1 25 ∧ Kn w wx (w.heap.size + 2) (w.heap.size + 1) cv 9 9 kcode)
  case first =>
    have hS := H.out.s
    go_region_held3 (fun V => V.cell? ⟨w.heap.size + 1, 0, none⟩ = some cv ∧ V.cell? ⟨w.heap.size + 1, 1, none⟩ = some (.int .i64 9) ∧ V.cell? ⟨w.heap.size + 1, 2, none⟩ = some (.int .i64 9)) (first | exact hS | exact H.out.s | exact (H.out.next ((Below.refl _ _).alloc (Nat.le_refl _) _)).s)
      (first
        | (go_at_call 29; refine (ST _).mono ?_; rintro e wa ⟨rfl, Ba⟩; (first | (replace H := hid_into (H.out.next Ba)) | (obtain ⟨hr, hb, H1⟩ := Kn.alloc1 H.out Ba; clear H; have H := hid_into H1.out; clear H1)); clear Ba)
        | (go_at_call 28; (first | refine (SP1.out _ _ _ _ H.out).mono ?_ | refine (SP1.out _ _ _ _ (H.out.next ((Below.refl _ _).alloc (Nat.le_refl _) _))).mono ?_); rintro e wb ⟨rfl, Bb⟩; (first | (replace hr := hid_into (hr.out.below Bb hr.out.lt); replace H := hid_into (H.out.next Bb)) | (replace H := hid_into (H.out.next Bb)) | (obtain ⟨hr, hb, H1⟩ := Kn.alloc2 H.out Bb; clear H; have H := hid_into H1.out; clear H1)); clear Bb)
        | (refine upon_store (t := 25) hr.out L1 O1 ?_; intro wd hd Od; replace H := hid_into (H.out.only Od hb.out); clear Od)
        | (refine upon_store (cs := zeroS) (t := 25) (Cw.new _ _ _) L1 O1 ?_; intro wd hd Od; have hb := hid_into H.out.size; replace H := hid_into ((H.out.next ((Below.refl _ _).alloc (Nat.le_refl _) _)).only Od hb.out); clear Od))
    all_goals
      go_wp2_with fail
      go_meet
      exact ⟨_, rfl, rfl, hb.out, hd.keep rfl, H.out.sm ⟨rfl, rfl, rfl, rfl⟩⟩
  case rest =>
    obtain ⟨b, rfl, rfl, hb, hd, hK⟩ := hcut
    have H2 := hid_into hK
    have hd2 := hid_into hd
    have g0 := hK.s.1
    have g1 := hK.s.2.1
    have g2 := hK.s.2.2
    clear hK hd
    go_wp2_with (first
      | (refine wpList_load_rw rfl 25 (.tmp 2) rfl b s1 25 _ rfl ?_ Tryz.underlying25 rfl Z1 ?_; exact hd2.out)
      | (go_at_call 28; refine (SP2.out _ _ _ _ H2.out).mono ?_; rintro e wb ⟨rfl, Bb⟩; replace H2 := hid_into (H2.out.next Bb); clear Bb)
      | (refine wpList_alloc_row rfl 25 rfl zeroS HZ.out ?_; intro W5 hr5 B5 _; have hz5 := hid_into H2.out.size; replace H2 := hid_into (H2.out.next B5))
      | (refine wpList_store_rw rfl 25 (.tmp 4) (.tmp 24) rfl wb.heap.size zeroS s2 25 rfl rfl ?_ ZS L2 O2.out ?_; exact hr5; intro W6 hr6 O6; replace H2 := hid_into (H2.out.only O6 hz5.out); have t0 := (hr6.cell 0).trans C2.out.frame; have t1 := (hr6.cell 1).trans (C2.out.cell 0 (by omega)); have t2 := (hr6.cell 18).trans C2.out.over; simp only [kst, List.getD_cons_zero] at t0 t1 t2))
    go_ret
    exact ⟨rfl, H2.out.below⟩
end Go.Proofs.YtlknolbfhfcflaaGreat
end
