/-
  Laws for arrays as the walk meets them: a new array, one that is stored, loaded, boxed; what only one block's change leaves. And the two tables of the rounds' numbers.
-/
import Derived.Test.YtkfnmdhhiigceaaDgMem
import Derived.Great.BuildSlice
import Derived.Great.Walk
namespace Go.Proofs.Ytkfnmdhhiigceaa.Dg
open Go.RowKit

/-- Only block g may have changed; no block is new. -/
structure Only (g : Nat) (w w' : World) : Prop where
  os : w'.os = w.os
  tape : w'.tape = w.tape
  output : w'.output = w.output
  size : w'.heap.size = w.heap.size
  block : ∀ k, k ≠ g → w'.heap[k]? = w.heap[k]?
theorem Only.refl (g : Nat) (w : World) : Only g w w := ⟨rfl, rfl, rfl, rfl, fun _ _ => rfl⟩
theorem Only.trans {g : Nat} {a b c : World} (h : Only g a b) (k : Only g b c) : Only g a c := ⟨k.os.trans h.os, k.tape.trans h.tape, k.output.trans h.output, k.size.trans h.size, fun i hi => (k.block i hi).trans (h.block i hi)⟩
theorem Only.set (g i : Nat) (w : World) (v : Value) : Only g w (w.setCell ⟨g, i, none⟩ v) := ⟨rfl, rfl, rfl, by simp [World.setCell], fun _ hk => Below.heap_setCell _ _ _ _ hk⟩
theorem Only.sets (g o : Nat) (w : World) (ds : List Value) : Only g w (w.setCells g o ds) :=
  have h := setCells_rest g ds o w
  ⟨h.1, h.2.1, h.2.2.1, h.2.2.2, fun _ hk => setCells_other g _ hk ds o w⟩
theorem Only.below {g B : Nat} {w w' : World} (h : Only g w w') (hg : B ≤ g) : Below B w w' := ⟨h.os, h.tape, h.output, by rw [h.size]; exact Nat.le_refl _, fun k hk => h.block k (by omega)⟩
theorem Only.drew {g : Nat} {w w' : World} (h : Only g w w') : Only g w w'.drew := ⟨h.os, h.tape, h.output, h.size, h.block⟩
theorem Only.drewN {g : Nat} {w w' : World} (h : Only g w w') (n : Nat) : Only g w (w'.drewN n) := ⟨h.os, h.tape, h.output, h.size, h.block⟩
theorem Only.cw {g k : Nat} {w w' : World} {cs : List Value} {t : TypeId} (h : Only g w w') (hc : Cw w k cs t) (hk : k ≠ g) : Cw w' k cs t := hc.keep (h.block k hk)
theorem Only.bs {g : Nat} {w w' : World} {v : Value} {zs : List Int} (h : Only g w w') (hb : Bs w v zs) (hv : v.ownBlock ≠ some g) : Bs w' v zs := hb.keep fun k hk _ => h.block k (fun e => hv (by rw [hk, e]))
theorem Only.sm {g : Nat} {w w' : World} (h : Sm w w') : Only g w w' := ⟨h.os, h.tape, h.output, h.size, fun _ _ => by rw [h.heap]⟩

section
variable {ops : Array Oper} {rest : List Oper} {o : Oper} {a : Act} {w : World} {Q : Exit → Act → World → Prop}
theorem wpList_alloc_row (hg : o.guard = none) (ty : TypeId) (ho : o.op = .alloc ty) (cs : List Value) (hz : (Try.prog.info? ty).bind (·.zero) = some (.agg cs.toArray))
    (h : ∀ W, Cw W w.heap.size cs ty → Below w.heap.size w W → Hid (W.heap.size = w.heap.size + 1) → wpList Try.prog ops Q rest (a.put o.dst (.pointer (some ⟨w.heap.size, 0, none⟩))) W) : wpList Try.prog ops Q (o :: rest) a w := by
  cases hi : Try.prog.info? ty with
  | none => rw [hi] at hz; cases hz
  | some i =>
    have hz' : i.zero = some (.agg cs.toArray) := by rw [hi] at hz; exact hz
    refine wpList_plain hg fun _ hK => ?_
    unfold Oper.wp execOp
    simp only [ho, Sem.run_bind, Instr.alloc, zeroValue, typeInfo, hi, hz', newVar, newRow, run_newObj_alloc, Sem.run_pure, Result.andThen_ok, run_program]
    exact hK _ _ (h _ (Cw.new w cs ty) ((Below.refl _ _).alloc (Nat.le_refl _) _) (World.size_alloc _ _))
theorem wpList_box_row (hg : o.guard = none) (ty : TypeId) (x : Operand) (ho : o.op = .box ty x) (cs : List Value) (hx : a.eval x = .agg cs.toArray)
    (h : ∀ W, Cw W w.heap.size cs ty → Below w.heap.size w W → Hid (W.heap.size = w.heap.size + 1) → wpList Try.prog ops Q rest (a.put o.dst (.pointer (some ⟨w.heap.size, 0, none⟩))) W) : wpList Try.prog ops Q (o :: rest) a w := by
  refine Great.wpList_boxTo hg ty x ho o.dst rfl w.heap.size rfl cs.toArray (by rw [hx]; rfl) ?_
  exact h _ (Cw.new w cs ty) ((Below.refl _ _).alloc (Nat.le_refl _) _) (World.size_alloc _ _)
theorem wpList_store_rw (hg : o.guard = none) (ty : TypeId) (x y : Operand) (ho : o.op = .store ty x y) (g : Nat) (cs ds : List Value) (t : TypeId) (hx : a.eval x = .pointer (some ⟨g, 0, none⟩)) (hy : a.eval y = .agg ds.toArray)
    (hc : Cw w g cs t) (hi : Hid ((Try.prog.info? ty).map (·.size) = some cs.length)) (hl : Hid (cs.length = ds.length)) (h1 : ∀ v ∈ ds, v.oneCell' = true)
    (h : ∀ W, Cw W g ds t → Only g w W → wpList Try.prog ops Q rest (a.put o.dst undef) W) : wpList Try.prog ops Q (o :: rest) a w := by
  refine wpList_store_mid hg ty x y ho g 0 ds.toArray hx hy (by rw [List.size_toArray, ← hl.out]; exact hc.there) (by rw [List.size_toArray, ← hl.out]; exact hi.out) (all_oneCell_toArray h1) ?_
  exact h _ (hc.put hl.out) (Only.sets g 0 w ds)
theorem wpList_load_rw (hg : o.guard = none) (ty : TypeId) (x : Operand) (ho : o.op = .load ty x) (g : Nat) (cs : List Value) (t : TypeId) (d : TypeDesc) (hx : a.eval x = .pointer (some ⟨g, 0, none⟩))
    (hc : Cw w g cs t) (hu : Try.prog.underlying ty = some d) (hd : d.isRow = true) (hi : Hid ((Try.prog.info? ty).map (·.size) = some cs.length))
    (h : wpList Try.prog ops Q rest (a.put o.dst (.agg cs.toArray)) w) : wpList Try.prog ops Q (o :: rest) a w :=
  wpList_load_mid hg ty x ho g 0 hx cs d hc.range hu hd hi.out h
end

def zeroW (n : Nat) : List Nat := List.replicate n 0
theorem zeroW_len (n : Nat) : (zeroW n).length = n := by simp [zeroW]
def zeroB (n : Nat) : List Int := List.replicate n 0
theorem zeroB_len (n : Nat) : (zeroB n).length = n := by simp [zeroB]
theorem Try.size76 : (Try.prog.info? 76).map (·.size) = some 64 := by kernel_rfl
theorem Try.size71 : (Try.prog.info? 71).map (·.size) = some 64 := by kernel_rfl
theorem Try.size66 : (Try.prog.info? 66).map (·.size) = some 8 := by kernel_rfl
theorem Try.size65 : (Try.prog.info? 65).map (·.size) = some 8 := by kernel_rfl
theorem Try.size48 : (Try.prog.info? 48).map (·.size) = some 32 := by kernel_rfl
theorem Try.size58 : (Try.prog.info? 58).map (·.size) = some 64 := by kernel_rfl
theorem Try.size64 : (Try.prog.info? 64).map (·.size) = some 1 := by kernel_rfl
theorem Try.size5 : (Try.prog.info? 5).map (·.size) = some 1 := by kernel_rfl
theorem Try.zero76 : (Try.prog.info? 76).bind (·.zero) = some (.agg (cellsW (zeroW 64)).toArray) := by kernel_rfl
theorem Try.zero71 : (Try.prog.info? 71).bind (·.zero) = some (.agg (cellsW (zeroW 64)).toArray) := by kernel_rfl
theorem Try.zero66 : (Try.prog.info? 66).bind (·.zero) = some (.agg (cellsW (zeroW 8)).toArray) := by kernel_rfl
theorem Try.zero65 : (Try.prog.info? 65).bind (·.zero) = some (.agg (cellsW (zeroW 8)).toArray) := by kernel_rfl
theorem Try.zero48 : (Try.prog.info? 48).bind (·.zero) = some (.agg (cellsOf (zeroB 32)).toArray) := by kernel_rfl
theorem Try.zero58 : (Try.prog.info? 58).bind (·.zero) = some (.agg (cellsOf (zeroB 64)).toArray) := by kernel_rfl
theorem hsW {ty : TypeId} {n : Nat} {ws : List Nat} (h : (Try.prog.info? ty).map (·.size) = some n) (hl : ws.length = n) : Hid ((Try.prog.info? ty).map (·.size) = some (cellsW ws).length) := by
  show _ = _; rw [cellsW_length, hl]; exact h
theorem hsB {ty : TypeId} {n : Nat} {ws : List Int} (h : (Try.prog.info? ty).map (·.size) = some n) (hl : ws.length = n) : Hid ((Try.prog.info? ty).map (·.size) = some (cellsOf ws).length) := by
  show _ = _; rw [cellsOf_length, hl]; exact h
theorem hlW {xs ys : List Nat} (h : xs.length = ys.length) : Hid ((cellsW xs).length = (cellsW ys).length) := by show _ = _; rw [cellsW_length, cellsW_length, h]
theorem hlB {xs ys : List Int} (h : xs.length = ys.length) : Hid ((cellsOf xs).length = (cellsOf ys).length) := by show _ = _; rw [cellsOf_length, cellsOf_length, h]

def kI : List Int := kN.map fun (x : Nat) => (x : Int)
theorem kI_cells : kI.map (Value.int .u32) = cellsW kN := by simp [kI, cellsW, List.map_map, Function.comp_def]
theorem kI_len : kI.length = 64 := rfl
theorem kN_len : kN.length = 64 := rfl
/-- A row that a result variable holds is what is returned. -/
theorem ret_row {f : Func} {a : Act} {g : Nat} {cs : List Value} {t : TypeId} {w : World} {post : Ending → World → Prop} {r : Tmp} {ty : TypeId} {d : TypeDesc} (hf : f.results = #[.cell r ty]) (hr : a.tmps.getD r undef = .pointer (some ⟨g, 0, none⟩)) (hdf : a.defers = [])
    (hc : Cw w g cs t) (hu : Try.prog.underlying ty = some d) (hd : d.isRow = true) (hi : Hid ((Try.prog.info? ty).map (·.size) = some cs.length)) (h : post (.returned (.agg cs.toArray)) w) : bodyPost Try.prog f post .ret a w :=
  bodyPost_ret (results_cell_row hf a.tmps w g t cs.toArray (0, 0) d hr hc hu (by cases d <;> first | rfl | cases hd) (by rw [List.size_toArray]; exact hi.out)) hdf h

theorem Try.zsize51 : ((Try.prog.info? 76).bind (·.zero)).map (·.cells.size) = some 64 := by kernel_rfl
theorem Try.zsize43 : ((Try.prog.info? 71).bind (·.zero)).map (·.cells.size) = some 64 := by kernel_rfl
theorem rnums (w : World) : Calls Try.prog 41 #[] w fun e w' => e = .returned (.agg (cellsW kN).toArray) ∧ Below w.heap.size w w' := by
  obtain ⟨zs, hzs⟩ : ∃ zs, zs = kI := ⟨_, rfl⟩
  obtain ⟨cs, hcs⟩ : ∃ cs, cs = cellsW kN := ⟨_, rfl⟩
  obtain ⟨os, hos⟩ : ∃ os, os = cellsW (zeroW 64) := ⟨_, rfl⟩
  rw [← hcs]
  have HI : Hid ((Try.prog.info? 76).map (·.size) = some os.length) := by rw [hos]; exact hsW Try.size76 (zeroW_len 64)
  have HI2 : Hid ((Try.prog.info? 76).map (·.size) = some cs.length) := by rw [hcs]; exact hsW Try.size76 kN_len
  have HL : Hid (os.length = cs.length) := by rw [hos, hcs]; exact hlW (by rw [zeroW_len, kN_len])
  have HC : Hid (∀ v ∈ cs, v.oneCell' = true) := by rw [hcs]; exact cellsW_one kN
  have HO : Hid ((Try.prog.info? 76).bind (·.zero) = some (.agg os.toArray)) := by rw [hos]; exact Try.zero76
  have HE : Hid (zs.map (Value.int .u32) = cs) := by show _ = _; rw [hzs, hcs, kI_cells]
  have HZ : Hid (zs = kI) := hzs
  clear hzs hcs hos
  go_enter Try.func41, Try.ntmps41
  refine wp_seq (wp_region_lit (wpList_alloc_row rfl 76 rfl os HO.out ?_))
  intro W1 hc1 B1 HS1
  refine wpList_nil ?_
  refine wp_seq (wp_region_lit ?_)
  refine wpList_buildFlatArr rfl 76 64 64 _ rfl .u32 zs Try.underlying76 Try.size64 (by rw [HZ.out]; exact Try.zsize51) (by rw [HZ.out]; kernel_rfl) ?_
  rw [HE.out]
  refine wpList_store_rw rfl 76 (.tmp 0) (.tmp 1) rfl w.heap.size os cs 76 rfl rfl hc1 HI HL HC.out ?_
  intro W2 hc2 O2
  refine wpList_nil ?_
  refine wp_ret ?_
  exact ret_row rfl rfl rfl hc2 Try.underlying76 rfl HI2 ⟨rfl, B1.trans (O2.below (Nat.le_refl _))⟩
theorem k_any (w : World) : Calls Try.prog 38 #[] w fun e w' => e = .returned (.agg (cellsW kN).toArray) ∧ Below w.heap.size w w' := by
  obtain ⟨zs, hzs⟩ : ∃ zs, zs = kI := ⟨_, rfl⟩
  obtain ⟨cs, hcs⟩ : ∃ cs, cs = cellsW kN := ⟨_, rfl⟩
  obtain ⟨os, hos⟩ : ∃ os, os = cellsW (zeroW 64) := ⟨_, rfl⟩
  rw [← hcs]
  have HI : Hid ((Try.prog.info? 71).map (·.size) = some os.length) := by rw [hos]; exact hsW Try.size71 (zeroW_len 64)
  have HI2 : Hid ((Try.prog.info? 71).map (·.size) = some cs.length) := by rw [hcs]; exact hsW Try.size71 kN_len
  have HL : Hid (os.length = cs.length) := by rw [hos, hcs]; exact hlW (by rw [zeroW_len, kN_len])
  have HC : Hid (∀ v ∈ cs, v.oneCell' = true) := by rw [hcs]; exact cellsW_one kN
  have HO : Hid ((Try.prog.info? 71).bind (·.zero) = some (.agg os.toArray)) := by rw [hos]; exact Try.zero71
  have HE : Hid (zs.map (Value.int .u32) = cs) := by show _ = _; rw [hzs, hcs, kI_cells]
  have HZ : Hid (zs = kI) := hzs
  clear hzs hcs hos
  go_enter Try.func38, Try.ntmps38
  refine wp_seq (wp_region_lit (wpList_alloc_row rfl 71 rfl os HO.out ?_))
  intro W1 hc1 B1 HS1
  refine wpList_nil ?_
  refine wp_seq (wp_region_lit ?_)
  refine wpList_buildFlatArr rfl 71 64 64 _ rfl .u32 zs Try.underlying71 Try.size64 (by rw [HZ.out]; exact Try.zsize43) (by rw [HZ.out]; kernel_rfl) ?_
  rw [HE.out]
  refine wpList_store_rw rfl 71 (.tmp 0) (.tmp 1) rfl w.heap.size os cs 71 rfl rfl hc1 HI HL HC.out ?_
  intro W2 hc2 O2
  refine wpList_nil ?_
  refine wp_ret ?_
  exact ret_row rfl rfl rfl hc2 Try.underlying71 rfl HI2 ⟨rfl, B1.trans (O2.below (Nat.le_refl _))⟩
end Go.Proofs.Ytkfnmdhhiigceaa.Dg
