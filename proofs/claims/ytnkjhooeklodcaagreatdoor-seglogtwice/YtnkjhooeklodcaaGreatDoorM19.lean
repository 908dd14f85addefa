/-
  Joined from: Row.
-/
import Derived.Test.YtnkjhooeklodcaaGreatDoorM12
import Derived.Great.BuildSlice
import Derived.Great.Walk
section
/-
  Laws for arrays as the walk meets them: a new array, one that is stored, loaded, boxed; what only one block's change leaves. 
-/
namespace Go.Proofs.YtnkjhooeklodcaaGreatDoor
open Go.RowKit

structure Only (g : Nat) (w w' : World) : Prop where
  os : w'.os = w.os
  tape : w'.tape = w.tape
  output : w'.output = w.output
  size : w'.heap.size = w.heap.size
  block : ∀ k, k ≠ g → w'.heap[k]? = w.heap[k]?
theorem Only.refl (g : Nat) (w : World) : Only g w w := ⟨rfl, rfl, rfl, rfl, fun _ _ => rfl⟩
theorem Only.trans {g : Nat} {a b c : World} (h : Only g a b) (k : Only g b c) : Only g a c := ⟨k.os.trans h.os, k.tape.trans h.tape, k.output.trans h.output, k.size.trans h.size, fun i hi => (k.block i hi).trans (h.block i hi)⟩
theorem Only.set (g i : Nat) (w : World) (v : Value) : Only g w (w.setCell ⟨g, i, none⟩ v) := ⟨rfl, rfl, rfl, by simp [World.setCell], fun _ hk => Below.heap_setCell _ _ _ _ hk⟩
theorem Only.sets (g o : Nat) (w : World) (ds : List Value) : Only g w (w.setCells g o ds) :=
  have h := setCells_rest g ds o w
  ⟨h.1, h.2.1, h.2.2.1, h.2.2.2, fun _ hk => setCells_other g _ hk ds o w⟩
theorem Only.below {g B : Nat} {w w' : World} (h : Only g w w') (hg : B ≤ g) : Below B w w' := ⟨h.os, h.tape, h.output, by rw [h.size]; exact Nat.le_refl _, fun k hk => h.block k (by omega)⟩
theorem Only.drew {g : Nat} {w w' : World} (h : Only g w w') : Only g w w'.drew := ⟨h.os, h.tape, h.output, h.size, h.block⟩
theorem Only.drewN {g : Nat} {w w' : World} (h : Only g w w') (n : Nat) : Only g w (w'.drewN n) := ⟨h.os, h.tape, h.output, h.size, h.block⟩
theorem Only.cw {g k : Nat} {w w' : World} {cs : List Value} {t : TypeId} (h : Only g w w') (hc : Cw w k cs t) (hk : k ≠ g) : Cw w' k cs t := hc.keep (h.block k hk)
theorem Only.bs {g : Nat} {w w' : World} {v : Value} {zs : List Int} (h : Only g w w') (hb : Bs w v zs) (hv : v.ownBlock ≠ some g) : Bs w' v zs := hb.keep fun k hk _ => h.block k (fun e => hv (by rw [hk, e]))
theorem Only.sm {g : Nat} {w w' : World} (h : Sm w w') : Only g w w' := ⟨h.os, h.tape, h.output, h.size, fun _ _ => by rw [h.heap]⟩

section
variable {ops : Array Oper} {rest : List Oper} {o : Oper} {a : Act} {w : World} {Q : Exit → Act → World → Prop}
theorem wpList_alloc_row (hg : o.guard = none) (ty : TypeId) (ho : o.op = .alloc ty) (cs : List Value) (hz : (Tryz.prog.info? ty).bind (·.zero) = some (.agg cs.toArray))
    (h : ∀ W, Cw W w.heap.size cs ty → Below w.heap.size w W → Hid (W.heap.size = w.heap.size + 1) → wpList Tryz.prog ops Q rest (a.put o.dst (.pointer (some ⟨w.heap.size, 0, none⟩))) W) : wpList Tryz.prog ops Q (o :: rest) a w := by
  cases hi : Tryz.prog.info? ty with
  | none => rw [hi] at hz; cases hz
  | some i =>
    have hz' : i.zero = some (.agg cs.toArray) := by rw [hi] at hz; exact hz
    refine wpList_plain hg fun _ hK => ?_
    unfold Oper.wp execOp
    simp only [ho, Sem.run_bind, Instr.alloc, zeroValue, typeInfo, hi, hz', newVar, newRow, run_newObj_alloc, Sem.run_pure, Result.andThen_ok, run_program]
    exact hK _ _ (h _ (Cw.new w cs ty) ((Below.refl _ _).alloc (Nat.le_refl _) _) (World.size_alloc _ _))
theorem wpList_box_row (hg : o.guard = none) (ty : TypeId) (x : Operand) (ho : o.op = .box ty x) (cs : List Value) (hx : a.eval x = .agg cs.toArray)
    (h : ∀ W, Cw W w.heap.size cs ty → Below w.heap.size w W → Hid (W.heap.size = w.heap.size + 1) → wpList Tryz.prog ops Q rest (a.put o.dst (.pointer (some ⟨w.heap.size, 0, none⟩))) W) : wpList Tryz.prog ops Q (o :: rest) a w := by
  refine Great.wpList_boxTo hg ty x ho o.dst rfl w.heap.size rfl cs.toArray (by rw [hx]; rfl) ?_
  exact h _ (Cw.new w cs ty) ((Below.refl _ _).alloc (Nat.le_refl _) _) (World.size_alloc _ _)
theorem wpList_store_rw (hg : o.guard = none) (ty : TypeId) (x y : Operand) (ho : o.op = .store ty x y) (g : Nat) (cs ds : List Value) (t : TypeId) (hx : a.eval x = .pointer (some ⟨g, 0, none⟩)) (hy : a.eval y = .agg ds.toArray)
    (hc : Cw w g cs t) (hi : Hid ((Tryz.prog.info? ty).map (·.size) = some cs.length)) (hl : Hid (cs.length = ds.length)) (h1 : ∀ v ∈ ds, v.oneCell' = true)
    (h : ∀ W, Cw W g ds t → Only g w W → wpList Tryz.prog ops Q rest (a.put o.dst undef) W) : wpList Tryz.prog ops Q (o :: rest) a w := by
  refine wpList_store_mid hg ty x y ho g 0 ds.toArray hx hy (by rw [List.size_toArray, ← hl.out]; exact hc.there) (by rw [List.size_toArray, ← hl.out]; exact hi.out) (all_oneCell_toArray h1) ?_
  exact h _ (hc.put hl.out) (Only.sets g 0 w ds)
theorem wpList_load_rw (hg : o.guard = none) (ty : TypeId) (x : Operand) (ho : o.op = .load ty x) (g : Nat) (cs : List Value) (t : TypeId) (d : TypeDesc) (hx : a.eval x = .pointer (some ⟨g, 0, none⟩))
    (hc : Cw w g cs t) (hu : Tryz.prog.underlying ty = some d) (hd : d.isRow = true) (hi : Hid ((Tryz.prog.info? ty).map (·.size) = some cs.length))
    (h : wpList Tryz.prog ops Q rest (a.put o.dst (.agg cs.toArray)) w) : wpList Tryz.prog ops Q (o :: rest) a w :=
  wpList_load_mid hg ty x ho g 0 hx cs d hc.range hu hd hi.out h
end

theorem ret_row {f : Func} {a : Act} {g : Nat} {cs : List Value} {t : TypeId} {w : World} {post : Ending → World → Prop} {r : Tmp} {ty : TypeId} {d : TypeDesc} (hf : f.results = #[.cell r ty]) (hr : a.tmps.getD r undef = .pointer (some ⟨g, 0, none⟩)) (hdf : a.defers = [])
    (hc : Cw w g cs t) (hu : Tryz.prog.underlying ty = some d) (hd : d.isRow = true) (hi : Hid ((Tryz.prog.info? ty).map (·.size) = some cs.length)) (h : post (.returned (.agg cs.toArray)) w) : bodyPost Tryz.prog f post .ret a w :=
  bodyPost_ret (results_cell_row hf a.tmps w g t cs.toArray (0, 0) d hr hc hu (by cases d <;> first | rfl | cases hd) (by rw [List.size_toArray]; exact hi.out)) hdf h

end Go.Proofs.YtnkjhooeklodcaaGreatDoor
end
