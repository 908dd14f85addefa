/-
  Words for memory: a block of cells (Cw), the memory as it was (Sm), one block's change (Only), what a step leaves of all else (Grows).
-/
import Derived.Test.YtkchdkcdkeajkaaProg
import Derived.WalkKit
import Derived.Maps.AppendAt
import Derived.Deep.AppendLies
import Derived.Lib.SliceRun
import Derived.Deep.QuietTactic
import Derived.BigQuiet
import Derived.Deep.MidRow
import Derived.Laws.StructEq
import Derived.Great.BuildSlice
namespace Go.Proofs.Ytkchdkcdkeajkaa
open Go.RowKit

theorem hid_into {p : Prop} (h : p) : Hid p := h

theorem setCells_other (b k : Nat) (hk : k ≠ b) : ∀ (vs : List Value) (o : Nat) (w : World), (w.setCells b o vs).heap[k]? = w.heap[k]?
  | [], _, _ => rfl
  | v :: vs, o, w => by
    show ((w.setCell ⟨b, o, none⟩ v).setCells b (o + 1) vs).heap[k]? = _
    rw [setCells_other b k hk vs (o + 1) _, Below.heap_setCell _ _ _ _ hk]
theorem setCells_same (b : Nat) (t : TypeId) : ∀ (vs pre old : List Value) (w : World), w.heap[b]? = some (.cells (pre ++ old).toArray t (0, 0)) → old.length = vs.length → (w.setCells b pre.length vs).heap[b]? = some (.cells (pre ++ vs).toArray t (0, 0))
  | [], pre, old, w, h, hl => by
    have : old = [] := List.eq_nil_of_length_eq_zero hl
    subst this
    exact h
  | v :: vs, pre, [], w, h, hl => by simp at hl
  | v :: vs, pre, u :: old, w, h, hl => by
    have h1 : (w.setCell ⟨b, pre.length, none⟩ v).heap[b]? = some (.cells ((pre ++ [v]) ++ old).toArray t (0, 0)) := by
      simp only [World.setCell, Array.getElem?_modify, h]
      simp
    have h2 := setCells_same b t vs (pre ++ [v]) old _ h1 (by simpa using hl)
    show ((w.setCell ⟨b, pre.length, none⟩ v).setCells b (pre.length + 1) vs).heap[b]? = _
    simpa using h2
theorem setCells_rest (b : Nat) : ∀ (vs : List Value) (o : Nat) (w : World), (w.setCells b o vs).os = w.os ∧ (w.setCells b o vs).tape = w.tape ∧ (w.setCells b o vs).output = w.output ∧ (w.setCells b o vs).heap.size = w.heap.size
  | [], _, _ => ⟨rfl, rfl, rfl, rfl⟩
  | v :: vs, o, w => by
    have h := setCells_rest b vs (o + 1) (w.setCell ⟨b, o, none⟩ v)
    exact ⟨h.1, h.2.1, h.2.2.1, h.2.2.2.trans (by simp [World.setCell])⟩


/-- Block g is a row of cells. -/
def Cw (w : World) (g : Nat) (cs : List Value) (t : TypeId) : Prop := w.heap[g]? = some (.cells cs.toArray t (0, 0))
theorem Cw.lt {w : World} {g : Nat} {cs : List Value} {t : TypeId} (h : Cw w g cs t) : g < w.heap.size := (Array.getElem?_eq_some_iff.1 h).1
theorem Cw.cell {w : World} {g : Nat} {cs : List Value} {t : TypeId} (h : Cw w g cs t) (i : Nat) : w.cell? ⟨g, i, none⟩ = cs[i]? := by
  rw [cell_of_row w g i _ _ _ h]; simp
theorem Cw.frozen {w : World} {g : Nat} {cs : List Value} {t : TypeId} (h : Cw w g cs t) (i : Nat) : w.frozen? ⟨g, i, none⟩ = false := by
  simp only [World.frozen?, show w.heap[g]? = _ from h]; simp
theorem Cw.set {w : World} {g : Nat} {cs : List Value} {t : TypeId} (h : Cw w g cs t) (i : Nat) (x : Value) : Cw (w.setCell ⟨g, i, none⟩ x) g (cs.set i x) t := by
  have h' : w.heap[g]? = some (.cells cs.toArray t (0, 0)) := h
  simp only [Cw, World.setCell, Array.getElem?_modify, h']
  simp
theorem Cw.range {w : World} {g : Nat} {cs : List Value} {t : TypeId} (h : Cw w g cs t) : w.rangeAt g 0 cs := by
  intro j u hu
  rw [Nat.zero_add, h.cell]; exact hu
theorem Cw.there {w : World} {g : Nat} {cs : List Value} {t : TypeId} (h : Cw w g cs t) : w.there g 0 cs.length := by
  intro j hj
  rw [Nat.zero_add, h.cell, h.frozen]
  simp [hj]
theorem Cw.put {w : World} {g : Nat} {cs ds : List Value} {t : TypeId} (h : Cw w g cs t) (hl : cs.length = ds.length) : Cw (w.setCells g 0 ds) g ds t :=
  setCells_same g t ds [] cs w h hl
theorem Cw.new (w : World) (cs : List Value) (t : TypeId) : Cw (w.alloc (.cells cs.toArray t)) w.heap.size cs t := heap_alloc_new w _
theorem Cw.keep {w w' : World} {g : Nat} {cs : List Value} {t : TypeId} (h : Cw w g cs t) (hk : w'.heap[g]? = w.heap[g]?) : Cw w' g cs t := hk.trans h
theorem Cw.alloc {w : World} {g : Nat} {cs : List Value} {t : TypeId} (h : Cw w g cs t) (b : Obj) : Cw (w.alloc b) g cs t := h.keep (Below.heap_alloc _ _ _ h.lt)
theorem Cw.below {w w' : World} {g : Nat} {cs : List Value} {t : TypeId} (h : Cw w g cs t) {B : Nat} (hb : Below B w w') (hg : g < B) : Cw w' g cs t := h.keep (hb.block g hg)
theorem Cw.other {w : World} {g : Nat} {cs : List Value} {t : TypeId} (h : Cw w g cs t) (b o : Nat) (ds : List Value) (hg : g ≠ b) : Cw (w.setCells b o ds) g cs t := h.keep (setCells_other b g hg _ _ _)


/-- A store of a whole row into the row of block g. -/
theorem setCells_below {w0 w : World} {B g : Nat} (hb : Below B w0 w) (hg : B ≤ g) (ds : List Value) : Below B w0 (w.setCells g 0 ds) := by
  have h := setCells_rest g ds 0 w
  exact ⟨h.1.trans hb.os, h.2.1.trans hb.tape, h.2.2.1.trans hb.output, by rw [h.2.2.2]; exact hb.size, fun k hk => (setCells_other g k (by omega) ds 0 w).trans (hb.block k hk)⟩


/-- The memory is as it was (orders may have been drawn). -/
structure Sm (w w' : World) : Prop where
  os : w'.os = w.os
  tape : w'.tape = w.tape
  output : w'.output = w.output
  heap : w'.heap = w.heap
theorem Sm.refl (w : World) : Sm w w := ⟨rfl, rfl, rfl, rfl⟩
theorem Sm.trans {a b c : World} (h : Sm a b) (k : Sm b c) : Sm a c := ⟨k.os.trans h.os, k.tape.trans h.tape, k.output.trans h.output, k.heap.trans h.heap⟩
theorem Sm.drewN (w : World) (n : Nat) : Sm w (w.drewN n) := ⟨rfl, rfl, rfl, rfl⟩
theorem Sm.below {w w' : World} (h : Sm w w') (B : Nat) : Below B w w' := ⟨h.os, h.tape, h.output, by rw [h.heap]; exact Nat.le_refl _, fun k _ => by rw [h.heap]⟩
theorem Sm.cw {w w' : World} (h : Sm w w') {g : Nat} {cs : List Value} {t : TypeId} (hb : Cw w g cs t) : Cw w' g cs t := hb.keep (by rw [h.heap])
theorem Sm.size {w w' : World} (h : Sm w w') : w'.heap.size = w.heap.size := by rw [h.heap]


/-- Only block g may have changed; no block is new. -/
structure Only (g : Nat) (w w' : World) : Prop where
  os : w'.os = w.os
  tape : w'.tape = w.tape
  output : w'.output = w.output
  size : w'.heap.size = w.heap.size
  block : ∀ k, k ≠ g → w'.heap[k]? = w.heap[k]?
theorem Only.refl (g : Nat) (w : World) : Only g w w := ⟨rfl, rfl, rfl, rfl, fun _ _ => rfl⟩
theorem Only.trans {g : Nat} {a b c : World} (h : Only g a b) (k : Only g b c) : Only g a c := ⟨k.os.trans h.os, k.tape.trans h.tape, k.output.trans h.output, k.size.trans h.size, fun i hi => (k.block i hi).trans (h.block i hi)⟩
theorem Only.set (g i : Nat) (w : World) (v : Value) : Only g w (w.setCell ⟨g, i, none⟩ v) := ⟨rfl, rfl, rfl, by simp [World.setCell], fun _ hk => Below.heap_setCell _ _ _ _ hk⟩
theorem Only.sets (g o : Nat) (w : World) (ds : List Value) : Only g w (w.setCells g o ds) :=
  have h := setCells_rest g ds o w
  ⟨h.1, h.2.1, h.2.2.1, h.2.2.2, fun _ hk => setCells_other g _ hk ds o w⟩
theorem Only.below {g B : Nat} {w w' : World} (h : Only g w w') (hg : B ≤ g) : Below B w w' := ⟨h.os, h.tape, h.output, by rw [h.size]; exact Nat.le_refl _, fun k hk => h.block k (by omega)⟩
theorem Only.drew {g : Nat} {w w' : World} (h : Only g w w') : Only g w w'.drew := ⟨h.os, h.tape, h.output, h.size, h.block⟩
theorem Only.drewN {g : Nat} {w w' : World} (h : Only g w w') (n : Nat) : Only g w (w'.drewN n) := ⟨h.os, h.tape, h.output, h.size, h.block⟩
theorem Only.cw {g k : Nat} {w w' : World} {cs : List Value} {t : TypeId} (h : Only g w w') (hc : Cw w k cs t) (hk : k ≠ g) : Cw w' k cs t := hc.keep (h.block k hk)
theorem Only.sm {g : Nat} {w w' : World} (h : Sm w w') : Only g w w' := ⟨h.os, h.tape, h.output, h.size, fun _ _ => by rw [h.heap]⟩

section
variable {ops : Array Oper} {rest : List Oper} {o : Oper} {a : Act} {w : World} {Q : Exit → Act → World → Prop}
theorem wpList_alloc_row (hg : o.guard = none) (ty : TypeId) (ho : o.op = .alloc ty) (cs : List Value) (hz : (Try.prog.info? ty).bind (·.zero) = some (.agg cs.toArray))
    (h : ∀ W, Cw W w.heap.size cs ty → Below w.heap.size w W → Hid (W.heap.size = w.heap.size + 1) → wpList Try.prog ops Q rest (a.put o.dst (.pointer (some ⟨w.heap.size, 0, none⟩))) W) : wpList Try.prog ops Q (o :: rest) a w := by
  cases hi : Try.prog.info? ty with
  | none => rw [hi] at hz; cases hz
  | some i =>
    have hz' : i.zero = some (.agg cs.toArray) := by rw [hi] at hz; exact hz
    refine wpList_plain hg fun _ hK => ?_
    unfold Oper.wp execOp
    simp only [ho, Sem.run_bind, Instr.alloc, zeroValue, typeInfo, hi, hz', newVar, newRow, run_newObj_alloc, Sem.run_pure, Result.andThen_ok, run_program]
    exact hK _ _ (h _ (Cw.new w cs ty) ((Below.refl _ _).alloc (Nat.le_refl _) _) (World.size_alloc _ _))
theorem wpList_box_row (hg : o.guard = none) (ty : TypeId) (x : Operand) (ho : o.op = .box ty x) (cs : List Value) (hx : a.eval x = .agg cs.toArray)
    (h : ∀ W, Cw W w.heap.size cs ty → Below w.heap.size w W → Hid (W.heap.size = w.heap.size + 1) → wpList Try.prog ops Q rest (a.put o.dst (.pointer (some ⟨w.heap.size, 0, none⟩))) W) : wpList Try.prog ops Q (o :: rest) a w := by
  refine wpList_plain hg fun _ hK => ?_
  unfold Oper.wp execOp
  simp only [ho, hx, Sem.run_bind, Instr.box, newVar, newRow, run_newObj_alloc, Sem.run_pure, Result.andThen_ok]
  refine hK _ _ ?_
  exact h _ (Cw.new w cs ty) ((Below.refl _ _).alloc (Nat.le_refl _) _) (World.size_alloc _ _)
theorem wpList_store_rw (hg : o.guard = none) (ty : TypeId) (x y : Operand) (ho : o.op = .store ty x y) (g : Nat) (cs ds : List Value) (t : TypeId) (hx : a.eval x = .pointer (some ⟨g, 0, none⟩)) (hy : a.eval y = .agg ds.toArray)
    (hc : Cw w g cs t) (hi : Hid ((Try.prog.info? ty).map (·.size) = some cs.length)) (hl : Hid (cs.length = ds.length)) (h1 : ∀ v ∈ ds, v.oneCell' = true)
    (h : ∀ W, Cw W g ds t → Only g w W → wpList Try.prog ops Q rest (a.put o.dst undef) W) : wpList Try.prog ops Q (o :: rest) a w := by
  refine wpList_store_mid hg ty x y ho g 0 ds.toArray hx hy (by rw [List.size_toArray, ← hl.out]; exact hc.there) (by rw [List.size_toArray, ← hl.out]; exact hi.out) (all_oneCell_toArray h1) ?_
  exact h _ (hc.put hl.out) (Only.sets g 0 w ds)
theorem wpList_load_rw (hg : o.guard = none) (ty : TypeId) (x : Operand) (ho : o.op = .load ty x) (g : Nat) (cs : List Value) (t : TypeId) (d : TypeDesc) (hx : a.eval x = .pointer (some ⟨g, 0, none⟩))
    (hc : Cw w g cs t) (hu : Try.prog.underlying ty = some d) (hd : d.isRow = true) (hi : Hid ((Try.prog.info? ty).map (·.size) = some cs.length))
    (h : wpList Try.prog ops Q rest (a.put o.dst (.agg cs.toArray)) w) : wpList Try.prog ops Q (o :: rest) a w :=
  wpList_load_mid hg ty x ho g 0 hx cs d hc.range hu hd hi.out h
end

/-- A row that a result variable holds is what is returned. -/
theorem ret_row {f : Func} {a : Act} {g : Nat} {cs : List Value} {t : TypeId} {w : World} {post : Ending → World → Prop} {r : Tmp} {ty : TypeId} {d : TypeDesc} (hf : f.results = #[.cell r ty]) (hr : a.tmps.getD r undef = .pointer (some ⟨g, 0, none⟩)) (hdf : a.defers = [])
    (hc : Cw w g cs t) (hu : Try.prog.underlying ty = some d) (hd : d.isRow = true) (hi : Hid ((Try.prog.info? ty).map (·.size) = some cs.length)) (h : post (.returned (.agg cs.toArray)) w) : bodyPost Try.prog f post .ret a w :=
  bodyPost_ret (results_cell_row hf a.tmps w g t cs.toArray (0, 0) d hr hc hu (by cases d <;> first | rfl | cases hd) (by rw [List.size_toArray]; exact hi.out)) hdf h


/-- The world w' is w but for the blocks of F, and new ones. -/
structure Grows (F : Nat → Prop) (w w' : World) : Prop where
  os : w'.os = w.os
  tape : w'.tape = w.tape
  output : w'.output = w.output
  size : w.heap.size ≤ w'.heap.size
  block : ∀ k, k < w.heap.size → ¬ F k → w'.heap[k]? = w.heap[k]?
theorem Grows.refl (F : Nat → Prop) (w : World) : Grows F w w := ⟨rfl, rfl, rfl, Nat.le_refl _, fun _ _ _ => rfl⟩
theorem Grows.mono {F G : Nat → Prop} {w w' : World} (h : Grows F w w') (hg : ∀ k, F k → G k) : Grows G w w' := ⟨h.os, h.tape, h.output, h.size, fun k hk hn => h.block k hk fun hf => hn (hg k hf)⟩
theorem Grows.trans {F F' : Nat → Prop} {w w' w'' : World} (h : Grows F w w') (h' : Grows F' w' w'') (hn : ∀ k, F' k → F k ∨ w.heap.size ≤ k) : Grows F w w'' :=
  ⟨h'.os.trans h.os, h'.tape.trans h.tape, h'.output.trans h.output, Nat.le_trans h.size h'.size, fun k hk hf => (h'.block k (Nat.lt_of_lt_of_le hk h.size) fun h1 => by rcases hn k h1 with h2 | h2; exact hf h2; omega).trans (h.block k hk hf)⟩
theorem Grows.of_below {w w' : World} {B : Nat} (h : Below B w w') (F : Nat → Prop) (hF : ∀ k, k < w.heap.size → B ≤ k → F k) : Grows F w w' :=
  ⟨h.os, h.tape, h.output, h.size, fun k hk hf => by
    by_cases hb : k < B
    · exact h.block k hb
    · exact absurd (hF k hk (by omega)) hf⟩
theorem Grows.below {F : Nat → Prop} {w w' : World} (h : Grows F w w') {B : Nat} (hB : B ≤ w.heap.size) (hF : ∀ k, F k → B ≤ k) : Below B w w' :=
  ⟨h.os, h.tape, h.output, h.size, fun k hk => h.block k (by omega) fun hf => by have := hF k hf; omega⟩
theorem Grows.alloc (F : Nat → Prop) (w : World) (o : Obj) : Grows F w (w.alloc o) := ⟨rfl, rfl, rfl, by simp, fun k hk _ => Below.heap_alloc _ _ _ hk⟩
theorem Grows.drew (F : Nat → Prop) (w : World) : Grows F w w.drew := ⟨rfl, rfl, rfl, Nat.le_refl _, fun _ _ _ => rfl⟩
theorem Grows.setCell {F : Nat → Prop} (w : World) (a : Addr) (v : Value) (h : F a.block) : Grows F w (w.setCell a v) :=
  ⟨rfl, rfl, rfl, by simp [World.setCell], fun k _ hf => Below.heap_setCell _ _ _ _ fun e => hf (e ▸ h)⟩
theorem Grows.grownBy {F : Nat → Prop} {w w' : World} {r : Option Nat} (h : w.grownBy w' r) (hr : ∀ k, r = some k → F k) : Grows F w w' :=
  ⟨h.os, h.tape, h.output, h.size, fun k hk hf => h.block k hk fun e => hf (hr k e.symm)⟩


end Go.Proofs.Ytkchdkcdkeajkaa
