/-
  Joined from: Mb, Prg, InsRows, InPlain, InMem, InRow.
-/
import Derived.Test.YtbfldcieibdapabGreatProg
import Derived.WalkKit
import Derived.Maps.AppendAt
import Derived.Deep.AppendLies
import Derived.Lib.SliceRun
import Derived.Deep.QuietTactic
import Derived.BigQuiet
import Derived.Deep.MidRow
import Derived.Laws.StructEq
import Derived.Great.BuildSlice
section
/-
  Words for memory: a block of cells (Cw), the memory as it was (Sm), one block's change (Only), what a step leaves of all else (Grows).
-/
namespace Go.Proofs.YtbfldcieibdapabGreat
open Go.RowKit

theorem hid_into {p : Prop} (h : p) : Hid p := h

theorem setCells_other (b k : Nat) (hk : k ≠ b) : ∀ (vs : List Value) (o : Nat) (w : World), (w.setCells b o vs).heap[k]? = w.heap[k]?
  | [], _, _ => rfl
  | v :: vs, o, w => by
    show ((w.setCell ⟨b, o, none⟩ v).setCells b (o + 1) vs).heap[k]? = _
    rw [setCells_other b k hk vs (o + 1) _, Below.heap_setCell _ _ _ _ hk]
theorem setCells_same (b : Nat) (t : TypeId) : ∀ (vs pre old : List Value) (w : World), w.heap[b]? = some (.cells (pre ++ old).toArray t (0, 0)) → old.length = vs.length → (w.setCells b pre.length vs).heap[b]? = some (.cells (pre ++ vs).toArray t (0, 0))
  | [], pre, old, w, h, hl => by
    have : old = [] := List.eq_nil_of_length_eq_zero hl
    subst this
    exact h
  | v :: vs, pre, [], w, h, hl => by simp at hl
  | v :: vs, pre, u :: old, w, h, hl => by
    have h1 : (w.setCell ⟨b, pre.length, none⟩ v).heap[b]? = some (.cells ((pre ++ [v]) ++ old).toArray t (0, 0)) := by
      simp only [World.setCell, Array.getElem?_modify, h]
      simp
    have h2 := setCells_same b t vs (pre ++ [v]) old _ h1 (by simpa using hl)
    show ((w.setCell ⟨b, pre.length, none⟩ v).setCells b (pre.length + 1) vs).heap[b]? = _
    simpa using h2
theorem setCells_rest (b : Nat) : ∀ (vs : List Value) (o : Nat) (w : World), (w.setCells b o vs).os = w.os ∧ (w.setCells b o vs).tape = w.tape ∧ (w.setCells b o vs).output = w.output ∧ (w.setCells b o vs).heap.size = w.heap.size
  | [], _, _ => ⟨rfl, rfl, rfl, rfl⟩
  | v :: vs, o, w => by
    have h := setCells_rest b vs (o + 1) (w.setCell ⟨b, o, none⟩ v)
    exact ⟨h.1, h.2.1, h.2.2.1, h.2.2.2.trans (by simp [World.setCell])⟩


/-- Block g is a row of cells. -/
def Cw (w : World) (g : Nat) (cs : List Value) (t : TypeId) : Prop := w.heap[g]? = some (.cells cs.toArray t (0, 0))
theorem Cw.lt {w : World} {g : Nat} {cs : List Value} {t : TypeId} (h : Cw w g cs t) : g < w.heap.size := (Array.getElem?_eq_some_iff.1 h).1
theorem Cw.cell {w : World} {g : Nat} {cs : List Value} {t : TypeId} (h : Cw w g cs t) (i : Nat) : w.cell? ⟨g, i, none⟩ = cs[i]? := by
  rw [cell_of_row w g i _ _ _ h]; simp
theorem Cw.frozen {w : World} {g : Nat} {cs : List Value} {t : TypeId} (h : Cw w g cs t) (i : Nat) : w.frozen? ⟨g, i, none⟩ = false := by
  simp only [World.frozen?, show w.heap[g]? = _ from h]; simp
theorem Cw.set {w : World} {g : Nat} {cs : List Value} {t : TypeId} (h : Cw w g cs t) (i : Nat) (x : Value) : Cw (w.setCell ⟨g, i, none⟩ x) g (cs.set i x) t := by
  have h' : w.heap[g]? = some (.cells cs.toArray t (0, 0)) := h
  simp only [Cw, World.setCell, Array.getElem?_modify, h']
  simp
theorem Cw.range {w : World} {g : Nat} {cs : List Value} {t : TypeId} (h : Cw w g cs t) : w.rangeAt g 0 cs := by
  intro j u hu
  rw [Nat.zero_add, h.cell]; exact hu
theorem Cw.there {w : World} {g : Nat} {cs : List Value} {t : TypeId} (h : Cw w g cs t) : w.there g 0 cs.length := by
  intro j hj
  rw [Nat.zero_add, h.cell, h.frozen]
  simp [hj]
theorem Cw.put {w : World} {g : Nat} {cs ds : List Value} {t : TypeId} (h : Cw w g cs t) (hl : cs.length = ds.length) : Cw (w.setCells g 0 ds) g ds t :=
  setCells_same g t ds [] cs w h hl
theorem Cw.new (w : World) (cs : List Value) (t : TypeId) : Cw (w.alloc (.cells cs.toArray t)) w.heap.size cs t := heap_alloc_new w _
theorem Cw.keep {w w' : World} {g : Nat} {cs : List Value} {t : TypeId} (h : Cw w g cs t) (hk : w'.heap[g]? = w.heap[g]?) : Cw w' g cs t := hk.trans h
theorem Cw.alloc {w : World} {g : Nat} {cs : List Value} {t : TypeId} (h : Cw w g cs t) (b : Obj) : Cw (w.alloc b) g cs t := h.keep (Below.heap_alloc _ _ _ h.lt)
theorem Cw.below {w w' : World} {g : Nat} {cs : List Value} {t : TypeId} (h : Cw w g cs t) {B : Nat} (hb : Below B w w') (hg : g < B) : Cw w' g cs t := h.keep (hb.block g hg)
theorem Cw.other {w : World} {g : Nat} {cs : List Value} {t : TypeId} (h : Cw w g cs t) (b o : Nat) (ds : List Value) (hg : g ≠ b) : Cw (w.setCells b o ds) g cs t := h.keep (setCells_other b g hg _ _ _)


/-- A store of a whole row into the row of block g. -/
theorem setCells_below {w0 w : World} {B g : Nat} (hb : Below B w0 w) (hg : B ≤ g) (ds : List Value) : Below B w0 (w.setCells g 0 ds) := by
  have h := setCells_rest g ds 0 w
  exact ⟨h.1.trans hb.os, h.2.1.trans hb.tape, h.2.2.1.trans hb.output, by rw [h.2.2.2]; exact hb.size, fun k hk => (setCells_other g k (by omega) ds 0 w).trans (hb.block k hk)⟩


/-- The memory is as it was (orders may have been drawn). -/
structure Sm (w w' : World) : Prop where
  os : w'.os = w.os
  tape : w'.tape = w.tape
  output : w'.output = w.output
  heap : w'.heap = w.heap
theorem Sm.refl (w : World) : Sm w w := ⟨rfl, rfl, rfl, rfl⟩
theorem Sm.trans {a b c : World} (h : Sm a b) (k : Sm b c) : Sm a c := ⟨k.os.trans h.os, k.tape.trans h.tape, k.output.trans h.output, k.heap.trans h.heap⟩
theorem Sm.drewN (w : World) (n : Nat) : Sm w (w.drewN n) := ⟨rfl, rfl, rfl, rfl⟩
theorem Sm.below {w w' : World} (h : Sm w w') (B : Nat) : Below B w w' := ⟨h.os, h.tape, h.output, by rw [h.heap]; exact Nat.le_refl _, fun k _ => by rw [h.heap]⟩
theorem Sm.cw {w w' : World} (h : Sm w w') {g : Nat} {cs : List Value} {t : TypeId} (hb : Cw w g cs t) : Cw w' g cs t := hb.keep (by rw [h.heap])
theorem Sm.size {w w' : World} (h : Sm w w') : w'.heap.size = w.heap.size := by rw [h.heap]


/-- Only block g may have changed; no block is new. -/
structure Only (g : Nat) (w w' : World) : Prop where
  os : w'.os = w.os
  tape : w'.tape = w.tape
  output : w'.output = w.output
  size : w'.heap.size = w.heap.size
  block : ∀ k, k ≠ g → w'.heap[k]? = w.heap[k]?
theorem Only.refl (g : Nat) (w : World) : Only g w w := ⟨rfl, rfl, rfl, rfl, fun _ _ => rfl⟩
theorem Only.trans {g : Nat} {a b c : World} (h : Only g a b) (k : Only g b c) : Only g a c := ⟨k.os.trans h.os, k.tape.trans h.tape, k.output.trans h.output, k.size.trans h.size, fun i hi => (k.block i hi).trans (h.block i hi)⟩
theorem Only.set (g i : Nat) (w : World) (v : Value) : Only g w (w.setCell ⟨g, i, none⟩ v) := ⟨rfl, rfl, rfl, by simp [World.setCell], fun _ hk => Below.heap_setCell _ _ _ _ hk⟩
theorem Only.sets (g o : Nat) (w : World) (ds : List Value) : Only g w (w.setCells g o ds) :=
  have h := setCells_rest g ds o w
  ⟨h.1, h.2.1, h.2.2.1, h.2.2.2, fun _ hk => setCells_other g _ hk ds o w⟩
theorem Only.below {g B : Nat} {w w' : World} (h : Only g w w') (hg : B ≤ g) : Below B w w' := ⟨h.os, h.tape, h.output, by rw [h.size]; exact Nat.le_refl _, fun k hk => h.block k (by omega)⟩
theorem Only.drew {g : Nat} {w w' : World} (h : Only g w w') : Only g w w'.drew := ⟨h.os, h.tape, h.output, h.size, h.block⟩
theorem Only.drewN {g : Nat} {w w' : World} (h : Only g w w') (n : Nat) : Only g w (w'.drewN n) := ⟨h.os, h.tape, h.output, h.size, h.block⟩
theorem Only.cw {g k : Nat} {w w' : World} {cs : List Value} {t : TypeId} (h : Only g w w') (hc : Cw w k cs t) (hk : k ≠ g) : Cw w' k cs t := hc.keep (h.block k hk)
theorem Only.sm {g : Nat} {w w' : World} (h : Sm w w') : Only g w w' := ⟨h.os, h.tape, h.output, h.size, fun _ _ => by rw [h.heap]⟩

section
variable {ops : Array Oper} {rest : List Oper} {o : Oper} {a : Act} {w : World} {Q : Exit → Act → World → Prop}
theorem wpList_alloc_row (hg : o.guard = none) (ty : TypeId) (ho : o.op = .alloc ty) (cs : List Value) (hz : (Tryz.prog.info? ty).bind (·.zero) = some (.agg cs.toArray))
    (h : ∀ W, Cw W w.heap.size cs ty → Below w.heap.size w W → Hid (W.heap.size = w.heap.size + 1) → wpList Tryz.prog ops Q rest (a.put o.dst (.pointer (some ⟨w.heap.size, 0, none⟩))) W) : wpList Tryz.prog ops Q (o :: rest) a w := by
  cases hi : Tryz.prog.info? ty with
  | none => rw [hi] at hz; cases hz
  | some i =>
    have hz' : i.zero = some (.agg cs.toArray) := by rw [hi] at hz; exact hz
    refine wpList_plain hg fun _ hK => ?_
    unfold Oper.wp execOp
    simp only [ho, Sem.run_bind, Instr.alloc, zeroValue, typeInfo, hi, hz', newVar, newRow, run_newObj_alloc, Sem.run_pure, Result.andThen_ok, run_program]
    exact hK _ _ (h _ (Cw.new w cs ty) ((Below.refl _ _).alloc (Nat.le_refl _) _) (World.size_alloc _ _))
theorem wpList_box_row (hg : o.guard = none) (ty : TypeId) (x : Operand) (ho : o.op = .box ty x) (cs : List Value) (hx : a.eval x = .agg cs.toArray)
    (h : ∀ W, Cw W w.heap.size cs ty → Below w.heap.size w W → Hid (W.heap.size = w.heap.size + 1) → wpList Tryz.prog ops Q rest (a.put o.dst (.pointer (some ⟨w.heap.size, 0, none⟩))) W) : wpList Tryz.prog ops Q (o :: rest) a w := by
  refine wpList_plain hg fun _ hK => ?_
  unfold Oper.wp execOp
  simp only [ho, hx, Sem.run_bind, Instr.box, newVar, newRow, run_newObj_alloc, Sem.run_pure, Result.andThen_ok]
  refine hK _ _ ?_
  exact h _ (Cw.new w cs ty) ((Below.refl _ _).alloc (Nat.le_refl _) _) (World.size_alloc _ _)
theorem wpList_store_rw (hg : o.guard = none) (ty : TypeId) (x y : Operand) (ho : o.op = .store ty x y) (g : Nat) (cs ds : List Value) (t : TypeId) (hx : a.eval x = .pointer (some ⟨g, 0, none⟩)) (hy : a.eval y = .agg ds.toArray)
    (hc : Cw w g cs t) (hi : Hid ((Tryz.prog.info? ty).map (·.size) = some cs.length)) (hl : Hid (cs.length = ds.length)) (h1 : ∀ v ∈ ds, v.oneCell' = true)
    (h : ∀ W, Cw W g ds t → Only g w W → wpList Tryz.prog ops Q rest (a.put o.dst undef) W) : wpList Tryz.prog ops Q (o :: rest) a w := by
  refine wpList_store_mid hg ty x y ho g 0 ds.toArray hx hy (by rw [List.size_toArray, ← hl.out]; exact hc.there) (by rw [List.size_toArray, ← hl.out]; exact hi.out) (all_oneCell_toArray h1) ?_
  exact h _ (hc.put hl.out) (Only.sets g 0 w ds)
theorem wpList_load_rw (hg : o.guard = none) (ty : TypeId) (x : Operand) (ho : o.op = .load ty x) (g : Nat) (cs : List Value) (t : TypeId) (d : TypeDesc) (hx : a.eval x = .pointer (some ⟨g, 0, none⟩))
    (hc : Cw w g cs t) (hu : Tryz.prog.underlying ty = some d) (hd : d.isRow = true) (hi : Hid ((Tryz.prog.info? ty).map (·.size) = some cs.length))
    (h : wpList Tryz.prog ops Q rest (a.put o.dst (.agg cs.toArray)) w) : wpList Tryz.prog ops Q (o :: rest) a w :=
  wpList_load_mid hg ty x ho g 0 hx cs d hc.range hu hd hi.out h
end

/-- A row that a result variable holds is what is returned. -/
theorem ret_row {f : Func} {a : Act} {g : Nat} {cs : List Value} {t : TypeId} {w : World} {post : Ending → World → Prop} {r : Tmp} {ty : TypeId} {d : TypeDesc} (hf : f.results = #[.cell r ty]) (hr : a.tmps.getD r undef = .pointer (some ⟨g, 0, none⟩)) (hdf : a.defers = [])
    (hc : Cw w g cs t) (hu : Tryz.prog.underlying ty = some d) (hd : d.isRow = true) (hi : Hid ((Tryz.prog.info? ty).map (·.size) = some cs.length)) (h : post (.returned (.agg cs.toArray)) w) : bodyPost Tryz.prog f post .ret a w :=
  bodyPost_ret (results_cell_row hf a.tmps w g t cs.toArray (0, 0) d hr hc hu (by cases d <;> first | rfl | cases hd) (by rw [List.size_toArray]; exact hi.out)) hdf h


/-- The world w' is w but for the blocks of F, and new ones. -/
structure Grows (F : Nat → Prop) (w w' : World) : Prop where
  os : w'.os = w.os
  tape : w'.tape = w.tape
  output : w'.output = w.output
  size : w.heap.size ≤ w'.heap.size
  block : ∀ k, k < w.heap.size → ¬ F k → w'.heap[k]? = w.heap[k]?
theorem Grows.refl (F : Nat → Prop) (w : World) : Grows F w w := ⟨rfl, rfl, rfl, Nat.le_refl _, fun _ _ _ => rfl⟩
theorem Grows.mono {F G : Nat → Prop} {w w' : World} (h : Grows F w w') (hg : ∀ k, F k → G k) : Grows G w w' := ⟨h.os, h.tape, h.output, h.size, fun k hk hn => h.block k hk fun hf => hn (hg k hf)⟩
theorem Grows.trans {F F' : Nat → Prop} {w w' w'' : World} (h : Grows F w w') (h' : Grows F' w' w'') (hn : ∀ k, F' k → F k ∨ w.heap.size ≤ k) : Grows F w w'' :=
  ⟨h'.os.trans h.os, h'.tape.trans h.tape, h'.output.trans h.output, Nat.le_trans h.size h'.size, fun k hk hf => (h'.block k (Nat.lt_of_lt_of_le hk h.size) fun h1 => by rcases hn k h1 with h2 | h2; exact hf h2; omega).trans (h.block k hk hf)⟩
theorem Grows.of_below {w w' : World} {B : Nat} (h : Below B w w') (F : Nat → Prop) (hF : ∀ k, k < w.heap.size → B ≤ k → F k) : Grows F w w' :=
  ⟨h.os, h.tape, h.output, h.size, fun k hk hf => by
    by_cases hb : k < B
    · exact h.block k hb
    · exact absurd (hF k hk (by omega)) hf⟩
theorem Grows.below {F : Nat → Prop} {w w' : World} (h : Grows F w w') {B : Nat} (hB : B ≤ w.heap.size) (hF : ∀ k, F k → B ≤ k) : Below B w w' :=
  ⟨h.os, h.tape, h.output, h.size, fun k hk => h.block k (by omega) fun hf => by have := hF k hf; omega⟩
theorem Grows.alloc (F : Nat → Prop) (w : World) (o : Obj) : Grows F w (w.alloc o) := ⟨rfl, rfl, rfl, by simp, fun k hk _ => Below.heap_alloc _ _ _ hk⟩
theorem Grows.drew (F : Nat → Prop) (w : World) : Grows F w w.drew := ⟨rfl, rfl, rfl, Nat.le_refl _, fun _ _ _ => rfl⟩
theorem Grows.setCell {F : Nat → Prop} (w : World) (a : Addr) (v : Value) (h : F a.block) : Grows F w (w.setCell a v) :=
  ⟨rfl, rfl, rfl, by simp [World.setCell], fun k _ hf => Below.heap_setCell _ _ _ _ fun e => hf (e ▸ h)⟩
theorem Grows.grownBy {F : Nat → Prop} {w w' : World} {r : Option Nat} (h : w.grownBy w' r) (hr : ∀ k, r = some k → F k) : Grows F w w' :=
  ⟨h.os, h.tape, h.output, h.size, fun k hk hf => h.block k hk fun e => hf (hr k e.symm)⟩


end Go.Proofs.YtbfldcieibdapabGreat
end

section
/-
  Programs of the machine in plain words: which instructions are ones (mayI, chk). Plain facts; no walk.
-/
namespace Go.Proofs.YtbfldcieibdapabGreat

/-- An instruction: its op and its argument. -/
abbrev Ii := Int × Int
def hasA (o : Int) : Bool := decide (o = 1 ∨ o = 2 ∨ o = 3 ∨ o = 16 ∨ o = 18 ∨ o = 19 ∨ o = 20)
def opI (o : Int) : Bool := decide (1 ≤ o ∧ o ≤ 22)
/-- May an op's argument be this one, in a program of n? -/
def argI (o a n : Int) : Bool :=
  if o = 1 then decide (-2147483648 ≤ a ∧ a ≤ 2147483647)
  else if o = 2 ∨ o = 3 then decide (0 ≤ a ∧ a < 16)
  else if o = 16 then decide (a = 0 ∨ a = 1)
  else if o = 18 ∨ o = 19 then decide (0 ≤ a ∧ a ≤ n)
  else if o = 20 then decide (0 ≤ a ∧ a ≤ 2)
  else decide (a = 0)
def mayI (x : Ii) (n : Int) : Bool := opI x.1 && argI x.1 x.2 n
theorem opI_iff {o : Int} : opI o = true ↔ 1 ≤ o ∧ o ≤ 22 := by simp [opI]
theorem mayI_op {x : Ii} {n : Int} (h : mayI x n = true) : 1 ≤ x.1 ∧ x.1 ≤ 22 := by
  simp only [mayI, Bool.and_eq_true] at h
  exact opI_iff.1 h.1
/-- Arguments that may be are small. -/
theorem mayI_arg {x : Ii} {n : Int} (h : mayI x n = true) (hn : n ≤ 256) : -2147483648 ≤ x.2 ∧ x.2 ≤ 2147483647 := by
  simp only [mayI, Bool.and_eq_true] at h
  have h2 := h.2
  unfold argI at h2
  repeat' split at h2
  all_goals simp at h2
  all_goals omega
theorem mayI_none {x : Ii} {n : Int} (h : mayI x n = true) (ha : hasA x.1 = false) : x.2 = 0 := by
  simp only [mayI, Bool.and_eq_true] at h
  have h2 := h.2
  simp only [hasA, decide_eq_false_iff_not] at ha
  unfold argI at h2
  repeat' split at h2
  all_goals simp at h2
  all_goals omega

/-- The first that is none, from place k on: its place and the error; else noughts. -/
def chkF (n : Int) : Nat → List Ii → Int × Int
  | _, [] => (0, 0)
  | k, x :: l => if mayI x n then chkF n (k + 1) l else ((k : Int), 3)
def chk (l : List Ii) : Int × Int := if 256 < l.length then (0, 5) else chkF l.length 0 l
theorem chkF_ok (n : Int) : ∀ (l : List Ii) (k : Nat), (∀ x ∈ l, mayI x n = true) → chkF n k l = (0, 0)
  | [], _, _ => rfl
  | x :: l, k, h => by
    rw [chkF, if_pos (h x (by simp))]
    exact chkF_ok n l (k + 1) fun y hy => h y (by simp [hy])
theorem chkF_bad (n : Int) : ∀ (l : List Ii) (k j : Nat) (x : Ii), l[j]? = some x → (∀ i y, i < j → l[i]? = some y → mayI y n = true) → mayI x n = false → chkF n k l = (((k + j : Nat) : Int), 3)
  | [], _, _, _, h, _, _ => by simp at h
  | a :: l, k, 0, x, h, _, hx => by
    simp only [List.getElem?_cons_zero, Option.some.injEq] at h
    subst h
    rw [chkF, if_neg (by simp [hx])]
    rfl
  | a :: l, k, j + 1, x, h, hb, hx => by
    rw [chkF, if_pos (hb 0 a (by omega) rfl), chkF_bad n l (k + 1) j x (by simpa using h) (fun i y hi hy => hb (i + 1) y (by omega) (by simpa using hy)) hx]
    rw [show k + 1 + j = k + (j + 1) by omega]
theorem chkF_err (n : Int) : ∀ (l : List Ii) (k : Nat), (chkF n k l).2 = 0 ∧ (∀ x ∈ l, mayI x n = true) ∧ (chkF n k l).1 = 0 ∨ (chkF n k l).2 = 3
  | [], _ => Or.inl ⟨rfl, fun x hx => (by cases hx), rfl⟩
  | x :: l, k => by
    by_cases h : mayI x n = true
    · rw [chkF, if_pos h]
      rcases chkF_err n l (k + 1) with ⟨h1, h2, h3⟩ | h1
      · refine Or.inl ⟨h1, fun y hy => ?_, h3⟩
        rcases List.mem_cons.1 hy with rfl | hy
        · exact h
        · exact h2 y hy
      · exact Or.inr h1
    · rw [chkF, if_neg h]
      exact Or.inr rfl
theorem chk_long {l : List Ii} (h : 256 < l.length) : chk l = (0, 5) := if_pos h
theorem chk_ok {l : List Ii} (h : ¬ 256 < l.length) (ha : ∀ x ∈ l, mayI x l.length = true) : chk l = (0, 0) := by
  rw [chk, if_neg h]
  exact chkF_ok _ l 0 ha
theorem chk_bad {l : List Ii} (h : ¬ 256 < l.length) (j : Nat) (x : Ii) (hj : l[j]? = some x) (hb : ∀ i y, i < j → l[i]? = some y → mayI y l.length = true) (hx : mayI x l.length = false) : chk l = ((j : Int), 3) := by
  rw [chk, if_neg h, chkF_bad _ l 0 j x hj hb hx, Nat.zero_add]
/-- Is it a program? -/
def Okp (l : List Ii) : Prop := (chk l).2 = 0
theorem Okp.len {l : List Ii} (h : Okp l) : l.length ≤ 256 := by
  unfold Okp at h
  by_cases hl : 256 < l.length
  · rw [chk_long hl] at h; simp at h
  · omega
theorem Okp.may {l : List Ii} (h : Okp l) : ∀ x ∈ l, mayI x l.length = true := by
  have hl := h.len
  unfold Okp at h
  rw [chk, if_neg (by omega)] at h
  rcases chkF_err l.length l 0 with ⟨_, h2, _⟩ | h1
  · exact h2
  · omega
theorem Okp.chk {l : List Ii} (h : Okp l) : chk l = (0, 0) := chk_ok (by have := h.len; omega) h.may
theorem chk_err (l : List Ii) : (chk l).2 = 0 ∨ (chk l).2 = 3 ∨ (chk l).2 = 5 := by
  unfold chk
  split
  · exact Or.inr (Or.inr rfl)
  · rcases chkF_err l.length l 0 with ⟨h, _⟩ | h
    · exact Or.inl h
    · exact Or.inr (Or.inl h)

end Go.Proofs.YtbfldcieibdapabGreat
end

section
/-
  Rows of instructions in memory: a slice that reads as them (Ls), one of the call's own (Lo), append. No walk.
-/
namespace Go.Proofs.YtbfldcieibdapabGreat
open Go.RowKit

theorem Tryz.info66 : (Tryz.prog.info? 66).map (fun i => (i.zero, i.size, i.bytes)) = some (some (.agg #[.int .i64 0, .int .i64 0]), 2, 16) := by kernel_rfl
def cells2 (l : List Ii) : List Value := l.flatMap fun x => [.int .i64 x.1, .int .i64 x.2]
theorem cells2_len (l : List Ii) : (cells2 l).length = l.length * 2 := by
  induction l with
  | nil => rfl
  | cons x l ih => simp [cells2] at *; omega
theorem cells2_append (a b : List Ii) : cells2 (a ++ b) = cells2 a ++ cells2 b := by simp [cells2]
theorem cells2_at : ∀ (l : List Ii) (i : Nat) (x : Ii), l[i]? = some x → (cells2 l)[i * 2]? = some (.int .i64 x.1) ∧ (cells2 l)[i * 2 + 1]? = some (.int .i64 x.2)
  | [], i, x, h => by simp at h
  | y :: l, 0, x, h => by
    simp only [List.getElem?_cons_zero, Option.some.injEq] at h
    subst h
    exact ⟨rfl, rfl⟩
  | y :: l, i + 1, x, h => by
    have := cells2_at l i x (by simpa using h)
    have e : cells2 (y :: l) = .int .i64 y.1 :: .int .i64 y.2 :: cells2 l := rfl
    rw [e, show (i + 1) * 2 = i * 2 + 1 + 1 by omega]
    simpa using this
theorem cells2_one (l : List Ii) : ∀ u ∈ cells2 l, u.oneCell' = true := by
  intro u hu
  simp only [cells2, List.mem_flatMap] at hu
  obtain ⟨x, _, hu⟩ := hu
  simp only [List.mem_cons, List.not_mem_nil, or_false] at hu
  rcases hu with rfl | rfl <;> rfl
/-- The slice v reads as the instructions l. -/
def Ls (w : World) (v : Value) (l : List Ii) : Prop :=
  (l = [] ∧ ∃ ao cap, v = .slice ao 0 cap ∧ cap ≤ maxLen ∧ (ao = none → cap = 0)) ∨
  (l ≠ [] ∧ ∃ g off cap, v = .slice (some ⟨g, off, none⟩) l.length cap ∧ l.length ≤ cap ∧ cap ≤ maxLen ∧ ∀ j u, (cells2 l)[j]? = some u → w.cell? ⟨g, off + j, none⟩ = some u)
/-- A row of instructions of the call's own, from block base on. -/
def Lo (w : World) (base : Nat) (v : Value) (l : List Ii) : Prop := w.ownsRow base 66 2 v l.length (cells2 l)
theorem Ls.len {w : World} {v : Value} {l : List Ii} (h : Ls w v l) : ∃ ao cap, v = .slice ao l.length cap ∧ l.length ≤ maxLen := by
  rcases h with ⟨rfl, ao, cap, rfl, _, _⟩ | ⟨_, g, off, cap, rfl, h1, h2, _⟩
  · exact ⟨ao, cap, rfl, by unfold maxLen; simp⟩
  · exact ⟨_, cap, rfl, by omega⟩
theorem Ls.keep {w w' : World} {v : Value} {l : List Ii} (h : Ls w v l) (hk : ∀ k, v.ownBlock = some k → k < w.heap.size → w'.heap[k]? = w.heap[k]?) : Ls w' v l := by
  rcases h with h | ⟨hz, g, off, cap, rfl, hn, hc, hcell⟩
  · exact Or.inl h
  · refine Or.inr ⟨hz, g, off, cap, rfl, hn, hc, fun j u hu => ?_⟩
    have h1 := hcell j u hu
    have hlt := World.block_lt_of_cell? w _ h1
    rw [World.cell?_of_block (w := w) (hk g rfl hlt)]
    exact h1
theorem Ls.below {w w' : World} {v : Value} {l : List Ii} (h : Ls w v l) (hb : Below w.heap.size w w') : Ls w' v l := h.keep fun k _ hk => hb.block k hk
theorem Ls.belowB {w w' : World} {v : Value} {l : List Ii} {B : Nat} (h : Ls w v l) (hb : Below B w w') (hB : w.heap.size ≤ B) : Ls w' v l := h.keep fun k _ hk => hb.block k (by omega)
theorem Ls.sm {w w' : World} {v : Value} {l : List Ii} (h : Ls w v l) (hb : Sm w w') : Ls w' v l := h.keep fun k _ _ => by rw [hb.heap]
/-- The cells of the instruction at a place. -/
theorem Ls.at {w w' : World} {ao : Option Addr} {n cap : Nat} {l : List Ii} {B : Nat} (h : Ls w (.slice ao n cap) l) (hb : Below B w w') (hB : w.heap.size ≤ B) (i : Nat) (x : Ii) (hi : l[i]? = some x) :
    ∃ g off, ao = some ⟨g, off, none⟩ ∧ w'.cell? ⟨g, off + i * 2, none⟩ = some (.int .i64 x.1) ∧ w'.cell? ⟨g, off + i * 2 + 1, none⟩ = some (.int .i64 x.2) := by
  rcases h with ⟨rfl, _⟩ | ⟨_, g, off, c, hv, h1, h2, hc⟩
  · simp at hi
  · simp only [Value.slice.injEq] at hv
    obtain ⟨c0, c1⟩ := cells2_at l i x hi
    have d0 := hc _ _ c0
    have d1 := hc _ _ c1
    have hlt := World.block_lt_of_cell? w _ d0
    refine ⟨g, off, hv.1, ?_, ?_⟩
    · exact (hb.cell (p := ⟨g, off + i * 2, none⟩) (Nat.lt_of_lt_of_le hlt hB)).trans d0
    · exact (hb.cell (p := ⟨g, off + i * 2 + 1, none⟩) (Nat.lt_of_lt_of_le hlt hB)).trans (by rw [Nat.add_assoc]; exact d1)
theorem Ls.lt {w : World} {v : Value} {l : List Ii} (h : Ls w v l) (hz : l ≠ []) : ∀ k, v.ownBlock = some k → k < w.heap.size := by
  rcases h with ⟨h0, _⟩ | ⟨_, g, off, cap, rfl, _, _, hcell⟩
  · exact absurd h0 hz
  · intro k hk
    have hk' : g = k := by simpa [Value.ownBlock] using hk
    subst hk'
    obtain ⟨x, hx⟩ : ∃ x, l[0]? = some x := ⟨_, List.getElem?_eq_getElem (List.length_pos_iff.2 hz)⟩
    exact World.block_lt_of_cell? w _ (hcell _ _ (cells2_at l 0 x hx).1)
theorem Lo.form {w : World} {base : Nat} {v : Value} {l : List Ii} (h : Lo w base v l) : ∃ ao cap, v = .slice ao l.length cap := by
  rcases h.2 with ⟨rfl, h0⟩ | ⟨g, cap, cur, rfl, _⟩
  · exact ⟨none, 0, by rw [h0]⟩
  · exact ⟨_, cap, rfl⟩
theorem Lo.ls {w : World} {base : Nat} {v : Value} {l : List Ii} (h : Lo w base v l) : Ls w v l := by
  rcases h.2 with ⟨rfl, h0⟩ | ⟨g, cap, cur, rfl, hb, hg, hn, hc, hs, ht⟩
  · exact Or.inl ⟨List.eq_nil_of_length_eq_zero h0, none, 0, rfl, by unfold maxLen; omega, fun _ => rfl⟩
  · by_cases hz : l = []
    · subst hz
      exact Or.inl ⟨rfl, _, cap, rfl, hc, by intro h; cases h⟩
    · refine Or.inr ⟨hz, g, 0, cap, rfl, hn, hc, fun j u hu => ?_⟩
      have := World.ownsRow.cells h (g := g) rfl j u hu
      simpa [Addr.add_lit] using this
theorem Lo.nil (w : World) (base : Nat) : Lo w base (.slice none 0 0) [] := World.ownsRow_nil _ _ _ _
theorem Lo.lt {w : World} {base : Nat} {v : Value} {l : List Ii} (h : Lo w base v l) : ∀ k, v.ownBlock = some k → base ≤ k ∧ k < w.heap.size := fun k hk => World.ownsRow.lt h k hk
theorem Lo.keep {w w' : World} {base : Nat} {v : Value} {l : List Ii} (h : Lo w base v l) (hk : ∀ k, v.ownBlock = some k → k < w.heap.size → w'.heap[k]? = w.heap[k]?) : Lo w' base v l := by
  refine ⟨h.1, ?_⟩
  rcases h.2 with h2 | ⟨g, cap, cur, rfl, hb, hg, rest⟩
  · exact Or.inl h2
  · exact Or.inr ⟨g, cap, cur, rfl, hb, by rw [hk g rfl (Array.getElem?_eq_some_iff.1 hg).1]; exact hg, rest⟩
theorem Lo.below {w w' : World} {base : Nat} {v : Value} {l : List Ii} (h : Lo w base v l) (hb : Below w.heap.size w w') : Lo w' base v l := h.keep fun k _ hk => hb.block k hk
theorem Lo.sm {w w' : World} {base : Nat} {v : Value} {l : List Ii} (h : Lo w base v l) (hb : Sm w w') : Lo w' base v l := h.keep fun k _ _ => by rw [hb.heap]

theorem run_append_ls (w : World) (base : Nat) (ty : TypeId) (v : Value) (xs : List Ii) (hown : Lo w base v xs) (x : Value) (zs : List Ii) (hb : Ls w x zs) (h63 : xs.length + zs.length ≤ 1000000) (hbase : base ≤ w.heap.size) :
    ∃ ao cap w', (Builtin.append_ #[22, 22] ty #[v, x]).run Tryz.prog w = .ok (.slice ao (xs.length + zs.length) cap) w' ∧ Lo w' base (.slice ao (xs.length + zs.length) cap) (xs ++ zs) ∧ w.grownBy w' v.ownBlock ∧
      ((Value.slice ao (xs.length + zs.length) cap).ownBlock = v.ownBlock ∨ (Value.slice ao (xs.length + zs.length) cap).ownBlock = some w.heap.size) := by
  obtain ⟨i0, hi, hz0, hz1, hz2⟩ := info_parts Tryz.info66
  have key : ∀ a m c, m = zs.length → (∀ j u, (cells2 zs)[j]? = some u → w.cell? (Addr.add a j) = some u) → x = .slice (some a) m c → ∃ ao cap w', (Builtin.append_ #[22, 22] ty #[v, x]).run Tryz.prog w = .ok (.slice ao (xs.length + zs.length) cap) w' ∧ Lo w' base (.slice ao (xs.length + zs.length) cap) (xs ++ zs) ∧ w.grownBy w' v.ownBlock ∧
      ((Value.slice ao (xs.length + zs.length) cap).ownBlock = v.ownBlock ∨ (Value.slice ao (xs.length + zs.length) cap).ownBlock = some w.heap.size) := by
    intro a m c hm hc hx
    subst hm; subst hx
    obtain ⟨v', w', hr, h2, h3, _, h5⟩ := run_append_own_at (P := Tryz.prog) w base 22 ty 66 i0 (.agg #[.int .i64 0, .int .i64 0]) 2 16 Tryz.underlying22 hi hz0 hz1 hz2 rfl (by decide) v xs.length (cells2 xs) hown a zs.length c (cells2 zs) (cells2_len zs) hc (cells2_one zs) (by unfold maxLen; omega) (by omega) hbase
    have h2' : Lo w' base v' (xs ++ zs) := by
      unfold Lo
      rw [cells2_append, List.length_append]
      exact h2
    obtain ⟨ao, cap, rfl⟩ := h2'.form
    rw [List.length_append] at hr h2' h5
    exact ⟨ao, cap, w', hr, h2', h3, h5⟩
  rcases hb with ⟨rfl, ao, cap, rfl, hc, hn⟩ | ⟨hz, g, off, cap, rfl, hn, hc, hcell⟩
  · cases ao with
    | some a => exact key a 0 cap rfl (by intro j u h; simp [cells2] at h) rfl
    | none =>
      obtain rfl := hn rfl
      have hr := run_append_owned_none (P := Tryz.prog) w base 22 ty 66 i0 2 Tryz.underlying22 hi v xs.length (cells2 xs) hown
      obtain ⟨ao, cap, hv⟩ := Lo.form hown
      refine ⟨ao, cap, w, ?_, ?_, World.grownBy.refl _ _, Or.inl ?_⟩
      · rw [hr]; simp [hv]
      · simpa [hv] using hown
      · simp [hv]
  · exact key ⟨g, off, none⟩ zs.length cap rfl (fun j u h => by rw [Addr.add_lit]; exact hcell j u h) rfl

theorem wpList_append_ls (w : World) {ops : Array Oper} {rest : List Oper} {o : Oper} {a : Act} {Q : Exit → Act → World → Prop} (hgd : o.guard = none) (s x : Operand)
    (ho : o.op = .call { callee := .builtin .append, args := #[s, x], argTypes := #[22, 22] })
    (base : Nat) (v : Value) (xs : List Ii) (hs : a.eval s = v) (hown : Lo w base v xs) (vx : Value) (zs : List Ii) (hx : a.eval x = vx) (hb : Ls w vx zs)
    (h63 : xs.length + zs.length ≤ 1000000) (hbase : base ≤ w.heap.size)
    (h : ∀ ao cap w', Lo w' base (.slice ao (xs.length + zs.length) cap) (xs ++ zs) → w.grownBy w' v.ownBlock →
      ((Value.slice ao (xs.length + zs.length) cap).ownBlock = v.ownBlock ∨ (Value.slice ao (xs.length + zs.length) cap).ownBlock = some w.heap.size) →
      wpList Tryz.prog ops Q rest (a.put o.dst (.slice ao (xs.length + zs.length) cap)) w') : wpList Tryz.prog ops Q (o :: rest) a w := by
  obtain ⟨ao, cap, w', hr, h2, h3, h4⟩ := run_append_ls w base o.type v xs hown vx zs hb h63 hbase
  refine wpList_plain hgd fun _ hK => ?_
  unfold Oper.wp execOp
  simp only [ho, resolve, invoke, builtin, Sem.run_bind, Sem.run_pure, Result.andThen_ok, List.map_toArray, List.map_cons, List.map_nil, hs, hx, hr]
  exact hK _ _ (h ao cap w' h2 h3 h4)

/-- Instructions laid whole in a block, seen as a slice. -/
theorem Ls_of_block {w : World} {B : Nat} {l : List Ii} {t : TypeId} {fr : Nat × Nat} (hb : w.heap[B]? = some (.cells (cells2 l).toArray t fr)) (hm : l.length ≤ maxLen) : Ls w (.slice (some ⟨B, 0, none⟩) l.length l.length) l := by
  by_cases hz : l = []
  · subst hz
    exact Or.inl ⟨rfl, _, 0, rfl, by unfold maxLen; omega, by intro h; cases h⟩
  · refine Or.inr ⟨hz, B, 0, l.length, rfl, Nat.le_refl _, hm, fun j u hu => ?_⟩
    have := World.news_of_block hb j u (by simpa using hu)
    simpa [Addr.add_lit] using this
end Go.Proofs.YtbfldcieibdapabGreat
end

section
/-
  A player's row of inputs in plain words: what Put, Get, Known answer. No walk.
-/
namespace Go.Proofs.YtbfldcieibdapabGreat.In
/-- An input with its mark. -/
abbrev Pl := Int × Bool
def at0 (l : List Pl) (k : Nat) : Pl := l.getD k (0, false)
theorem at0_some {l : List Pl} {k : Nat} (h : k < l.length) : l[k]? = some (at0 l k) := by simp [at0, List.getD, h]
/-- Put's answer. -/
def putE (l : List Pl) (f x : Int) : Int := if f < 0 ∨ (l.length : Int) ≤ f then 1 else if (at0 l f.toNat).2 = true then (if (at0 l f.toNat).1 = x then 8 else 18) else 0
/-- The row behind it. -/
def putL (l : List Pl) (f x : Int) : List Pl := if putE l f x = 0 then l.set f.toNat (x, true) else l
theorem putL_len (l : List Pl) (f x : Int) : (putL l f x).length = l.length := by unfold putL; split <;> simp
/-- The greatest place below k that is marked. -/
def down (l : List Pl) : Nat → Option (Nat × Int)
  | 0 => none
  | k + 1 => if (at0 l k).2 = true then some (k, (at0 l k).1) else down l k
def getA (f : Int) : Option (Nat × Int) → Int × Bool
  | some (k, x) => (x, decide ((k : Int) = f))
  | none => (0, false)
/-- What Get answers. -/
def getP (l : List Pl) (f : Int) : Int × Bool := if f < 0 then (0, false) else getA f (down l (min (f.toNat + 1) l.length))
/-- What Known answers. -/
def kn : List Pl → Nat
  | [] => 0
  | x :: l => if x.2 = true then kn l + 1 else 0
theorem kn_le : ∀ l : List Pl, kn l ≤ l.length
  | [] => Nat.le_refl _
  | x :: l => by
    have := kn_le l
    simp only [kn, List.length_cons]
    split <;> omega
theorem kn_mark : ∀ (l : List Pl) (j : Nat), j < kn l → (at0 l j).2 = true
  | [], j, h => by simp [kn] at h
  | x :: l, 0, h => by
    simp only [kn] at h
    split at h
    · simpa [at0] using ‹x.2 = true›
    · omega
  | x :: l, j + 1, h => by
    simp only [kn] at h
    split at h
    · have := kn_mark l j (by omega)
      simpa [at0] using this
    · omega
theorem kn_stop : ∀ l : List Pl, kn l < l.length → (at0 l (kn l)).2 = false
  | [], h => by simp at h
  | x :: l, h => by
    simp only [kn] at h ⊢
    split
    · rw [if_pos ‹_›] at h
      have := kn_stop l (by simpa using h)
      simpa [at0] using this
    · simpa [at0] using ‹¬ x.2 = true›
theorem kn_of {l : List Pl} {m : Nat} (hm : m ≤ l.length) (h : ∀ j, j < m → (at0 l j).2 = true) (hs : m < l.length → (at0 l m).2 = false) : kn l = m := by
  have h1 := kn_le l
  rcases Nat.lt_trichotomy (kn l) m with h2 | h2 | h2
  · have := kn_stop l (by omega)
    rw [h _ h2] at this; cases this
  · exact h2
  · have := hs (by omega)
    rw [kn_mark l m h2] at this; cases this
/-- The row of a player; that of none is empty. -/
def sel (p : Int) (l0 l1 : List Pl) : List Pl := if p = 0 then l0 else if p = 1 then l1 else []
theorem sel_no {p : Int} (h : p < 0 ∨ 1 < p) (l0 l1 : List Pl) : sel p l0 l1 = [] := by
  unfold sel
  rw [if_neg (by omega), if_neg (by omega)]
theorem getP_nil (f : Int) : getP [] f = (0, false) := by
  unfold getP
  split
  · rfl
  · simp [getA, down]
theorem putE_nil (f x : Int) : putE [] f x = 1 := by
  unfold putE
  rw [if_pos (by simp; omega)]
theorem at0_set {l : List Pl} {k j : Nat} (h : k < l.length) (x : Pl) : at0 (l.set k x) j = if j = k then x else at0 l j := by
  unfold at0
  by_cases e : j = k
  · subst e; simp [List.getD, h]
  · simp [List.getD, e, Ne.symm e]
def zeros (n : Nat) : List Pl := List.replicate n (0, false)
theorem zeros_len (n : Nat) : (zeros n).length = n := by simp [zeros]
theorem zeros_at (n k : Nat) : at0 (zeros n) k = (0, false) := by
  simp only [at0, zeros, List.getD, List.getElem?_replicate]
  split <;> rfl
end Go.Proofs.YtbfldcieibdapabGreat.In
end

section
/-
  A Queue in memory (Qp), and its rows.
-/
namespace Go.Proofs.YtbfldcieibdapabGreat.In
open Go.RowKit
/-- The blocks of G may have changed; no block is new. -/
structure Og (G : Nat → Prop) (w w' : World) : Prop where
  os : w'.os = w.os
  tape : w'.tape = w.tape
  output : w'.output = w.output
  size : w'.heap.size = w.heap.size
  block : ∀ k, ¬ G k → w'.heap[k]? = w.heap[k]?
theorem Og.refl (G : Nat → Prop) (w : World) : Og G w w := ⟨rfl, rfl, rfl, rfl, fun _ _ => rfl⟩
theorem Og.trans {G : Nat → Prop} {a b c : World} (h : Og G a b) (k : Og G b c) : Og G a c := ⟨k.os.trans h.os, k.tape.trans h.tape, k.output.trans h.output, k.size.trans h.size, fun i hi => (k.block i hi).trans (h.block i hi)⟩
theorem Og.of {G : Nat → Prop} {g : Nat} {w w' : World} (h : Only g w w') (hg : G g) : Og G w w' := ⟨h.os, h.tape, h.output, h.size, fun k hk => h.block k fun e => hk (e ▸ hg)⟩
theorem Og.below {G : Nat → Prop} {w w' : World} {B : Nat} (h : Og G w w') (hB : ∀ k, G k → B ≤ k) : Below B w w' := ⟨h.os, h.tape, h.output, by rw [h.size]; exact Nat.le_refl _, fun k hk => h.block k fun hg => by have := hB k hg; omega⟩
theorem Og.cw {G : Nat → Prop} {w w' : World} {g : Nat} {cs : List Value} {t : TypeId} (h : Og G w w') (hc : Cw w g cs t) (hg : ¬ G g) : Cw w' g cs t := hc.keep (h.block g hg)
def cellsR (l : List Pl) : List Value := l.flatMap fun x => [.int .u16 x.1, .bool x.2]
theorem cellsR_len (l : List Pl) : (cellsR l).length = l.length * 2 := by
  induction l with
  | nil => rfl
  | cons x l ih => simp [cellsR] at *; omega
theorem cellsR_at : ∀ (l : List Pl) (i : Nat), i < l.length → (cellsR l)[i * 2]? = some (.int .u16 (at0 l i).1) ∧ (cellsR l)[i * 2 + 1]? = some (.bool (at0 l i).2)
  | [], i, h => by simp at h
  | y :: l, 0, h => ⟨rfl, rfl⟩
  | y :: l, i + 1, h => by
    have := cellsR_at l i (by simpa using h)
    have e : cellsR (y :: l) = .int .u16 y.1 :: .bool y.2 :: cellsR l := rfl
    rw [e, show (i + 1) * 2 = i * 2 + 1 + 1 by omega]
    simpa [at0] using this
theorem cellsR_set : ∀ (l : List Pl) (i : Nat) (x : Pl), i < l.length → ((cellsR l).set (i * 2) (.int .u16 x.1)).set (i * 2 + 1) (.bool x.2) = cellsR (l.set i x)
  | [], i, x, h => by simp at h
  | y :: l, 0, x, h => rfl
  | y :: l, i + 1, x, h => by
    have := cellsR_set l i x (by simpa using h)
    have e : cellsR (y :: l) = .int .u16 y.1 :: .bool y.2 :: cellsR l := rfl
    have e2 : cellsR ((y :: l).set (i + 1) x) = .int .u16 y.1 :: .bool y.2 :: cellsR (l.set i x) := rfl
    rw [e, e2, show (i + 1) * 2 = i * 2 + 1 + 1 by omega, ← this]
    simp
def slR (g n : Nat) : Value := .slice (some ⟨g, 0, none⟩) n n
/-- A Queue at block qb, its rows in blocks g0, g1, all its blocks in lo .. hi. -/
structure Qp (w : World) (lo hi qb g0 g1 : Nat) (l0 l1 : List Pl) : Prop where
  q : Cw w qb [slR g0 l0.length, slR g1 l0.length] 87
  r0 : Cw w g0 (cellsR l0) 110
  r1 : Cw w g1 (cellsR l1) 110
  len : l1.length = l0.length
  n1 : 1 ≤ l0.length
  n2 : l0.length ≤ 600
  a0 : g0 ≠ qb
  a1 : g1 ≠ qb
  a2 : g0 ≠ g1
  q' : lo ≤ qb ∧ qb < hi
  b0 : lo ≤ g0 ∧ g0 < hi
  b1 : lo ≤ g1 ∧ g1 < hi
section
variable {w w' : World} {lo hi qb g0 g1 : Nat} {l0 l1 : List Pl}
theorem Qp.keep (h : Qp w lo hi qb g0 g1 l0 l1) (hk : ∀ k, lo ≤ k → k < hi → w'.heap[k]? = w.heap[k]?) : Qp w' lo hi qb g0 g1 l0 l1 :=
  ⟨h.q.keep (hk _ h.q'.1 h.q'.2), h.r0.keep (hk _ h.b0.1 h.b0.2), h.r1.keep (hk _ h.b1.1 h.b1.2), h.len, h.n1, h.n2, h.a0, h.a1, h.a2, h.q', h.b0, h.b1⟩
theorem Qp.put0 (h : Qp w lo hi qb g0 g1 l0 l1) {l : List Pl} (hl : l.length = l0.length) (ho : Only g0 w w') (hc : Cw w' g0 (cellsR l) 110) : Qp w' lo hi qb g0 g1 l l1 :=
  ⟨by rw [hl]; exact ho.cw h.q (Ne.symm h.a0), hc, ho.cw h.r1 (Ne.symm h.a2), by rw [hl]; exact h.len, by rw [hl]; exact h.n1, by rw [hl]; exact h.n2, h.a0, h.a1, h.a2, h.q', h.b0, h.b1⟩
theorem Qp.put1 (h : Qp w lo hi qb g0 g1 l0 l1) {l : List Pl} (hl : l.length = l1.length) (ho : Only g1 w w') (hc : Cw w' g1 (cellsR l) 110) : Qp w' lo hi qb g0 g1 l0 l :=
  ⟨ho.cw h.q (Ne.symm h.a1), ho.cw h.r0 h.a2, hc, by rw [hl]; exact h.len, h.n1, h.n2, h.a0, h.a1, h.a2, h.q', h.b0, h.b1⟩
theorem row_nil (w : World) (p : Int) : Calls Tryz.prog 43 #[.pointer none, .int .i64 p] w fun e w' => e = .returned (.slice none 0 0) ∧ w' = w := by
  go_enter Tryz.func43, Tryz.ntmps43
  go_wp2_with fail
  go_ret
  exact ⟨rfl, rfl⟩
theorem row_no (w : World) (b : Addr) (p : Int) (hp : p < 0 ∨ 1 < p) : Calls Tryz.prog 43 #[.pointer (some b), .int .i64 p] w fun e w' => e = .returned (.slice none 0 0) ∧ w' = w := by
  by_cases h : p < 0
  · clear hp
    go_enter Tryz.func43, Tryz.ntmps43
    go_wp2_with fail
    go_ret
    exact ⟨rfl, rfl⟩
  · have h2 : 2 ≤ p := by omega
    clear hp
    go_enter Tryz.func43, Tryz.ntmps43
    go_wp2_with fail
    go_ret
    exact ⟨rfl, rfl⟩
theorem row_0 (h : Qp w lo hi qb g0 g1 l0 l1) : Calls Tryz.prog 43 #[.pointer (some ⟨qb, 0, none⟩), .int .i64 0] w fun e w' => e = .returned (slR g0 l0.length) ∧ w' = w := by
  have c := h.q.cell 0
  simp only [List.getElem?_cons_zero, slR] at c
  go_enter Tryz.func43, Tryz.ntmps43
  go_wp2_with fail
  go_ret
  exact ⟨rfl, rfl⟩
theorem row_1 (h : Qp w lo hi qb g0 g1 l0 l1) : Calls Tryz.prog 43 #[.pointer (some ⟨qb, 0, none⟩), .int .i64 1] w fun e w' => e = .returned (slR g1 l0.length) ∧ w' = w := by
  have c := h.q.cell 1
  simp only [List.getElem?_cons_succ, List.getElem?_cons_zero, slR] at c
  go_enter Tryz.func43, Tryz.ntmps43
  go_wp2_with fail
  go_ret
  exact ⟨rfl, rfl⟩
end
end Go.Proofs.YtbfldcieibdapabGreat.In
end

section
/-
  A row's put, get, known, by contracts.
-/
namespace Go.Proofs.YtbfldcieibdapabGreat.In
open Go.RowKit
theorem Tryz.size110 : (Tryz.prog.info? 110).map (·.size) = some 2 := by kernel_rfl
section
variable {w w' : World} {g : Nat} {l : List Pl}
theorem rput_nil (w : World) (f x : Int) : Calls Tryz.prog 44 #[.slice none 0 0, .int .i64 f, .int .u16 x] w fun e w' => e = .returned (.int .i64 1) ∧ w' = w := by
  by_cases h : f < 0
  · go_enter Tryz.func44, Tryz.ntmps44
    go_wp2_with fail
    go_ret
    exact ⟨rfl, rfl⟩
  · go_enter Tryz.func44, Tryz.ntmps44
    go_wp2_with fail
    go_ret
    exact ⟨rfl, rfl⟩
/-- Ahead of all frames nothing is found. -/
theorem rget_neg (ao : Option Addr) (n : Nat) (hn : n ≤ 600) (w : World) (f : Int) (hf : f < 0) : Calls Tryz.prog 59 #[.slice ao n n, .int .i64 f] w fun e w' => e = .returned (.tuple #[.int .u16 0, .bool false]) ∧ w' = w := by
  have h1 : ¬ ((n : Int) - 1 < f) := by omega
  go_enter Tryz.func59, Tryz.ntmps59
  go_wp2_with fail
  go_loopw [6] (fun x wr => ∃ m : Int, m < 0 ∧ x = .int .i64 m ∧ w = wr) (fun _ _ => 0)
  case atStart => exact ⟨f, hf, rfl, rfl⟩
  case round =>
    obtain ⟨m, hm, rfl, rfl⟩ := hrel
    go_wp2_with fail
    go_ret2
    exact ⟨rfl, rfl⟩
theorem rget_nil (w : World) (f : Int) : Calls Tryz.prog 59 #[.slice none 0 0, .int .i64 f] w fun e w' => e = .returned (.tuple #[.int .u16 0, .bool false]) ∧ w' = w := by
  by_cases h : f < 0
  · exact rget_neg none 0 (by omega) w f h
  · have h1 : -1 < f := by omega
    go_enter Tryz.func59, Tryz.ntmps59
    go_wp2_with fail
    go_loopw [6] (fun x wr => ∃ m : Int, m < 0 ∧ x = .int .i64 m ∧ w = wr) (fun _ _ => 0)
    case atStart => exact ⟨-1, by decide, rfl, rfl⟩
    case round =>
      obtain ⟨m, hm, rfl, rfl⟩ := hrel
      go_wp2_with fail
      go_ret2
      exact ⟨rfl, rfl⟩
theorem rknown_nil (w : World) : Calls Tryz.prog 51 #[.slice none 0 0] w fun e w' => e = .returned (.int .i64 0) ∧ w' = w := by
  go_enter Tryz.func51, Tryz.ntmps51
  go_wp2_with fail
  go_loopw [3] (fun x wr => x = .int .i64 0 ∧ w = wr) (fun _ _ => 0)
  case atStart => exact ⟨rfl, rfl⟩
  case round =>
    obtain ⟨rfl, rfl⟩ := hrel
    go_wp2_with fail
    go_ret
    exact ⟨rfl, rfl⟩
set_option maxHeartbeats 1000000 in
theorem rknown_any (hc : Cw w g (cellsR l) 110) (hn : l.length ≤ 600) : Calls Tryz.prog 51 #[slR g l.length] w fun e w' => e = .returned (.int .i64 (kn l : Int)) ∧ w' = w := by
  unfold slR
  have HC := hid_into hc
  have HN := hid_into (kn_le l)
  clear hc
  go_enter Tryz.func51, Tryz.ntmps51
  go_wp2_with fail
  go_loopw [3] (fun x wr => ∃ k : Nat, Hid (k ≤ kn l) ∧ x = .int .i64 (k : Int) ∧ w = wr) (fun x _ => l.length - (intOf x).toNat)
  case atStart => exact ⟨0, hid_into (Nat.zero_le _), rfl, rfl⟩
  case round =>
    obtain ⟨k, hk, rfl, rfl⟩ := hrel
    by_cases hlt : k < l.length
    · have d1 : w.cell? ⟨g, k * 2 + 1, none⟩ = some (.bool (at0 l k).2) := (HC.out.cell _).trans (cellsR_at l k hlt).2
      have hlt2 : (k : Int) < (l.length : Int) := by omega
      cases hb : (at0 l k).2 with
      | true =>
        rw [hb] at d1
        have hk2 : Hid (k + 1 ≤ kn l) := by
          show _ ≤ _
          have h1 := hk.out
          rcases Nat.lt_or_ge k (kn l) with h2 | h2
          · exact h2
          · have h3 : k = kn l := by omega
            have h4 := kn_stop l (by omega)
            rw [← h3, hb] at h4; cases h4
        clear hb
        go_wp2_with fail
        go_roundw
        case rel => exact ⟨k + 1, hk2, by go_num, trivial⟩
        case measure => simp [intOf]; omega
      | false =>
        rw [hb] at d1
        have hk2 : Hid (kn l = k) := by
          show _ = _
          have h1 := hk.out
          rcases Nat.lt_or_ge k (kn l) with h2 | h2
          · rw [kn_mark l k h2] at hb; cases hb
          · omega
        clear hb
        go_wp2_with fail
        go_ret
        rw [hk2.out]
        exact ⟨rfl, rfl⟩
    · have hk2 : Hid (kn l = k) := by
        show _ = _
        have h1 := hk.out
        have h2 := HN.out
        omega
      have hlt2 : ¬ (k : Int) < (l.length : Int) := by omega
      go_wp2_with fail
      go_ret
      rw [hk2.out]
      exact ⟨rfl, rfl⟩
set_option maxHeartbeats 1000000 in
theorem rget_any (hc : Cw w g (cellsR l) 110) (hn : l.length ≤ 600) (f : Int) : Calls Tryz.prog 59 #[slR g l.length, .int .i64 f] w fun e w' => e = .returned (.tuple #[.int .u16 (getP l f).1, .bool (getP l f).2]) ∧ w' = w := by
  unfold slR
  by_cases hf : f < 0
  · rw [show getP l f = (0, false) by simp [getP, hf]]
    exact rget_neg _ _ hn w f hf
  obtain ⟨R, hR⟩ : ∃ R, R = getP l f := ⟨_, rfl⟩
  rw [← hR]
  have hR2 : getA f (down l (min (f.toNat + 1) l.length)) = R := by rw [hR]; simp [getP, hf]
  clear hR
  have HC := hid_into hc
  clear hc
  obtain ⟨k0, hk0, hk1⟩ : ∃ k0 : Nat, k0 = min (f.toNat + 1) l.length ∧ k0 ≤ l.length := ⟨_, rfl, by omega⟩
  have hmin : (if (l.length : Int) - 1 < f then (l.length : Int) - 1 else f) = (k0 : Int) - 1 := by split <;> omega
  rw [← hk0] at hR2
  have HR := hid_into hR2
  have HM := hid_into hmin
  have HK := hid_into hk1
  clear hR2 hmin hk1 hk0
  go_enter Tryz.func59, Tryz.ntmps59
  by_cases hcs : (l.length : Int) - 1 < f
  · go_wp2_with fail
    go_loopw [6] (fun x wr => ∃ k : Nat, k ≤ l.length ∧ x = .int .i64 ((k : Int) - 1) ∧ Hid (getA f (down l k) = R) ∧ w = wr) (fun x _ => (intOf x + 1).toNat)
    case atStart =>
      have h := HM.out
      rw [if_pos hcs] at h
      exact ⟨k0, HK.out, by rw [h], HR, rfl⟩
    case round =>
      clear HR HM HK hcs
      obtain ⟨k, hk, rfl, HR, rfl⟩ := hrel
      cases k with
      | zero =>
        have h := HR.out
        simp only [down, getA] at h
        subst h
        go_wp2_with fail
        go_ret2
        exact ⟨rfl, rfl⟩
      | succ j =>
        have hj : j < l.length := by omega
        rw [show ((j + 1 : Nat) : Int) - 1 = (j : Int) by omega]
        have d0 : w.cell? ⟨g, j * 2, none⟩ = some (.int .u16 (at0 l j).1) := (HC.out.cell _).trans (cellsR_at l j hj).1
        have d1 : w.cell? ⟨g, j * 2 + 1, none⟩ = some (.bool (at0 l j).2) := (HC.out.cell _).trans (cellsR_at l j hj).2
        have hj2 : (j : Int) < (l.length : Int) := by omega
        have h := HR.out
        simp only [down] at h
        cases hb : (at0 l j).2 with
        | true =>
          rw [hb] at d1
          rw [if_pos hb] at h
          simp only [getA] at h
          subst h
          clear hb HR
          go_wp2_with fail
          go_ret2
          exact ⟨rfl, rfl⟩
        | false =>
          rw [hb] at d1
          rw [if_neg (by simp [hb])] at h
          have HR2 := hid_into h
          clear hb HR h
          go_wp2_with fail
          go_roundw
          case rel => exact ⟨j, by omega, by go_num, HR2, trivial⟩
          case measure => simp [intOf]
  · go_wp2_with fail
    go_loopw [6] (fun x wr => ∃ k : Nat, k ≤ l.length ∧ x = .int .i64 ((k : Int) - 1) ∧ Hid (getA f (down l k) = R) ∧ w = wr) (fun x _ => (intOf x + 1).toNat)
    case atStart =>
      have h := HM.out
      rw [if_neg (by omega)] at h
      exact ⟨k0, HK.out, by rw [h], HR, rfl⟩
    case round =>
      clear HR HM HK hcs
      obtain ⟨k, hk, rfl, HR, rfl⟩ := hrel
      cases k with
      | zero =>
        have h := HR.out
        simp only [down, getA] at h
        subst h
        go_wp2_with fail
        go_ret2
        exact ⟨rfl, rfl⟩
      | succ j =>
        have hj : j < l.length := by omega
        rw [show ((j + 1 : Nat) : Int) - 1 = (j : Int) by omega]
        have d0 : w.cell? ⟨g, j * 2, none⟩ = some (.int .u16 (at0 l j).1) := (HC.out.cell _).trans (cellsR_at l j hj).1
        have d1 : w.cell? ⟨g, j * 2 + 1, none⟩ = some (.bool (at0 l j).2) := (HC.out.cell _).trans (cellsR_at l j hj).2
        have hj2 : (j : Int) < (l.length : Int) := by omega
        have h := HR.out
        simp only [down] at h
        cases hb : (at0 l j).2 with
        | true =>
          rw [hb] at d1
          rw [if_pos hb] at h
          simp only [getA] at h
          subst h
          clear hb HR
          go_wp2_with fail
          go_ret2
          exact ⟨rfl, rfl⟩
        | false =>
          rw [hb] at d1
          rw [if_neg (by simp [hb])] at h
          have HR2 := hid_into h
          clear hb HR h
          go_wp2_with fail
          go_roundw
          case rel => exact ⟨j, by omega, by go_num, HR2, trivial⟩
          case measure => simp [intOf]
theorem rput_out (g : Nat) (f x : Int) (h : f < 0 ∨ (l.length : Int) ≤ f) : Calls Tryz.prog 44 #[slR g l.length, .int .i64 f, .int .u16 x] w fun e w' => e = .returned (.int .i64 1) ∧ w' = w := by
  unfold slR
  by_cases h1 : f < 0
  · clear h
    go_enter Tryz.func44, Tryz.ntmps44
    go_wp2_with fail
    go_ret
    exact ⟨rfl, rfl⟩
  · have h2 : (l.length : Int) ≤ f := by omega
    clear h
    go_enter Tryz.func44, Tryz.ntmps44
    go_wp2_with fail
    go_ret
    exact ⟨rfl, rfl⟩
theorem rput_in (hc : Cw w g (cellsR l) 110) (_hn : l.length ≤ 600) (k : Nat) (x : Int) (hk : k < l.length) : Calls Tryz.prog 44 #[slR g l.length, .int .i64 (k : Int), .int .u16 x] w fun e w' => e = .returned (.int .i64 (putE l k x)) ∧ Cw w' g (cellsR (putL l k x)) 110 ∧ Only g w w' := by
  have hp : putE l k x = if (at0 l k).2 = true then (if (at0 l k).1 = x then 8 else 18) else 0 := by
    unfold putE
    rw [if_neg (by omega), Int.toNat_natCast]
  obtain ⟨c0, c1⟩ := cellsR_at l k hk
  have d0 : w.cell? ⟨g, k * 2, none⟩ = some (.int .u16 (at0 l k).1) := (hc.cell _).trans c0
  have d1 : w.cell? ⟨g, k * 2 + 1, none⟩ = some (.bool (at0 l k).2) := (hc.cell _).trans c1
  have z0 := hc.frozen (k * 2)
  have z1 := hc.frozen (k * 2 + 1)
  have hpl : putL l k x = if putE l k x = 0 then l.set k (x, true) else l := by simp [putL]
  rw [hpl, hp]
  have hset := cellsR_set l k (x, true) hk
  generalize hA : at0 l k = A at *
  obtain ⟨y, b⟩ := A
  clear hA hp hpl c0 c1
  simp only at d0 d1
  unfold slR
  have hn2 : (k : Int) < (l.length : Int) := by omega
  cases b with
  | false =>
    simp only [Bool.false_eq_true, if_false, if_true]
    have HS := hid_into hset
    clear hset
    have HC := hid_into hc
    clear hc
    go_enter Tryz.func44, Tryz.ntmps44
    go_wp2_with fail
    go_ret
    refine ⟨rfl, ?_, (Only.set _ _ _ _).trans (Only.set _ _ _ _)⟩
    rw [← HS.out]
    exact (HC.out.set _ _).set _ _
  | true =>
    by_cases e : y = x
    · subst e
      simp only [if_true]
      go_enter Tryz.func44, Tryz.ntmps44
      go_wp2_with fail
      go_ret
      exact ⟨rfl, hc, Only.refl _ _⟩
    · simp only [if_true, if_neg e]
      go_enter Tryz.func44, Tryz.ntmps44
      go_wp2_with fail
      go_ret
      exact ⟨rfl, hc, Only.refl _ _⟩
end
end Go.Proofs.YtbfldcieibdapabGreat.In
end
