/-
  Joined from: LkMem, LkPack, LkLp, LkApp, LkParse.
-/
import Derived.Test.YtahodgmdikaedaaDoorM09
import Derived.Great.BuildSlice
import Derived.Great.Walk
import Derived.Lib.SliceRun
import Derived.Deep.MidRow
import Derived.Laws.StructEq
import Derived.Laws.BytesArg
import Derived.Deep.RegionHeld3
import Derived.Deep.RegionLaw
import Derived.Test.YtahodgmdikaedaaDoorM06
section
/-
  Blocks of cells, whole arrays as the walk meets them, what a change of some blocks leaves (out of net's and digest's seats).
-/
namespace Go.Proofs.YtahodgmdikaedaaDoor
open Go.RowKit
theorem hid_into {p : Prop} (h : p) : Hid p := h
theorem setCells_other (b k : Nat) (hk : k ≠ b) : ∀ (vs : List Value) (o : Nat) (w : World), (w.setCells b o vs).heap[k]? = w.heap[k]?
  | [], _, _ => rfl
  | v :: vs, o, w => by
    show ((w.setCell ⟨b, o, none⟩ v).setCells b (o + 1) vs).heap[k]? = _
    rw [setCells_other b k hk vs (o + 1) _, Below.heap_setCell _ _ _ _ hk]
theorem setCells_same (b : Nat) (t : TypeId) : ∀ (vs pre old : List Value) (w : World), w.heap[b]? = some (.cells (pre ++ old).toArray t (0, 0)) → old.length = vs.length → (w.setCells b pre.length vs).heap[b]? = some (.cells (pre ++ vs).toArray t (0, 0))
  | [], pre, old, w, h, hl => by
    have : old = [] := List.eq_nil_of_length_eq_zero hl
    subst this
    exact h
  | v :: vs, pre, [], w, h, hl => by simp at hl
  | v :: vs, pre, u :: old, w, h, hl => by
    have h1 : (w.setCell ⟨b, pre.length, none⟩ v).heap[b]? = some (.cells ((pre ++ [v]) ++ old).toArray t (0, 0)) := by
      simp only [World.setCell, Array.getElem?_modify, h]
      simp
    have h2 := setCells_same b t vs (pre ++ [v]) old _ h1 (by simpa using hl)
    show ((w.setCell ⟨b, pre.length, none⟩ v).setCells b (pre.length + 1) vs).heap[b]? = _
    simpa using h2
theorem setCells_rest (b : Nat) : ∀ (vs : List Value) (o : Nat) (w : World), (w.setCells b o vs).os = w.os ∧ (w.setCells b o vs).tape = w.tape ∧ (w.setCells b o vs).output = w.output ∧ (w.setCells b o vs).heap.size = w.heap.size
  | [], _, _ => ⟨rfl, rfl, rfl, rfl⟩
  | v :: vs, o, w => by
    have h := setCells_rest b vs (o + 1) (w.setCell ⟨b, o, none⟩ v)
    exact ⟨h.1, h.2.1, h.2.2.1, h.2.2.2.trans (by simp [World.setCell])⟩

/-- Block g is a row of cells. -/
def Cw (w : World) (g : Nat) (cs : List Value) (t : TypeId) : Prop := w.heap[g]? = some (.cells cs.toArray t (0, 0))
theorem Cw.lt {w : World} {g : Nat} {cs : List Value} {t : TypeId} (h : Cw w g cs t) : g < w.heap.size := (Array.getElem?_eq_some_iff.1 h).1
theorem Cw.cell {w : World} {g : Nat} {cs : List Value} {t : TypeId} (h : Cw w g cs t) (i : Nat) : w.cell? ⟨g, i, none⟩ = cs[i]? := by
  rw [cell_of_row w g i _ _ _ h]; simp
theorem Cw.frozen {w : World} {g : Nat} {cs : List Value} {t : TypeId} (h : Cw w g cs t) (i : Nat) : w.frozen? ⟨g, i, none⟩ = false := by
  simp only [World.frozen?, show w.heap[g]? = _ from h]; simp
theorem Cw.set {w : World} {g : Nat} {cs : List Value} {t : TypeId} (h : Cw w g cs t) (i : Nat) (x : Value) : Cw (w.setCell ⟨g, i, none⟩ x) g (cs.set i x) t := by
  have h' : w.heap[g]? = some (.cells cs.toArray t (0, 0)) := h
  simp only [Cw, World.setCell, Array.getElem?_modify, h']
  simp
theorem Cw.range {w : World} {g : Nat} {cs : List Value} {t : TypeId} (h : Cw w g cs t) : w.rangeAt g 0 cs := by
  intro j u hu
  rw [Nat.zero_add, h.cell]; exact hu
theorem Cw.there {w : World} {g : Nat} {cs : List Value} {t : TypeId} (h : Cw w g cs t) : w.there g 0 cs.length := by
  intro j hj
  rw [Nat.zero_add, h.cell, h.frozen]
  simp [hj]
theorem Cw.put {w : World} {g : Nat} {cs ds : List Value} {t : TypeId} (h : Cw w g cs t) (hl : cs.length = ds.length) : Cw (w.setCells g 0 ds) g ds t :=
  setCells_same g t ds [] cs w h hl
theorem Cw.new (w : World) (cs : List Value) (t : TypeId) : Cw (w.alloc (.cells cs.toArray t)) w.heap.size cs t := heap_alloc_new w _
theorem Cw.keep {w w' : World} {g : Nat} {cs : List Value} {t : TypeId} (h : Cw w g cs t) (hk : w'.heap[g]? = w.heap[g]?) : Cw w' g cs t := hk.trans h
theorem Cw.alloc {w : World} {g : Nat} {cs : List Value} {t : TypeId} (h : Cw w g cs t) (b : Obj) : Cw (w.alloc b) g cs t := h.keep (Below.heap_alloc _ _ _ h.lt)
theorem Cw.below {w w' : World} {g : Nat} {cs : List Value} {t : TypeId} (h : Cw w g cs t) {B : Nat} (hb : Below B w w') (hg : g < B) : Cw w' g cs t := h.keep (hb.block g hg)
theorem Cw.other {w : World} {g : Nat} {cs : List Value} {t : TypeId} (h : Cw w g cs t) (b o : Nat) (ds : List Value) (hg : g ≠ b) : Cw (w.setCells b o ds) g cs t := h.keep (setCells_other b g hg _ _ _)

theorem cellsOf_set (ws : List Int) (i : Nat) (x : Int) : (cellsOf ws).set i (.int .u8 x) = cellsOf (ws.set i x) := by simp [cellsOf, List.map_set]
theorem Cw.byte {w : World} {g : Nat} {ws : List Int} {t : TypeId} (h : Cw w g (cellsOf ws) t) (i : Nat) (hi : i < ws.length) : w.cell? ⟨g, i, none⟩ = some (.int .u8 (ws.getD i 0)) := by
  rw [h.cell, cellsOf_get' ws i hi]
theorem Cw.setB {w : World} {g : Nat} {ws : List Int} {t : TypeId} (h : Cw w g (cellsOf ws) t) (i : Nat) (x : Int) : Cw (w.setCell ⟨g, i, none⟩ (.int .u8 x)) g (cellsOf (ws.set i x)) t := by
  rw [← cellsOf_set]; exact h.set i _
theorem Cw.bs {w : World} {g : Nat} {zs : List Int} {t : TypeId} (h : Cw w g (cellsOf zs) t) (hm : zs.length ≤ maxLen) : Bs w (.slice (some ⟨g, 0, none⟩) zs.length zs.length) zs := Bs_of_block h hm

/-- A store of a whole row into the row of block g. -/
theorem setCells_below {w0 w : World} {B g : Nat} (hb : Below B w0 w) (hg : B ≤ g) (ds : List Value) : Below B w0 (w.setCells g 0 ds) := by
  have h := setCells_rest g ds 0 w
  exact ⟨h.1.trans hb.os, h.2.1.trans hb.tape, h.2.2.1.trans hb.output, by rw [h.2.2.2]; exact hb.size, fun k hk => (setCells_other g k (by omega) ds 0 w).trans (hb.block k hk)⟩


theorem Sm.cw {w w' : World} (h : Sm w w') {g : Nat} {cs : List Value} {t : TypeId} (hb : Cw w g cs t) : Cw w' g cs t := hb.keep (by rw [h.heap])
/-- Only block g may have changed; no block is new. -/
structure Only (g : Nat) (w w' : World) : Prop where
  os : w'.os = w.os
  tape : w'.tape = w.tape
  output : w'.output = w.output
  size : w'.heap.size = w.heap.size
  block : ∀ k, k ≠ g → w'.heap[k]? = w.heap[k]?
theorem Only.refl (g : Nat) (w : World) : Only g w w := ⟨rfl, rfl, rfl, rfl, fun _ _ => rfl⟩
theorem Only.trans {g : Nat} {a b c : World} (h : Only g a b) (k : Only g b c) : Only g a c := ⟨k.os.trans h.os, k.tape.trans h.tape, k.output.trans h.output, k.size.trans h.size, fun i hi => (k.block i hi).trans (h.block i hi)⟩
theorem Only.set (g i : Nat) (w : World) (v : Value) : Only g w (w.setCell ⟨g, i, none⟩ v) := ⟨rfl, rfl, rfl, by simp [World.setCell], fun _ hk => Below.heap_setCell _ _ _ _ hk⟩
theorem Only.sets (g o : Nat) (w : World) (ds : List Value) : Only g w (w.setCells g o ds) :=
  have h := setCells_rest g ds o w
  ⟨h.1, h.2.1, h.2.2.1, h.2.2.2, fun _ hk => setCells_other g _ hk ds o w⟩
theorem Only.below {g B : Nat} {w w' : World} (h : Only g w w') (hg : B ≤ g) : Below B w w' := ⟨h.os, h.tape, h.output, by rw [h.size]; exact Nat.le_refl _, fun k hk => h.block k (by omega)⟩
theorem Only.drew {g : Nat} {w w' : World} (h : Only g w w') : Only g w w'.drew := ⟨h.os, h.tape, h.output, h.size, h.block⟩
theorem Only.drewN {g : Nat} {w w' : World} (h : Only g w w') (n : Nat) : Only g w (w'.drewN n) := ⟨h.os, h.tape, h.output, h.size, h.block⟩
theorem Only.cw {g k : Nat} {w w' : World} {cs : List Value} {t : TypeId} (h : Only g w w') (hc : Cw w k cs t) (hk : k ≠ g) : Cw w' k cs t := hc.keep (h.block k hk)
theorem Only.bs {g : Nat} {w w' : World} {v : Value} {zs : List Int} (h : Only g w w') (hb : Bs w v zs) (hv : v.ownBlock ≠ some g) : Bs w' v zs := hb.keep fun k hk _ => h.block k (fun e => hv (by rw [hk, e]))
theorem Only.sm {g : Nat} {w w' : World} (h : Sm w w') : Only g w w' := ⟨h.os, h.tape, h.output, h.size, fun _ _ => by rw [h.heap]⟩

section
variable {ops : Array Oper} {rest : List Oper} {o : Oper} {a : Act} {w : World} {Q : Exit → Act → World → Prop}
theorem wpList_alloc_row (hg : o.guard = none) (ty : TypeId) (ho : o.op = .alloc ty) (cs : List Value) (hz : (Tryd.prog.info? ty).bind (·.zero) = some (.agg cs.toArray))
    (h : ∀ W, Cw W w.heap.size cs ty → Below w.heap.size w W → Hid (W.heap.size = w.heap.size + 1) → wpList Tryd.prog ops Q rest (a.put o.dst (.pointer (some ⟨w.heap.size, 0, none⟩))) W) : wpList Tryd.prog ops Q (o :: rest) a w := by
  cases hi : Tryd.prog.info? ty with
  | none => rw [hi] at hz; cases hz
  | some i =>
    have hz' : i.zero = some (.agg cs.toArray) := by rw [hi] at hz; exact hz
    refine wpList_plain hg fun _ hK => ?_
    unfold Oper.wp execOp
    simp only [ho, Sem.run_bind, Instr.alloc, zeroValue, typeInfo, hi, hz', newVar, newRow, run_newObj_alloc, Sem.run_pure, Result.andThen_ok, run_program]
    exact hK _ _ (h _ (Cw.new w cs ty) ((Below.refl _ _).alloc (Nat.le_refl _) _) (World.size_alloc _ _))
theorem wpList_box_row (hg : o.guard = none) (ty : TypeId) (x : Operand) (ho : o.op = .box ty x) (cs : List Value) (hx : a.eval x = .agg cs.toArray)
    (h : ∀ W, Cw W w.heap.size cs ty → Below w.heap.size w W → Hid (W.heap.size = w.heap.size + 1) → wpList Tryd.prog ops Q rest (a.put o.dst (.pointer (some ⟨w.heap.size, 0, none⟩))) W) : wpList Tryd.prog ops Q (o :: rest) a w := by
  refine Great.wpList_boxTo hg ty x ho o.dst rfl w.heap.size rfl cs.toArray (by rw [hx]; rfl) ?_
  exact h _ (Cw.new w cs ty) ((Below.refl _ _).alloc (Nat.le_refl _) _) (World.size_alloc _ _)
theorem wpList_store_rw (hg : o.guard = none) (ty : TypeId) (x y : Operand) (ho : o.op = .store ty x y) (g : Nat) (cs ds : List Value) (t : TypeId) (hx : a.eval x = .pointer (some ⟨g, 0, none⟩)) (hy : a.eval y = .agg ds.toArray)
    (hc : Cw w g cs t) (hi : Hid ((Tryd.prog.info? ty).map (·.size) = some cs.length)) (hl : Hid (cs.length = ds.length)) (h1 : ∀ v ∈ ds, v.oneCell' = true)
    (h : ∀ W, Cw W g ds t → Only g w W → wpList Tryd.prog ops Q rest (a.put o.dst undef) W) : wpList Tryd.prog ops Q (o :: rest) a w := by
  refine wpList_store_mid hg ty x y ho g 0 ds.toArray hx hy (by rw [List.size_toArray, ← hl.out]; exact hc.there) (by rw [List.size_toArray, ← hl.out]; exact hi.out) (all_oneCell_toArray h1) ?_
  exact h _ (hc.put hl.out) (Only.sets g 0 w ds)
theorem wpList_load_rw (hg : o.guard = none) (ty : TypeId) (x : Operand) (ho : o.op = .load ty x) (g : Nat) (cs : List Value) (t : TypeId) (d : TypeDesc) (hx : a.eval x = .pointer (some ⟨g, 0, none⟩))
    (hc : Cw w g cs t) (hu : Tryd.prog.underlying ty = some d) (hd : d.isRow = true) (hi : Hid ((Tryd.prog.info? ty).map (·.size) = some cs.length))
    (h : wpList Tryd.prog ops Q rest (a.put o.dst (.agg cs.toArray)) w) : wpList Tryd.prog ops Q (o :: rest) a w :=
  wpList_load_mid hg ty x ho g 0 hx cs d hc.range hu hd hi.out h
end

/-- A row that a result variable holds is what is returned. -/
theorem ret_row {f : Func} {a : Act} {g : Nat} {cs : List Value} {t : TypeId} {w : World} {post : Ending → World → Prop} {r : Tmp} {ty : TypeId} {d : TypeDesc} (hf : f.results = #[.cell r ty]) (hr : a.tmps.getD r undef = .pointer (some ⟨g, 0, none⟩)) (hdf : a.defers = [])
    (hc : Cw w g cs t) (hu : Tryd.prog.underlying ty = some d) (hd : d.isRow = true) (hi : Hid ((Tryd.prog.info? ty).map (·.size) = some cs.length)) (h : post (.returned (.agg cs.toArray)) w) : bodyPost Tryd.prog f post .ret a w :=
  bodyPost_ret (results_cell_row hf a.tmps w g t cs.toArray (0, 0) d hr hc hu (by cases d <;> first | rfl | cases hd) (by rw [List.size_toArray]; exact hi.out)) hdf h


theorem setCells_mid (b : Nat) (t : TypeId) (post : List Value) : ∀ (vs pre old : List Value) (w : World), Cw w b (pre ++ old ++ post) t → old.length = vs.length → Cw (w.setCells b pre.length vs) b (pre ++ vs ++ post) t
  | [], pre, old, w, h, hl => by
    have : old = [] := List.eq_nil_of_length_eq_zero hl
    subst this
    exact h
  | v :: vs, pre, [], w, h, hl => by simp at hl
  | v :: vs, pre, u :: old, w, h, hl => by
    have h1 : Cw (w.setCell ⟨b, pre.length, none⟩ v) b ((pre ++ [v]) ++ old ++ post) t := by
      have := h.set pre.length v
      simpa using this
    have h2 := setCells_mid b t post vs (pre ++ [v]) old _ h1 (by simpa using hl)
    show Cw ((w.setCell ⟨b, pre.length, none⟩ v).setCells b (pre.length + 1) vs) b _ t
    simpa using h2
theorem Cw.thereAt {w : World} {g : Nat} {cs : List Value} {t : TypeId} (h : Cw w g cs t) (o n : Nat) (hn : o + n ≤ cs.length) : w.there g o n := by
  intro j hj
  rw [h.cell, h.frozen]
  simp [show o + j < cs.length by omega]
theorem run_clear_row {P : Program} (w : World) (t e ty : TypeId) (z : Value) (ht : P.underlying t = some (.slice e)) (hv : ∀ w, (zeroValue e).run P w = .ok z w) (b o n c : Nat) (hn : 0 < n) (zs : List Value) (hz : (Builtin.zeroCells z.cells n).toList = zs)
    (h1 : ∀ u ∈ zs, u.oneCell' = true) (hc : w.there b o zs.length) :
    (Builtin.clear_ #[t] ty #[.slice (some ⟨b, o, none⟩) n c]).run P w = .ok (.tuple #[]) (w.setCells b o zs) := by
  have hst := run_storeCells_cells (P := P) b o zs 0 w (by intro j hj; simpa using (hc j hj).1) (by intro j hj; simpa using (hc j hj).2) h1
  simp only [Nat.add_zero] at hst
  obtain ⟨m, rfl⟩ : ∃ m, n = m + 1 := ⟨n - 1, by omega⟩
  simp [Builtin.clear_, run_underlying ht, hv, hz, hst]
/-- The world w' is w but for the blocks of F, and new ones. -/
structure Gr (F : Nat → Prop) (w w' : World) : Prop where
  os : w'.os = w.os
  tape : w'.tape = w.tape
  output : w'.output = w.output
  size : w.heap.size ≤ w'.heap.size
  block : ∀ k, k < w.heap.size → ¬ F k → w'.heap[k]? = w.heap[k]?
theorem Gr.refl (F : Nat → Prop) (w : World) : Gr F w w := ⟨rfl, rfl, rfl, Nat.le_refl _, fun _ _ _ => rfl⟩
theorem Gr.mono {F G : Nat → Prop} {w w' : World} (h : Gr F w w') (hg : ∀ k, F k → G k) : Gr G w w' := ⟨h.os, h.tape, h.output, h.size, fun k hk hn => h.block k hk fun hf => hn (hg k hf)⟩
theorem Gr.trans {F F' : Nat → Prop} {w w' w'' : World} (h : Gr F w w') (h' : Gr F' w' w'') (hn : ∀ k, F' k → F k ∨ w.heap.size ≤ k) : Gr F w w'' :=
  ⟨h'.os.trans h.os, h'.tape.trans h.tape, h'.output.trans h.output, Nat.le_trans h.size h'.size, fun k hk hf => (h'.block k (Nat.lt_of_lt_of_le hk h.size) fun h1 => by rcases hn k h1 with h2 | h2; exact hf h2; omega).trans (h.block k hk hf)⟩
theorem Gr.of_below {w w' : World} {B : Nat} (h : Below B w w') (F : Nat → Prop) (hF : ∀ k, k < w.heap.size → B ≤ k → F k) : Gr F w w' :=
  ⟨h.os, h.tape, h.output, h.size, fun k hk hf => by
    by_cases hb : k < B
    · exact h.block k hb
    · exact absurd (hF k hk (by omega)) hf⟩
theorem Gr.below {F : Nat → Prop} {w w' : World} (h : Gr F w w') {B : Nat} (hB : B ≤ w.heap.size) (hF : ∀ k, F k → B ≤ k) : Below B w w' :=
  ⟨h.os, h.tape, h.output, h.size, fun k hk => h.block k (by omega) fun hf => by have := hF k hf; omega⟩
theorem Gr.alloc (F : Nat → Prop) (w : World) (o : Obj) : Gr F w (w.alloc o) := ⟨rfl, rfl, rfl, by simp, fun k hk _ => Below.heap_alloc _ _ _ hk⟩
theorem Gr.drew (F : Nat → Prop) (w : World) : Gr F w w.drew := ⟨rfl, rfl, rfl, Nat.le_refl _, fun _ _ _ => rfl⟩
theorem Gr.setCell {F : Nat → Prop} (w : World) (a : Addr) (v : Value) (h : F a.block) : Gr F w (w.setCell a v) :=
  ⟨rfl, rfl, rfl, by simp [World.setCell], fun k _ hf => Below.heap_setCell _ _ _ _ fun e => hf (e ▸ h)⟩
theorem Gr.setCells {F : Nat → Prop} (w : World) (b o : Nat) (vs : List Value) (h : F b) : Gr F w (w.setCells b o vs) :=
  have k := setCells_rest b vs o w
  ⟨k.1, k.2.1, k.2.2.1, by rw [k.2.2.2]; exact Nat.le_refl _, fun j _ hf => setCells_other b j (fun e => hf (e ▸ h)) vs o w⟩
theorem Gr.grownBy {F : Nat → Prop} {w w' : World} {r : Option Nat} (h : w.grownBy w' r) (hr : ∀ k, r = some k → F k) : Gr F w w' :=
  ⟨h.os, h.tape, h.output, h.size, fun k hk hf => h.block k hk fun e => hf (hr k e.symm)⟩
theorem Gr.cw {F : Nat → Prop} {w w' : World} {g : Nat} {cs : List Value} {t : TypeId} (h : Gr F w w') (hc : Cw w g cs t) (hf : ¬ F g) : Cw w' g cs t := hc.keep (h.block g hc.lt hf)
theorem Gr.bs {F : Nat → Prop} {w w' : World} {v : Value} {zs : List Int} (h : Gr F w w') (hb : Bs w v zs) (hf : ∀ k, v.ownBlock = some k → ¬ F k) : Bs w' v zs := hb.keep fun k hk hl => h.block k hl (hf k hk)
end Go.Proofs.YtahodgmdikaedaaDoor
end

section
/-
  A packet's bytes, by contracts: nums, bytes.
-/
namespace Go.Proofs.YtahodgmdikaedaaDoor
open Go.RowKit
def ptrC (pb : Nat) : List Value := [.pointer (some ⟨pb, 0, none⟩), .pointer (some ⟨pb, 1, none⟩), .pointer (some ⟨pb, 2, none⟩)]
set_option maxHeartbeats 800000 in
theorem nums_any (w : World) (pb : Nat) : Calls Tryd.prog 61 #[.pointer (some ⟨pb, 0, none⟩)] w fun e w' => ∃ g, e = .returned (.slice (some ⟨g, 0, none⟩) 3 3) ∧ Cw w' g (ptrC pb) 111 ∧ Below w.heap.size w w' ∧ w.heap.size ≤ g := by
  go_enter Tryd.func61, Tryd.ntmps61
  go_wp2_with fail
  go_region_held3 (fun _ => True) (trivial) (fail)
  go_wp2_with fail
  go_ret
  exact ⟨w.heap.size, rfl, Cw.new w.drew (ptrC pb) 111, (Below.refl _ _).drew.alloc (Nat.le_refl _) _, Nat.le_refl _⟩
/-- A packet's cells, the row of pointers to its numbers, a Writer behind them. -/
structure Nm (W : World) (pb g wb : Nat) (cs : List Value) (v : Value) (xs : List Int) : Prop where
  k : Cw W pb cs 80
  c : Cw W g (ptrC pb) 111
  r : Wr W wb v xs
  n1 : pb < wb
  n2 : g ≠ wb
  n3 : v.ownBlock ≠ some g
theorem Nm.step {W W' : World} {pb g wb : Nat} {cs : List Value} {v v' : Value} {xs xs' : List Int} (h : Nm W pb g wb cs v xs) (hs : Wstep wb W v W' v') (hw : Wr W' wb v' xs') : Nm W' pb g wb cs v' xs' := by
  have h1 := h.n1
  refine ⟨h.k.keep (hs.block pb h.k.lt (by omega) fun e => ?_), h.c.keep (hs.block g h.c.lt h.n2 fun e => h.n3 e.symm), hw, h.n1, h.n2, fun e => ?_⟩
  · have := (World.ownsRow.lt h.r.2 pb e.symm).1
    omega
  · rcases hs.own with e2 | ⟨g2, e2, hg2⟩
    · exact h.n3 (by rw [← e2]; exact e)
    · rw [e2] at e
      have := Option.some.inj e
      have := h.c.lt
      omega
theorem Nm.cells {W : World} {pb g wb : Nat} {a b c d : Value} {v : Value} {xs : List Int} (h : Nm W pb g wb [a, b, c, d] v xs) :
    W.cell? ⟨g, 0, none⟩ = some (.pointer (some ⟨pb, 0, none⟩)) ∧ W.cell? ⟨g, 1, none⟩ = some (.pointer (some ⟨pb, 1, none⟩)) ∧ W.cell? ⟨g, 2, none⟩ = some (.pointer (some ⟨pb, 2, none⟩)) ∧
    W.cell? ⟨pb, 0, none⟩ = some a ∧ W.cell? ⟨pb, 1, none⟩ = some b ∧ W.cell? ⟨pb, 2, none⟩ = some c ∧ W.cell? ⟨pb, 3, none⟩ = some d :=
  ⟨h.c.cell 0, h.c.cell 1, h.c.cell 2, h.k.cell 0, h.k.cell 1, h.k.cell 2, h.k.cell 3⟩
set_option maxHeartbeats 3200000 in
set_option maxRecDepth 20000 in
theorem bytes_any (w : World) (id : Int) (hi : -9223372036854775808 ≤ id ∧ id ≤ 9223372036854775807) (p : Pk) (hg : p.Good) (rv : Value) (hr : Bs w rv p.row) (hl : ∀ k, rv.ownBlock = some k → k < w.heap.size) (ht : Tab w) :
    Calls Tryd.prog 57 #[.agg #[.int .i64 id, .int .i64 p.n, .int .i64 p.ack, rv]] w fun e w' => ∃ ao cap, e = .returned (.slice ao (encP id p).length cap) ∧ Ow w' w.heap.size (.slice ao (encP id p).length cap) (encP id p) ∧ Below w.heap.size w w' := by
  have a1 := hg.n
  have a2 := hg.a
  have a3 := hg.l
  have HB := hid_into (pkB_byt id hi p hg)
  have HL := hid_into (pkB_len id p hg)
  have HT := hid_into ht
  have HR := hid_into hr
  have HS : Hid (∀ (W : World) (b : Nat) (v : Value) (xs : List Int), w.heap.size ≤ b → Wr W b v xs → ∀ k, rv.ownBlock = some k → k ≠ b ∧ some k ≠ v.ownBlock) := fun W b v xs hb hW k hk => by
    have h1 := hl k hk
    refine ⟨by omega, fun e => ?_⟩
    have := (World.ownsRow.lt hW.2 k e.symm).1
    omega
  clear ht hr hl
  have l1 := hid_into (numOf_length id)
  have l2 := hid_into (numOf_length (p.n : Int))
  have l3 := hid_into (numOf_length (p.ack : Int))
  go_enter Tryd.func57, Tryd.ntmps57
  go_wp2_with (first
    | (refine wpList_box_row rfl 80 (.tmp 0) rfl [.int .i64 id, .int .i64 p.n, .int .i64 p.ack, rv] (by rfl) ?_; intro w1 bx hb hs1; have b0 := bx.cell 0; have b1 := bx.cell 1; have b2 := bx.cell 2; have b3 := bx.cell 3; simp only [List.getElem?_cons_zero, List.getElem?_cons_succ] at b0 b1 b2 b3))
  have hw0 : Wr (w1.alloc (.cells #[.slice none 0 0] 114)) w1.heap.size (.slice none 0 0) [] := Wr_new w1
  have B1 : Below w.heap.size w (w1.alloc (.cells #[.slice none 0 0] 114)) := hb.alloc hb.size _
  have z1 : w.heap.size < w1.heap.size := by have := hs1.out; omega
  have k0 := bx.alloc (.cells #[.slice none 0 0] 114)
  clear b0 b1 b2 b3 bx
  generalize w1.alloc (.cells #[.slice none 0 0] 114) = w2 at *
  generalize w1.heap.size = wb at *
  refine (nums_any w2 w.heap.size).mono ?_
  rintro e w3 ⟨g, rfl, hc, B2, hg3⟩
  have N3 : Nm w3 w.heap.size g wb [.int .i64 id, .int .i64 p.n, .int .i64 p.ack, rv] (.slice none 0 0) [] := ⟨k0.below B2 k0.lt, hc, hw0.keepB B2, z1, by have := hw0.lt; omega, by simp [Value.ownBlock]⟩
  have B3 : Below w.heap.size w w3 := B1.trans (B2.mono B1.size)
  obtain ⟨c0, c1, c2, b0, b1, b2, b3⟩ := N3.cells
  clear hw0 k0 B1 B2 hg3 hs1 hb hc
  go_wp2_with fail
  refine wp_loop_rounds 4 ?_
  rw [rounds_succ]
  go_wp2_with (go_at_call 66; refine (num_w wb _ [] id _ N3.r (by decide) hi.1 hi.2).mono ?_; rintro e w4 ⟨rfl, v4, hw4, hs4⟩; have N4 := N3.step hs4 hw4; have B4 := B3.trans (N3.r.below hs4 (Nat.le_of_lt z1)); clear c0 c1 c2 b0 b1 b2 b3; obtain ⟨c0, c1, c2, b0, b1, b2, b3⟩ := N4.cells)
  rw [List.nil_append] at hw4 N4
  clear hs4 hw4 N3 B3
  rw [rounds_succ]
  go_wp2_with (go_at_call 66; refine (num_w wb _ (numOf id) p.n _ N4.r (by have := l1.out; omega) (by omega) (by omega)).mono ?_; rintro e w5 ⟨rfl, v5, hw5, hs5⟩; have N5 := N4.step hs5 hw5; have B5 := B4.trans (N4.r.below hs5 (Nat.le_of_lt z1)); clear c0 c1 c2 b0 b1 b2 b3; obtain ⟨c0, c1, c2, b0, b1, b2, b3⟩ := N5.cells)
  clear hs5 hw5 N4 B4
  rw [rounds_succ]
  go_wp2_with (go_at_call 66; refine (num_w wb _ (numOf id ++ numOf p.n) p.ack _ N5.r (by have := l1.out; have := l2.out; rw [List.length_append]; omega) (by omega) (by omega)).mono ?_; rintro e w6 ⟨rfl, v6, hw6, hs6⟩; have N6 := N5.step hs6 hw6; have B6 := B5.trans (N5.r.below hs6 (Nat.le_of_lt z1)); clear c0 c1 c2 b0 b1 b2 b3; obtain ⟨c0, c1, c2, b0, b1, b2, b3⟩ := N6.cells)
  clear hs6 hw6 N5 B5
  have LL := HL
  by_cases c : 0 < p.n
  · have HP : Hid (numOf id ++ numOf p.n ++ numOf p.ack ++ numOf p.row.length ++ p.row = pkB id p) := by show _ = _; unfold pkB; rw [if_pos c]; simp only [List.append_assoc]
    have HR6 := HR.out.below B6 (Nat.le_refl _)
    have S6 := HS.out w6 wb v6 _ (Nat.le_of_lt z1) N6.r
    have c' : (0 : Int) < p.n := by omega
    have lx : (numOf id ++ numOf p.n ++ numOf p.ack).length ≤ 30 := by have := l1.out; have := l2.out; have := l3.out; rw [List.length_append, List.length_append]; omega
    rw [rounds_succ]
    go_wp2_with fail
    refine (bytes_w wb v6 _ rv p.row _ N6.r HR6 S6 (by omega) (by omega)).mono ?_
    rintro e w7 ⟨rfl, v7, hw7, hs7⟩
    rw [HP.out] at hw7
    have N7 := N6.step hs7 hw7
    have B7 := B6.trans (N6.r.below hs7 (Nat.le_of_lt z1))
    clear hs7 hw7 N6 B6 HR6 S6 HP c0 c1 c2 b0 b1 b2 b3
    go_wp2_with fail
    refine (out_w wb v7 _ _ N7.r (by have := LL.out; omega)).mono ?_
    rintro e w8 ⟨ao8, cap8, rfl, ho8, hb8⟩
    have B8 : Below w.heap.size w w8 := B7.trans (hb8.mono B7.size)
    have T8 := HT.out.below B8 HT.out.lt
    go_wp2_with fail
    refine (enc_any2 _ (pkB id p) w8 ho8.bs HB.out (by have := HL.out; omega) T8).mono ?_
    rintro e w9 ⟨ao9, cap9, rfl, ho9, hb9⟩
    have B9 : Below w.heap.size w w9 := B8.trans (hb9.mono B8.size)
    go_wp2_with fail
    go_ret
    exact ⟨ao9, cap9, rfl, ho9.mono B8.size, B9⟩
  · have HP : Hid (numOf id ++ numOf p.n ++ numOf p.ack = pkB id p) := by show _ = _; unfold pkB; rw [if_neg c, List.append_nil]
    have c' : ¬ (0 : Int) < p.n := by omega
    rw [HP.out] at N6
    rw [rounds_succ]
    go_wp2_with fail
    refine (out_w wb v6 _ _ N6.r (by have := LL.out; omega)).mono ?_
    rintro e w8 ⟨ao8, cap8, rfl, ho8, hb8⟩
    have B8 : Below w.heap.size w w8 := B6.trans (hb8.mono B6.size)
    have T8 := HT.out.below B8 HT.out.lt
    go_wp2_with fail
    refine (enc_any2 _ (pkB id p) w8 ho8.bs HB.out (by have := HL.out; omega) T8).mono ?_
    rintro e w9 ⟨ao9, cap9, rfl, ho9, hb9⟩
    have B9 : Below w.heap.size w w9 := B8.trans (hb9.mono B8.size)
    go_wp2_with fail
    go_ret
    exact ⟨ao9, cap9, rfl, ho9.mono B8.size, B9⟩
end Go.Proofs.YtahodgmdikaedaaDoor
end

section
/-
  The program's Link in memory (Lp): its cells, its rows; pack, by contract.
-/
namespace Go.Proofs.YtahodgmdikaedaaDoor
open Go.RowKit
def lpC (id : Int) (v : Value) (s : Lk) : List Value := [.int .i64 id, v, .int .i64 (s.way : Int), .int .i64 ((s.first - 1 : Nat) : Int), .int .i64 (s.came : Int), .int .i64 (s.since : Int), .int .i64 (s.sent : Int), .int .i64 (s.vain : Int)]
/-- What always holds of an end's numbers. -/
structure Lok (s : Lk) : Prop where
  f : 1 ≤ s.first
  w : s.way ≤ s.L.length
  w6 : s.way ≤ 16
  l : s.L.length ≤ 1000
  t : s.since ≤ 5
  bf : s.first ≤ 100000000000000
  bc : s.came ≤ 100000000000000
  bs : s.sent ≤ 100000000000000
  bv : s.vain ≤ 100000000000000
/-- The Link at block lb, of number id, its row of rows v, all its blocks in F. -/
structure Lp (w : World) (F : Nat → Prop) (lb : Nat) (v : Value) (rs : List Rw2) (id : Int) (s : Lk) : Prop where
  q : Cw w lb (lpC id v s) 77
  row : w.ownsRow 0 29 1 v rs.length (slOf rs)
  e : bytesOf2 rs = s.L
  each : ∀ r ∈ rs, Bs w r.1 r.2 ∧ Byt r.2 ∧ r.2.length ≤ 4096 ∧ ∀ k, r.1.ownBlock = some k → F k ∧ k ≠ lb ∧ v.ownBlock ≠ some k
  fl : F lb
  fv : ∀ k, v.ownBlock = some k → F k ∧ k ≠ lb
  hi : ∀ k, F k → k < w.heap.size
  i : -9223372036854775808 ≤ id ∧ id ≤ 9223372036854775807
  ok : Lok s
section
variable {w w' : World} {F : Nat → Prop} {lb : Nat} {v : Value} {rs : List Rw2} {id : Int} {s s' : Lk}
theorem Lp.len (h : Lp w F lb v rs id s) : rs.length = s.L.length := by rw [← h.e, bytesOf2_len]
/-- A change of the Link's own cells alone. -/
theorem Lp.put (h : Lp w F lb v rs id s) (hq : Cw w' lb (lpC id v s') 77) (hk : ∀ k, F k → k ≠ lb → w'.heap[k]? = w.heap[k]?) (hs : w.heap.size ≤ w'.heap.size) (hL : s'.L = s.L) (ok : Lok s') : Lp w' F lb v rs id s' :=
  ⟨hq, ownsRow_keep h.row fun k hk1 _ => hk k (h.fv k hk1).1 (h.fv k hk1).2, by rw [hL]; exact h.e, fun r hr => by
    obtain ⟨h1, h2, h3, h4⟩ := h.each r hr
    exact ⟨h1.keep fun k hk1 _ => hk k (h4 k hk1).1 (h4 k hk1).2.1, h2, h3, h4⟩, h.fl, h.fv, fun k hF => Nat.lt_of_lt_of_le (h.hi k hF) hs, h.i, ok⟩
theorem Lp.keep (h : Lp w F lb v rs id s) (hk : ∀ k, F k → w'.heap[k]? = w.heap[k]?) (hs : w.heap.size ≤ w'.heap.size) : Lp w' F lb v rs id s :=
  h.put (h.q.keep (hk lb h.fl)) (fun k hF _ => hk k hF) hs rfl h.ok
theorem Lp.below (h : Lp w F lb v rs id s) (hb : Below w.heap.size w w') : Lp w' F lb v rs id s := h.keep (fun k hF => hb.block k (h.hi k hF)) hb.size
theorem Lp.drew (h : Lp w F lb v rs id s) : Lp w.drew F lb v rs id s := h.keep (fun _ _ => rfl) (Nat.le_refl _)
theorem Lp.gr {G : Nat → Prop} (h : Lp w F lb v rs id s) (hg : Gr G w w') (hn : ∀ k, F k → ¬ G k) : Lp w' F lb v rs id s := h.keep (fun k hF => hg.block k (h.hi k hF) (hn k hF)) hg.size
theorem Lp.cells (h : Lp w F lb v rs id s) : w.cell? ⟨lb, 0, none⟩ = some (.int .i64 id) ∧ w.cell? ⟨lb, 1, none⟩ = some v ∧ w.cell? ⟨lb, 2, none⟩ = some (.int .i64 (s.way : Int)) ∧ w.cell? ⟨lb, 3, none⟩ = some (.int .i64 ((s.first - 1 : Nat) : Int)) ∧ w.cell? ⟨lb, 4, none⟩ = some (.int .i64 (s.came : Int)) ∧ w.cell? ⟨lb, 5, none⟩ = some (.int .i64 (s.since : Int)) ∧ w.cell? ⟨lb, 6, none⟩ = some (.int .i64 (s.sent : Int)) ∧ w.cell? ⟨lb, 7, none⟩ = some (.int .i64 (s.vain : Int)) :=
  ⟨h.q.cell 0, h.q.cell 1, h.q.cell 2, h.q.cell 3, h.q.cell 4, h.q.cell 5, h.q.cell 6, h.q.cell 7⟩
/-- A store into one of the Link's number cells. -/
theorem Lp.set (h : Lp w F lb v rs id s) (i : Nat) (x : Value) (he : (lpC id v s).set i x = lpC id v s') (hL : s'.L = s.L) (ok : Lok s') : Lp (w.setCell ⟨lb, i, none⟩ x) F lb v rs id s' ∧ Gr (fun k => k = lb) w (w.setCell ⟨lb, i, none⟩ x) := by
  refine ⟨h.put ?_ (fun k _ hk => Below.heap_setCell _ _ _ _ hk) (by simp [World.setCell]) hL ok, Gr.setCell _ _ _ rfl⟩
  rw [← he]
  exact h.q.set i x
theorem Lp.fz (h : Lp w F lb v rs id s) (i : Nat) : w.frozen? ⟨lb, i, none⟩ = false := h.q.frozen i
end
/-- One more packet went out. -/
def Lk.sent1 (s : Lk) : Lk := { s with sent := s.sent + 1 }
set_option maxHeartbeats 1600000 in
set_option maxRecDepth 20000 in
theorem pack_any {w : World} {F : Nat → Prop} {lb : Nat} {v : Value} {rs : List Rw2} {id : Int} {s : Lk} (h : Lp w F lb v rs id s) (hb : s.sent < 100000000000000) (ht : Tab w) (h0 : ¬ F 0) (n : Nat) (rv : Value) (row : List Int) (hr : Bs w rv row) (hl : ∀ k, rv.ownBlock = some k → k < w.heap.size ∧ k ≠ lb) (hg : Pk.Good ⟨n, s.came, row⟩) :
    Calls Tryd.prog 50 #[.pointer (some ⟨lb, 0, none⟩), .int .i64 n, rv] w fun e w' => ∃ ao cap, e = .returned (.slice ao (encP id ⟨n, s.came, row⟩).length cap) ∧ Ow w' w.heap.size (.slice ao (encP id ⟨n, s.came, row⟩).length cap) (encP id ⟨n, s.came, row⟩) ∧ Lp w' F lb v rs id s.sent1 ∧ Gr (fun k => k = lb) w w' := by
  have ok1 : Lok s.sent1 := ⟨h.ok.f, h.ok.w, h.ok.w6, h.ok.l, h.ok.t, h.ok.bf, h.ok.bc, hb, h.ok.bv⟩
  obtain ⟨h1, g1⟩ := h.set 6 (.int .i64 ((s.sent : Int) + 1)) (s' := s.sent1) rfl rfl ok1
  obtain ⟨c0, _, _, _, c4, _, c6, _⟩ := h.cells
  have f6 := h.fz 6
  have sz : (w.setCell ⟨lb, 6, none⟩ (.int .i64 ((s.sent : Int) + 1))).heap.size = w.heap.size := by simp [World.setCell]
  have C : ∀ W, W = (w.setCell ⟨lb, 6, none⟩ (.int .i64 ((s.sent : Int) + 1))) → Calls Tryd.prog 57 #[.agg #[.int .i64 id, .int .i64 n, .int .i64 (s.came : Int), rv]] W.drew fun e w' => ∃ ao cap, e = .returned (.slice ao (encP id ⟨n, s.came, row⟩).length cap) ∧ Ow w' w.heap.size (.slice ao (encP id ⟨n, s.came, row⟩).length cap) (encP id ⟨n, s.came, row⟩) ∧ Lp w' F lb v rs id s.sent1 ∧ Gr (fun k => k = lb) w w' := by
    rintro W rfl
    have ht1 : Tab ((w.setCell ⟨lb, 6, none⟩ (.int .i64 ((s.sent : Int) + 1)))).drew := fun i hi => by
      rw [← ht i hi]
      exact World.cell?_of_block (w := w) (g1.block 0 ht.lt fun e => h0 (by rw [e]; exact h.fl))
    refine (bytes_any (w.setCell ⟨lb, 6, none⟩ (.int .i64 ((s.sent : Int) + 1))).drew id h.i ⟨n, s.came, row⟩ hg rv (g1.bs hr fun k hk e => (hl k hk).2 e) (fun k hk => by have := (hl k hk).1; show k < (w.setCell _ _).heap.size; omega) ht1).mono ?_
    rintro e w' ⟨ao, cap, rfl, ho, hB⟩
    have e1 : (w.setCell ⟨lb, 6, none⟩ (.int .i64 ((s.sent : Int) + 1))).drew.heap.size = w.heap.size := sz
    exact ⟨ao, cap, rfl, by rw [e1] at ho; exact ho, h1.drew.below hB, (g1.trans (Gr.drew (fun k => k = lb) _) fun k hk => Or.inl hk).trans (Gr.of_below hB (fun _ => False) fun k hk hb => by omega) fun k hk => hk.elim⟩
  obtain ⟨k0, _, _, _, k4, _, _, _⟩ := h1.cells
  have hs : (s.sent : Int) < 100000000000000 := by omega
  have C := hid_into C
  obtain ⟨ar, cr, hrv, _⟩ := hr.len
  subst hrv
  clear h h1 g1 ok1 hr hl hg ht sz hb h0
  go_enter Tryd.func50, Tryd.ntmps50
  go_wp2_with fail
  go_region_held3 (fun W => W.cell? ⟨lb, 0, none⟩ = some (.int .i64 id) ∧ W.cell? ⟨lb, 4, none⟩ = some (.int .i64 (s.came : Int))) (first | exact ⟨q0, q4⟩ | exact ⟨k0, k4⟩) (first | (go_at_call 57; refine (C.out _ rfl).mono ?_; rintro e w2 ⟨ao, cap, rfl, ho, hp, hgr⟩; obtain ⟨q0, _, _, _, q4, _, _, _⟩ := hp.cells))
  go_wp2_with fail
  go_ret
  exact ⟨ao, cap, rfl, ho, hp, hgr⟩
end Go.Proofs.YtahodgmdikaedaaDoor
end

section
/-
  A row behind rows of one's own, as the walk meets it in a region: made, appended.
-/
namespace Go.Proofs.YtahodgmdikaedaaDoor
open Go.RowKit
theorem mk_row1 (W : World) (ap : Option Addr) (l cp : Nat) : (Instr.buildSlice 33 1 #[(0, .slice ap l cp)]).run Tryd.prog W = .ok (.slice (some ⟨W.heap.size, 0, none⟩) 1 1) (W.alloc (.cells #[.slice ap l cp] 29)) := by kernel_rfl
/-- An append of one row, its run. -/
theorem osl_app (w : World) (base : Nat) (v : Value) (rs : List Rw2) (hown : Osl w base v rs) (B : Nat) (ap : Option Addr) (cp : Nat) (zs : List Int) (hb : w.cell? ⟨B, 0, none⟩ = some (.slice ap zs.length cp))
    (hr : Ow w base (.slice ap zs.length cp) zs) (hy : Byt zs) (hl : zs.length ≤ 140737488355328) (hsep : ∀ k, (Value.slice ap zs.length cp).ownBlock = some k → v.ownBlock ≠ some k)
    (h63 : rs.length ≤ 1000000000) (hbase : base ≤ w.heap.size) :
    ∃ ao cap w', (∀ ty, (Builtin.append_ #[33, 33] ty #[v, .slice (some ⟨B, 0, none⟩) 1 1]).run Tryd.prog w = .ok (.slice ao (rs.length + 1) cap) w') ∧ Osl w' base (.slice ao (rs.length + 1) cap) (rs ++ [(.slice ap zs.length cp, zs)]) ∧ w.grownBy w' v.ownBlock ∧ ((Value.slice ao (rs.length + 1) cap).ownBlock = v.ownBlock ∨ (Value.slice ao (rs.length + 1) cap).ownBlock = some w.heap.size) := by
  obtain ⟨i0, hi, hz0, hz1, hz2⟩ := info_parts Tryd.info22
  obtain ⟨v', w', hrun, h2, h3, _, h5⟩ := run_append_own_at (P := Tryd.prog) w base 33 0 29 i0 (.slice none 0 0) 1 24 Tryd.underlying33 hi hz0 hz1 hz2 rfl (by decide) v rs.length (slOf rs) hown.row ⟨B, 0, none⟩ 1 1 [.slice ap zs.length cp] rfl
    (by intro j u hu
        cases j with
        | zero => rw [Addr.add_lit]; simp at hu; subst hu; exact hb
        | succ j => simp at hu) (by intro u hu; simp at hu; subst hu; rfl) (by unfold maxLen; omega) (by omega) hbase
  have h2' : w'.ownsRow base 29 1 v' (rs ++ [((.slice ap zs.length cp, zs) : Rw2)]).length (slOf (rs ++ [(.slice ap zs.length cp, zs)])) := by
    rw [List.length_append]
    simpa [slOf] using h2
  have hv' : ∃ ao cap, v' = .slice ao (rs.length + 1) cap := by
    rcases h2'.2 with ⟨_, h6⟩ | ⟨g, cap, cur, h6, _⟩
    · simp at h6
    · exact ⟨some ⟨g, 0, none⟩, cap, by rw [h6]; simp⟩
  obtain ⟨ao, cap, rfl⟩ := hv'
  have keep : ∀ (u : Value) (zs' : List Int), Ow w base u zs' → (∀ k, u.ownBlock = some k → v.ownBlock ≠ some k) → Ow w' base u zs' ∧ ∀ k, u.ownBlock = some k → (Value.slice ao (rs.length + 1) cap).ownBlock ≠ some k := by
    intro u zs' hu hne
    refine ⟨hu.keep fun k hk hlt => h3.block k hlt (fun e => hne k hk e.symm), fun k hk e => ?_⟩
    rcases h5 with h5 | h5
    · exact hne k hk (by rw [← h5]; exact e)
    · rw [h5] at e
      have := hu.lt k hk
      have := Option.some.inj e
      omega
  refine ⟨ao, cap, w', fun ty => hrun, ⟨h2', fun r hm => ?_⟩, h3, h5⟩
  rcases List.mem_append.1 hm with hm | hm
  · obtain ⟨e1, e2, e3, e4⟩ := hown.each r hm
    exact ⟨(keep _ _ e1 e4).1, e2, e3, (keep _ _ e1 e4).2⟩
  · have : r = (.slice ap zs.length cp, zs) := by simpa using hm
    subst this
    exact ⟨(keep _ _ hr hsep).1, hy, hl, (keep _ _ hr hsep).2⟩
section
variable {ops : Array Oper} {o : Oper} {a : Act} {w : World} {K : Act → World → Prop} {Q : Exit → Act → World → Prop} {E : Prop}
theorem step_made_row (hgd : o.guard = none) (x : Operand) (ho : o.op = .buildSlice 33 1 #[(0, x)]) (ap : Option Addr) (l cp : Nat) (hx : a.eval x = .slice ap l cp)
    (h : K (a.put o.dst (.slice (some ⟨w.heap.size, 0, none⟩) 1 1)) (w.alloc (.cells #[.slice ap l cp] 29))) : if Region.wanted o (yielded ops a.tmps) = true then Oper.wp Tryd.prog o a w K Q else E := by
  have hw : Region.wanted o (yielded ops a.tmps) = true := by simp [Region.wanted, hgd]
  rw [if_pos hw]
  unfold Oper.wp execOp
  simp only [ho, Sem.run_bind, List.map_toArray, List.map_cons, List.map_nil, hx, mk_row1, Result.andThen_ok]
  exact h
/-- An append whose run is known. -/
theorem step_append_eq {w' : World} (hgd : o.guard = none) (t : TypeId) (s x : Operand) (ho : o.op = .call { callee := .builtin .append, args := #[s, x], argTypes := #[t, t] })
    (v u v' : Value) (hs : a.eval s = v) (hx : a.eval x = u) (hr : ∀ ty, (Builtin.append_ #[t, t] ty #[v, u]).run Tryd.prog w = .ok v' w') (h : K (a.put o.dst v') w') : if Region.wanted o (yielded ops a.tmps) = true then Oper.wp Tryd.prog o a w K Q else E := by
  have hw : Region.wanted o (yielded ops a.tmps) = true := by simp [Region.wanted, hgd]
  rw [if_pos hw]
  unfold Oper.wp execOp
  simp only [ho, resolve, invoke, builtin, Sem.run_bind, Sem.run_pure, Result.andThen_ok, List.map_toArray, List.map_cons, List.map_nil, hs, hx, hr]
  exact h
end
/-- A new row, its one-cell row behind it, and the append. -/
theorem osl_new {w : World} {base : Nat} {v : Value} {rs : List Rw2} (hown : Osl w base v rs) (ap : Option Addr) (cp : Nat) (zs : List Int) (hr : Ow w base (.slice ap zs.length cp) zs) (hy : Byt zs) (hl : zs.length ≤ 140737488355328)
    (hsep : ∀ k, (Value.slice ap zs.length cp).ownBlock = some k → v.ownBlock ≠ some k) (h63 : rs.length ≤ 1000000000) (hbase : base ≤ w.heap.size) :
    ∃ ao cap w', (∀ ty, (Builtin.append_ #[33, 33] ty #[v, .slice (some ⟨w.heap.size, 0, none⟩) 1 1]).run Tryd.prog (w.alloc (.cells #[.slice ap zs.length cp] 29)) = .ok (.slice ao (rs.length + 1) cap) w') ∧ Osl w' base (.slice ao (rs.length + 1) cap) (rs ++ [(.slice ap zs.length cp, zs)]) ∧ Gr (fun k => v.ownBlock = some k) w w' ∧ ((Value.slice ao (rs.length + 1) cap).ownBlock = v.ownBlock ∨ ∃ k, (Value.slice ao (rs.length + 1) cap).ownBlock = some k ∧ w.heap.size ≤ k) := by
  have hB : Below w.heap.size w (w.alloc (.cells #[.slice ap zs.length cp] 29)) := (Below.refl _ _).alloc (Nat.le_refl _) _
  obtain ⟨ao, cap, w', h1, h2, h3, h4⟩ := osl_app (w.alloc (.cells #[.slice ap zs.length cp] 29)) base v rs (hown.below hB) w.heap.size ap cp zs (by rw [cell_of_row _ _ _ _ _ _ (heap_alloc_new w _)]; rfl) (hr.keep fun k _ hk => hB.block k hk) hy hl hsep h63 (Nat.le_trans hbase hB.size)
  refine ⟨ao, cap, w', h1, h2, (Gr.of_below hB (fun k => v.ownBlock = some k) fun k hk hb => by omega).trans (Gr.grownBy h3 fun k hk => hk) fun k hk => Or.inl hk, ?_⟩
  rcases h4 with h4 | h4
  · exact Or.inl h4
  · exact Or.inr ⟨_, h4, by rw [World.size_alloc]; omega⟩
end Go.Proofs.YtahodgmdikaedaaDoor
end

section
/-
  What a packet's bytes tell: parse, by contract.
-/
namespace Go.Proofs.YtahodgmdikaedaaDoor
open Go.RowKit
def zero4 : List Value := [.int .i64 0, .int .i64 0, .int .i64 0, .slice none 0 0]
theorem zero80 : (Tryd.prog.info? 80).bind (·.zero) = some (.agg zero4.toArray) := by kernel_rfl
/-- A packet's cells. -/
def pkC (id n ack : Int) (rv : Value) : List Value := [.int .i64 id, .int .i64 n, .int .i64 ack, rv]
theorem pkC_one (id n ack : Int) (ao : Option Addr) (l cap : Nat) : Hid (∀ v ∈ pkC id n ack (.slice ao l cap), v.oneCell' = true) := fun v hv => by
  simp only [pkC, List.mem_cons, List.not_mem_nil, or_false] at hv
  rcases hv with rfl | rfl | rfl | rfl <;> rfl
theorem zero4_one : Hid (∀ v ∈ zero4, v.oneCell' = true) := pkC_one 0 0 0 none 0 0
theorem len80 (id n ack : Int) (rv : Value) : Hid (zero4.length = (pkC id n ack rv).length) := rfl
theorem size80z : Hid ((Tryd.prog.info? 80).map (·.size) = some zero4.length) := by show (Tryd.prog.info? 80).map (·.size) = some 4; kernel_rfl
theorem size80p (id n ack : Int) (rv : Value) : Hid ((Tryd.prog.info? 80).map (·.size) = some (pkC id n ack rv).length) := by show (Tryd.prog.info? 80).map (·.size) = some 4; kernel_rfl
theorem size80 : (Tryd.prog.info? 80).map (·.size) = some 4 := by kernel_rfl
section
variable {ops : Array Oper} {o : Oper} {a : Act} {w : World} {K : Act → World → Prop} {Q : Exit → Act → World → Prop} {E : Prop}
theorem step_store_rw (hgd : o.guard = none) (ty : TypeId) (x y : Operand) (ho : o.op = .store ty x y) (g : Nat) (cs ds : List Value) (t : TypeId) (hx : a.eval x = .pointer (some ⟨g, 0, none⟩)) (hy : a.eval y = .agg ds.toArray)
    (hc : Cw w g cs t) (hi : Hid ((Tryd.prog.info? ty).map (·.size) = some cs.length)) (hl : Hid (cs.length = ds.length)) (h1 : Hid (∀ v ∈ ds, v.oneCell' = true))
    (h : ∀ W, Cw W g ds t → Only g w W → K (a.put o.dst undef) W) : if Region.wanted o (yielded ops a.tmps) = true then Oper.wp Tryd.prog o a w K Q else E := by
  have hw : Region.wanted o (yielded ops a.tmps) = true := by simp [Region.wanted, hgd]
  rw [if_pos hw]
  refine wp_store_mid ty x y ho g 0 ds.toArray hx hy (by rw [List.size_toArray, ← hl.out]; exact hc.there) (by rw [List.size_toArray, ← hl.out]; exact hi.out) (all_oneCell_toArray h1.out) ?_
  exact h _ (hc.put hl.out) (Only.sets g 0 w ds)
theorem step_load_rw (hgd : o.guard = none) (ty : TypeId) (x : Operand) (ho : o.op = .load ty x) (g : Nat) (cs : List Value) (t : TypeId) (d : TypeDesc) (hx : a.eval x = .pointer (some ⟨g, 0, none⟩))
    (hc : Cw w g cs t) (hu : Tryd.prog.underlying ty = some d) (hd : d.isRow = true) (hi : Hid ((Tryd.prog.info? ty).map (·.size) = some cs.length))
    (h : K (a.put o.dst (.agg cs.toArray)) w) : if Region.wanted o (yielded ops a.tmps) = true then Oper.wp Tryd.prog o a w K Q else E := by
  have hw : Region.wanted o (yielded ops a.tmps) = true := by simp [Region.wanted, hgd]
  rw [if_pos hw]
  exact wp_load_mid ty x ho g 0 hx cs d hc.range hu hd hi.out h
end
theorem ret_row2 {f : Func} {a : Act} {g : Nat} {cs : List Value} {t : TypeId} {w : World} {post : Ending → World → Prop} {r u : Tmp} {ty : TypeId} {d : TypeDesc} (hf : f.results = #[.cell r ty, .tmp u]) (hr : a.tmps.getD r undef = .pointer (some ⟨g, 0, none⟩)) (hdf : a.defers = [])
    (hc : Cw w g cs t) (hu : Tryd.prog.underlying ty = some d) (hd : d.isRow = true) (hi : Hid ((Tryd.prog.info? ty).map (·.size) = some cs.length)) (h : post (.returned (.tuple #[.agg cs.toArray, a.tmps.getD u undef])) w) : bodyPost Tryd.prog f post .ret a w := by
  refine bodyPost_ret ?_ hdf h
  rw [results_cell_tmp hf, hr]
  have e1 := run_loadVar_row w g t ty cs.toArray (0, 0) d hc hu (by cases d <;> first | rfl | cases hd) (by rw [List.size_toArray]; exact hi.out)
  simp only [asAddr, Sem.run_pure, Result.andThen_ok, e1]
/-- NewReader, and where its row lies. -/
theorem newReader2_any (sv : Value) (zs : List Int) (w : World) (hb : Bs w sv zs) (hz : zs.length ≤ 100000000000000) :
    Calls Tryd.prog 60 #[sv] w fun e w' => ∃ b v, e = .returned (.pointer (some ⟨b, 0, none⟩)) ∧ Rd w' b v zs 0 ∧ Below w.heap.size w w' ∧ w.heap.size ≤ b ∧ ∀ k, v.ownBlock = some k → w.heap.size ≤ k ∧ k < w'.heap.size := by
  go_enter Tryd.func60, Tryd.ntmps60
  go_wp2_with fail
  refine (clone_any sv zs _ hb hz).mono ?_
  rintro e w1 ⟨ao, cap, rfl, hown, B1⟩
  have R : Rd (w1.alloc (.cells #[.slice ao zs.length cap, .int .i64 0] 119)) w1.heap.size (.slice ao zs.length cap) zs 0 :=
    ⟨heap_alloc_new w1 _, hown.bs.below ((Below.refl _ _).alloc (Nat.le_refl _) _) (Nat.le_refl _), fun e => by have := World.ownsRow.lt hown _ e; omega⟩
  have hk : ∀ k, (Value.slice ao zs.length cap).ownBlock = some k → w.heap.size ≤ k ∧ k < (w1.alloc (.cells #[.slice ao zs.length cap, .int .i64 0] 119)).heap.size := fun k e => by
    have h1 := World.ownsRow.lt hown k e
    rw [World.size_alloc]
    exact ⟨h1.1, by omega⟩
  have hs := B1.size
  clear hown
  go_wp2
  go_ret
  exact ⟨_, _, rfl, R, B1.alloc hs _, hs, hk⟩
theorem numE_byt {zs : List Int} (e : Int) (h : Byt zs) : Byt (numE zs e).2.1 := by
  unfold numE
  split
  · exact h
  · exact (numR_byt 10 0 0 zs h).1
theorem rnumE_any (b : Nat) (v : Value) (zs : List Int) (e : Int) (w : World) (hr : Rd w b v zs e) (hz : Byt zs) :
    Calls Tryd.prog 62 #[.pointer (some ⟨b, 0, none⟩)] w fun r w' => r = .returned (.int .i64 (numE zs e).1) ∧ Rleft w b v w' (numE zs e).2.1 (numE zs e).2.2 := by
  by_cases he : e = 0
  · subst he
    rw [numE_ok]
    exact rnum_any b v zs w hr hz
  · rw [numE_err he]
    refine (rnum_err b v zs e w hr he).mono ?_
    rintro r w' ⟨rfl, rfl⟩
    exact ⟨rfl, v, hr, Rstep.refl _ _, Or.inl rfl⟩
/-- The result, the packet, the row of pointers to its numbers, a Reader behind them. -/
structure Ns (W : World) (ob pb g rb : Nat) (cs : List Value) (v : Value) (zs : List Int) (e : Int) : Prop where
  k : Cw W pb cs 80
  o : Cw W ob zero4 80
  c : Cw W g (ptrC pb) 111
  r : Rd W rb v zs e
  n1 : pb ≠ rb ∧ ob ≠ rb ∧ g ≠ rb ∧ ob ≠ pb ∧ g ≠ pb ∧ g ≠ ob
  n2 : v.ownBlock ≠ some pb ∧ v.ownBlock ≠ some ob ∧ v.ownBlock ≠ some g
section
variable {W W' : World} {ob pb g rb : Nat} {cs : List Value} {v : Value} {zs zs' : List Int} {e e' : Int}
theorem Ns.left (h : Ns W ob pb g rb cs v zs e) (hl : Rleft W rb v W' zs' e') : ∃ v', Ns W' ob pb g rb cs v' zs' e' ∧ Rstep rb W W' := by
  obtain ⟨v', hr, hs, ho⟩ := hl
  obtain ⟨a1, a2, a3, a4, a5, a6⟩ := h.n1
  obtain ⟨b1, b2, b3⟩ := h.n2
  refine ⟨v', ⟨h.k.keep (hs.block pb h.k.lt a1), h.o.keep (hs.block ob h.o.lt a2), h.c.keep (hs.block g h.c.lt a3), hr, h.n1, ?_⟩, hs⟩
  rcases ho with ho | ho <;> rw [ho]
  · exact h.n2
  · exact ⟨by simp, by simp, by simp⟩
theorem Ns.set (h : Ns W ob pb g rb cs v zs e) (i : Nat) (x : Value) : Ns (W.setCell ⟨pb, i, none⟩ x) ob pb g rb (cs.set i x) v zs e := by
  obtain ⟨a1, a2, a3, a4, a5, a6⟩ := h.n1
  obtain ⟨b1, b2, b3⟩ := h.n2
  exact ⟨h.k.set i x, h.o.keep (Below.heap_setCell _ _ _ _ a4), h.c.keep (Below.heap_setCell _ _ _ _ a5), ⟨(Below.heap_setCell _ _ _ _ (Ne.symm a1)).trans h.r.1, h.r.2.1.keep fun k hk _ => Below.heap_setCell _ _ _ _ fun e => b1 (by rw [hk, e]), h.r.2.2⟩, h.n1, h.n2⟩
theorem Ns.cells {a b c d : Value} (h : Ns W ob pb g rb [a, b, c, d] v zs e) :
    W.cell? ⟨g, 0, none⟩ = some (.pointer (some ⟨pb, 0, none⟩)) ∧ W.cell? ⟨g, 1, none⟩ = some (.pointer (some ⟨pb, 1, none⟩)) ∧ W.cell? ⟨g, 2, none⟩ = some (.pointer (some ⟨pb, 2, none⟩)) ∧
    (W.cell? ⟨pb, 0, none⟩ = some a ∧ W.cell? ⟨pb, 1, none⟩ = some b ∧ W.cell? ⟨pb, 2, none⟩ = some c ∧ W.cell? ⟨pb, 3, none⟩ = some d) ∧ (∀ i, W.frozen? ⟨pb, i, none⟩ = false) :=
  ⟨h.c.cell 0, h.c.cell 1, h.c.cell 2, ⟨h.k.cell 0, h.k.cell 1, h.k.cell 2, h.k.cell 3⟩, h.k.frozen⟩
theorem Ns.only (h : Ns W ob pb g rb cs v zs e) (ho : Only ob W W') : Rd W' rb v zs e := by
  obtain ⟨a1, a2, a3, a4, a5, a6⟩ := h.n1
  obtain ⟨b1, b2, b3⟩ := h.n2
  exact ⟨(ho.block rb (Ne.symm a2)).trans h.r.1, ho.bs h.r.2.1 b2, h.r.2.2⟩
end
theorem endE_any (b : Nat) (v : Value) (zs : List Int) (e : Int) (w : World) (hr : Rd w b v zs e) : Calls Tryd.prog 64 #[.pointer (some ⟨b, 0, none⟩)] w fun r w' => r = .returned (.int .i64 (endR zs e)) ∧ w = w' := end_any b v zs e w hr
set_option maxHeartbeats 3200000 in
set_option maxRecDepth 20000 in
theorem parse_any (w : World) (sv : Value) (ps : List Int) (hb : Bs w sv ps) (hy : Byt ps) (hl : ps.length ≤ 1000000) :
    Calls Tryd.prog 52 #[sv] w fun e w' => ∃ ao cap, e = .returned (.tuple #[.agg #[.int .i64 (prs ps).id, .int .i64 (prs ps).n, .int .i64 (prs ps).ack, .slice ao (prs ps).row.length cap], .int .i64 (prs ps).e]) ∧ Ow w' w.heap.size (.slice ao (prs ps).row.length cap) (prs ps).row ∧ Below w.heap.size w w' := by
  have yA : Byt (ptA ps).2.1 := (numR_byt 10 0 0 ps hy).1
  have yB : Byt (ptB ps).2.1 := numE_byt _ yA
  have yC : Byt (ptC ps).2.1 := numE_byt _ yB
  have C1 : Hid (∀ W b v, Rd W b v ps 0 → Calls Tryd.prog 62 #[.pointer (some ⟨b, 0, none⟩)] W fun r w' => r = .returned (.int .i64 (ptA ps).1) ∧ Rleft W b v w' (ptA ps).2.1 (ptA ps).2.2) := fun W b v hr => rnum_any b v ps W hr hy
  have C2 : Hid (∀ W b v, Rd W b v (ptA ps).2.1 (ptA ps).2.2 → Calls Tryd.prog 62 #[.pointer (some ⟨b, 0, none⟩)] W fun r w' => r = .returned (.int .i64 (ptB ps).1) ∧ Rleft W b v w' (ptB ps).2.1 (ptB ps).2.2) := fun W b v hr => rnumE_any b v _ _ W hr yA
  have C3 : Hid (∀ W b v, Rd W b v (ptB ps).2.1 (ptB ps).2.2 → Calls Tryd.prog 62 #[.pointer (some ⟨b, 0, none⟩)] W fun r w' => r = .returned (.int .i64 (ptC ps).1) ∧ Rleft W b v w' (ptC ps).2.1 (ptC ps).2.2) := fun W b v hr => rnumE_any b v _ _ W hr yB
  have C4 : Hid (∀ W b v, 0 < (ptB ps).1 → Rd W b v (ptC ps).2.1 (ptC ps).2.2 → Calls Tryd.prog 63 #[.pointer (some ⟨b, 0, none⟩)] W fun r w' => ∃ ao cap, r = .returned (.slice ao (ptD ps).1.length cap) ∧ Ow w' W.heap.size (.slice ao (ptD ps).1.length cap) (ptD ps).1 ∧ Rleft W b v w' (ptD ps).2.1 (ptD ps).2.2) := fun W b v h0 hr => by
    have e : ptD ps = bytesR (ptC ps).2.1 (ptC ps).2.2 := if_pos h0
    rw [e]
    exact rbytes_any b v _ _ W hr yC
  have D4 : Hid (¬ 0 < (ptB ps).1 → (ptD ps).1 = [] ∧ (ptD ps).2.1 = (ptC ps).2.1 ∧ (ptD ps).2.2 = (ptC ps).2.2) := fun h0 => by
    have e : ptD ps = ([], (ptC ps).2.1, (ptC ps).2.2) := if_neg h0
    rw [e]
    exact ⟨rfl, rfl, rfl⟩
  have C5 : Hid (∀ W b v, Rd W b v (ptD ps).2.1 (ptD ps).2.2 → Calls Tryd.prog 64 #[.pointer (some ⟨b, 0, none⟩)] W fun r w' => r = .returned (.int .i64 (endR (ptD ps).2.1 (ptD ps).2.2)) ∧ W = w') := fun W b v hr => endE_any b v _ _ W hr
  have e0 : prs ps = ⟨(ptA ps).1, (ptB ps).1, (ptC ps).1, (ptD ps).1, endR (ptD ps).2.1 (ptD ps).2.2⟩ := rfl
  rw [e0]
  have C6 : Hid (∀ W, Bs W sv ps → Calls Tryd.prog 60 #[sv] W fun e w' => ∃ b v, e = .returned (.pointer (some ⟨b, 0, none⟩)) ∧ Rd w' b v ps 0 ∧ Below W.heap.size W w' ∧ W.heap.size ≤ b ∧ ∀ k, v.ownBlock = some k → W.heap.size ≤ k ∧ k < w'.heap.size) := fun W h => newReader2_any sv ps W h (by omega)
  have HB := hid_into hb
  clear e0 yA yB yC hy hl hb
  generalize endR (ptD ps).2.1 (ptD ps).2.2 = eF at *
  generalize (ptA ps).2.1 = za at *
  generalize (ptA ps).2.2 = ea at *
  generalize (ptA ps).1 = a1 at *
  generalize (ptB ps).2.1 = zb at *
  generalize (ptB ps).2.2 = eb at *
  generalize (ptB ps).1 = b1 at *
  generalize (ptC ps).2.1 = zc at *
  generalize (ptC ps).2.2 = ec at *
  generalize (ptC ps).1 = c1 at *
  generalize (ptD ps).2.1 = zd at *
  generalize (ptD ps).2.2 = ed at *
  generalize (ptD ps).1 = row at *
  go_enter Tryd.func52, Tryd.ntmps52
  go_wp2_with (first | (have := hb1; refine wpList_alloc_row rfl 80 rfl zero4 zero80 ?_; intro w2 px hb2 hs2) | (refine wpList_alloc_row rfl 80 rfl zero4 zero80 ?_; intro w1 ox hb1 hs1))
  have B2 : Below w.heap.size w w2 := hb1.trans (hb2.mono hb1.size)
  have ox2 : Cw w2 w.heap.size zero4 80 := ox.below hb2 (by have := hs1.out; omega)
  have hb' := HB.out.below B2 (Nat.le_refl _)
  refine (C6.out w2 hb').mono ?_
  rintro e w3 ⟨rb, rv, rfl, hr3, B3, hrb, hrv⟩
  have ox3 := ox2.below B3 (by have := hs1.out; have := hs2.out; omega)
  have px3 := px.below B3 (by have := hs1.out; have := hs2.out; omega)
  have B3' : Below w.heap.size w w3 := B2.trans (B3.mono (by have := hs1.out; have := hs2.out; omega))
  go_wp2_with fail
  refine (nums_any w3 w1.heap.size).mono ?_
  rintro e w4 ⟨g, rfl, hc, B4, hg⟩
  have hs1' := hs1.out
  have hs2' := hs2.out
  have hrl := hr3.lt
  have s3 := B3.size
  have N4 : Ns w4 w.heap.size w1.heap.size g rb zero4 rv ps 0 := ⟨px3.below B4 px3.lt, ox3.below B4 ox3.lt, hc, hr3.below B4 (Nat.le_refl _), ⟨by omega, by omega, by omega, by omega, by omega, by omega⟩, ⟨fun e => by have := hrv _ e; omega, fun e => by have := hrv _ e; omega, fun e => by have := hrv _ e; omega⟩⟩
  have BB4 : Below w.heap.size w w4 := B3'.trans (B4.mono B3'.size)
  have rbw : w.heap.size ≤ rb := by omega
  have pbw : w.heap.size ≤ w1.heap.size := by omega
  obtain ⟨i0, i1, i2, ⟨k0, k1, k2, k3⟩, kf⟩ := N4.cells
  clear hrv hs1' hs2' hs1 hs2 hrl s3 hg B4 hc B3' px3 ox3 hrb B3 hr3 hb' ox2 B2 ox px hb1 hb2
  generalize w1.heap.size = pb at *
  go_wp2_with fail
  refine wp_loop_rounds 4 ?_
  rw [rounds_succ]
  go_wp2_with (go_at_call 62; refine (C1.out _ _ _ N4.r).mono ?_; rintro e w5 ⟨rfl, hl5⟩; obtain ⟨v5, N5, s5⟩ := N4.left hl5; clear i0 i1 i2 k0 k1 k2 k3 kf hl5; obtain ⟨i0, i1, i2, ⟨k0, k1, k2, k3⟩, kf⟩ := N5.cells)
  have BB5 := BB4.trans (s5.below rbw BB4.size)
  have N6 : Ns _ w.heap.size pb g rb [.int .i64 a1, .int .i64 0, .int .i64 0, .slice none 0 0] v5 za ea := N5.set 0 (.int .i64 a1)
  have BB6 : Below w.heap.size w (w5.setCell ⟨pb, 0, none⟩ (.int .i64 a1)) := BB5.setCell (p := ⟨pb, 0, none⟩) pbw _
  clear i0 i1 i2 k0 k1 k2 k3 kf N4 N5 BB4 BB5 s5
  generalize w5.setCell ⟨pb, 0, none⟩ (.int .i64 a1) = w6 at *
  obtain ⟨i0, i1, i2, ⟨k0, k1, k2, k3⟩, kf⟩ := N6.cells
  rw [rounds_succ]
  go_wp2_with (go_at_call 62; refine (C2.out _ _ _ N6.r).mono ?_; rintro e w7 ⟨rfl, hl7⟩; obtain ⟨v7, N7, s7⟩ := N6.left hl7; clear i0 i1 i2 k0 k1 k2 k3 kf hl7; obtain ⟨i0, i1, i2, ⟨k0, k1, k2, k3⟩, kf⟩ := N7.cells)
  have BB7 := BB6.trans (s7.below rbw BB6.size)
  have N8 : Ns _ w.heap.size pb g rb [.int .i64 a1, .int .i64 b1, .int .i64 0, .slice none 0 0] v7 zb eb := N7.set 1 (.int .i64 b1)
  have BB8 : Below w.heap.size w (w7.setCell ⟨pb, 1, none⟩ (.int .i64 b1)) := BB7.setCell (p := ⟨pb, 1, none⟩) pbw _
  clear i0 i1 i2 k0 k1 k2 k3 kf N6 N7 BB6 BB7 s7
  generalize w7.setCell ⟨pb, 1, none⟩ (.int .i64 b1) = w8 at *
  obtain ⟨i0, i1, i2, ⟨k0, k1, k2, k3⟩, kf⟩ := N8.cells
  rw [rounds_succ]
  go_wp2_with (go_at_call 62; refine (C3.out _ _ _ N8.r).mono ?_; rintro e w9 ⟨rfl, hl9⟩; obtain ⟨v9, N9, s9⟩ := N8.left hl9; clear i0 i1 i2 k0 k1 k2 k3 kf hl9; obtain ⟨i0, i1, i2, ⟨k0, k1, k2, k3⟩, kf⟩ := N9.cells)
  have BB9 := BB8.trans (s9.below rbw BB8.size)
  have N10 : Ns _ w.heap.size pb g rb [.int .i64 a1, .int .i64 b1, .int .i64 c1, .slice none 0 0] v9 zc ec := N9.set 2 (.int .i64 c1)
  have BB10 : Below w.heap.size w (w9.setCell ⟨pb, 2, none⟩ (.int .i64 c1)) := BB9.setCell (p := ⟨pb, 2, none⟩) pbw _
  clear i0 i1 i2 k0 k1 k2 k3 kf N8 N9 BB8 BB9 s9
  generalize w9.setCell ⟨pb, 2, none⟩ (.int .i64 c1) = w10 at *
  obtain ⟨i0, i1, i2, ⟨k0, k1, k2, k3⟩, kf⟩ := N10.cells
  rw [rounds_succ]
  by_cases h0 : 0 < b1
  · go_wp2_with (go_at_call 63; refine (C4.out _ _ _ h0 N10.r).mono ?_; rintro e w11 ⟨ao, cap, rfl, ho11, hl11⟩; obtain ⟨v11, N11, s11⟩ := N10.left hl11; clear i0 i1 i2 k0 k1 k2 k3 kf hl11; obtain ⟨i0, i1, i2, ⟨k0, k1, k2, k3⟩, kf⟩ := N11.cells)
    have NX : Ns _ w.heap.size pb g rb (pkC a1 b1 c1 (.slice ao row.length cap)) v11 zd ed := N11.set 3 (.slice ao row.length cap)
    have BX : Below w.heap.size w (w11.setCell ⟨pb, 3, none⟩ (.slice ao row.length cap)) := (BB10.trans (s11.below rbw BB10.size)).setCell (p := ⟨pb, 3, none⟩) pbw _
    have ox : Ow (w11.setCell ⟨pb, 3, none⟩ (.slice ao row.length cap)) w.heap.size (.slice ao row.length cap) row := by
      have hk := ho11.mono BB10.size
      exact hk.keep fun k hk1 _ => Below.heap_setCell _ _ _ _ fun e => by
        have h1 := (World.ownsRow.lt ho11 k hk1).1
        have h2 := N10.k.lt
        have h3 : k = pb := e
        omega
    have OX0 : ∀ k, (Value.slice ao row.length cap).ownBlock = some k → w.heap.size < k := fun k hk => by
      have h1 := (World.ownsRow.lt ho11 k hk).1
      have h2 := N10.o.lt
      omega
    clear i0 i1 i2 k0 k1 k2 k3 kf N10 N11 BB10 s11 ho11
    generalize w11.setCell ⟨pb, 3, none⟩ (.slice ao row.length cap) = wX at *
    have OX : Hid (∀ k, (Value.slice ao row.length cap).ownBlock = some k → w.heap.size < k) := OX0
    have hf := NX.o.frozen
    obtain ⟨o0, o1, o2, o3⟩ : wX.cell? ⟨w.heap.size, 0, none⟩ = some (.int .i64 0) ∧ wX.cell? ⟨w.heap.size, 1, none⟩ = some (.int .i64 0) ∧ wX.cell? ⟨w.heap.size, 2, none⟩ = some (.int .i64 0) ∧ wX.cell? ⟨w.heap.size, 3, none⟩ = some (.slice none 0 0) := ⟨NX.o.cell 0, NX.o.cell 1, NX.o.cell 2, NX.o.cell 3⟩
    obtain ⟨i0, i1, i2, ⟨k0, k1, k2, k3⟩, kf⟩ := NX.cells
    have OO := (((Only.set w.heap.size 0 wX (.int .i64 a1)).trans (Only.set _ 1 _ (.int .i64 b1))).trans (Only.set _ 2 _ (.int .i64 c1))).trans (Only.set _ 3 _ (.slice ao row.length cap))
    have OC : Hid (Cw ((((wX.setCell ⟨w.heap.size, 0, none⟩ (.int .i64 a1)).setCell ⟨w.heap.size, 1, none⟩ (.int .i64 b1)).setCell ⟨w.heap.size, 2, none⟩ (.int .i64 c1)).setCell ⟨w.heap.size, 3, none⟩ (.slice ao row.length cap)) w.heap.size (pkC a1 b1 c1 (.slice ao row.length cap)) 80) := (((NX.o.set 0 (.int .i64 a1)).set 1 (.int .i64 b1)).set 2 (.int .i64 c1)).set 3 (.slice ao row.length cap)
    have OO := hid_into OO
    go_region_law ((go_simp; go_wp2_with (go_at_call 64; refine (C5.out _ _ _ (by first | exact NX.r | exact NX.only ((((Only.set _ _ _ _).trans (Only.set _ _ _ _)).trans (Only.set _ _ _ _)).trans (Only.set _ _ _ _)))).mono ?_; rintro e wz ⟨rfl, hz⟩; subst hz)))
    all_goals
      (go_wp2_with fail
       refine ret_row2 rfl rfl rfl OC.out Tryd.underlying80 rfl (size80p _ _ _ _) ⟨ao, cap, rfl, ?_, BX.trans ((OO.out.below (Nat.le_refl _)).drew)⟩
       exact ox.keep fun k hk _ => OO.out.drew.block k fun e => by
        have := OX.out k hk
        omega)
  · obtain ⟨rfl, rfl, rfl⟩ := D4.out (by omega)
    have NX : Ns w10 w.heap.size pb g rb (pkC a1 b1 c1 (.slice none 0 0)) v9 zd ed := N10
    have BX := BB10
    have ox : Ow w10 w.heap.size (.slice none 0 0) [] := World.ownsRow_nil _ _ _ _
    have OX : Hid (∀ k, (Value.slice none 0 0).ownBlock = some k → w.heap.size < k) := fun k hk => by cases hk
    have h0' : ¬ (0 : Int) < b1 := h0
    clear h0
    go_wp2_with fail
    clear i0 i1 i2 k0 k1 k2 k3 kf N10 BB10
    generalize w10 = wX at *
    have hf := NX.o.frozen
    obtain ⟨o0, o1, o2, o3⟩ : wX.cell? ⟨w.heap.size, 0, none⟩ = some (.int .i64 0) ∧ wX.cell? ⟨w.heap.size, 1, none⟩ = some (.int .i64 0) ∧ wX.cell? ⟨w.heap.size, 2, none⟩ = some (.int .i64 0) ∧ wX.cell? ⟨w.heap.size, 3, none⟩ = some (.slice none 0 0) := ⟨NX.o.cell 0, NX.o.cell 1, NX.o.cell 2, NX.o.cell 3⟩
    obtain ⟨i0, i1, i2, ⟨k0, k1, k2, k3⟩, kf⟩ := NX.cells
    have OO := (((Only.set w.heap.size 0 wX (.int .i64 a1)).trans (Only.set _ 1 _ (.int .i64 b1))).trans (Only.set _ 2 _ (.int .i64 c1))).trans (Only.set _ 3 _ (.slice none 0 0))
    have OC : Hid (Cw ((((wX.setCell ⟨w.heap.size, 0, none⟩ (.int .i64 a1)).setCell ⟨w.heap.size, 1, none⟩ (.int .i64 b1)).setCell ⟨w.heap.size, 2, none⟩ (.int .i64 c1)).setCell ⟨w.heap.size, 3, none⟩ (.slice none 0 0)) w.heap.size (pkC a1 b1 c1 (.slice none 0 0)) 80) := (((NX.o.set 0 (.int .i64 a1)).set 1 (.int .i64 b1)).set 2 (.int .i64 c1)).set 3 (.slice none 0 0)
    have OO := hid_into OO
    go_region_law ((go_simp; go_wp2_with (go_at_call 64; refine (C5.out _ _ _ (by first | exact NX.r | exact NX.only ((((Only.set _ _ _ _).trans (Only.set _ _ _ _)).trans (Only.set _ _ _ _)).trans (Only.set _ _ _ _)))).mono ?_; rintro e wz ⟨rfl, hz⟩; subst hz)))
    all_goals
      (go_wp2_with fail
       refine ret_row2 rfl rfl rfl OC.out Tryd.underlying80 rfl (size80p _ _ _ _) ⟨none, 0, rfl, ?_, BX.trans ((OO.out.below (Nat.le_refl _)).drew)⟩
       exact ox.keep fun k hk _ => OO.out.drew.block k fun e => by
        have := OX.out k hk
        omega)
end Go.Proofs.YtahodgmdikaedaaDoor
end
