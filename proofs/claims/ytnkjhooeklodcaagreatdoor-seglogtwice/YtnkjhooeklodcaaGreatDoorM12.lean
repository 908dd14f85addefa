/-
  Joined from: Base, PlayHelp.
-/
import Derived.Test.YtnkjhooeklodcaaGreatDoorProg
import Derived.WalkKit
import Derived.Maps.AppendAt
import Derived.Deep.AppendLies
import Derived.Lib.SliceRun
import Derived.Deep.QuietTactic
import Derived.BigQuiet
import Derived.Deep.MidRow
import Derived.Laws.StructEq
section
/-
  Words for bytes in memory: a slice of bytes that can be read (Bs), one with a row of its own (Ow), a block of cells (Cw), the memory as it was (Sm); the law's same.
-/
namespace Go.Proofs.YtnkjhooeklodcaaGreatDoor
open Go.RowKit

theorem hid_into {p : Prop} (h : p) : Hid p := h

theorem Tryz.info5 : (Tryz.prog.info? 5).map (fun i => (i.zero, i.size, i.bytes)) = some (some (.int .u8 0), 1, 1) := by kernel_rfl

def cellsOf (zs : List Int) : List Value := zs.map (Value.int .u8)
theorem cellsOf_length (zs : List Int) : (cellsOf zs).length = zs.length := by simp [cellsOf]
theorem cellsOf_append (a b : List Int) : cellsOf (a ++ b) = cellsOf a ++ cellsOf b := by simp [cellsOf]
theorem cellsOf_get (zs : List Int) (j : Nat) (u : Value) (h : (cellsOf zs)[j]? = some u) : j < zs.length ∧ u = .int .u8 (zs.getD j 0) := by
  have hj : j < zs.length := by have := (List.getElem?_eq_some_iff.1 h).1; simpa [cellsOf] using this
  refine ⟨hj, ?_⟩
  have e : (cellsOf zs)[j]? = some (.int .u8 (zs.getD j 0)) := by simp [cellsOf, List.getD, hj]
  rw [e] at h
  exact (Option.some.inj h).symm
theorem cellsOf_get' (zs : List Int) (j : Nat) (h : j < zs.length) : (cellsOf zs)[j]? = some (.int .u8 (zs.getD j 0)) := by simp [cellsOf, List.getD, h]
theorem cellsOf_one (zs : List Int) : ∀ u ∈ cellsOf zs, u.oneCell' = true := ints_oneCell .u8 zs

def Bs (w : World) (v : Value) (zs : List Int) : Prop :=
  (zs = [] ∧ ∃ ao cap, v = .slice ao 0 cap ∧ cap ≤ maxLen ∧ (ao = none → cap = 0)) ∨
  (zs ≠ [] ∧ ∃ b off cap, v = .slice (some ⟨b, off, none⟩) zs.length cap ∧ zs.length ≤ cap ∧ cap ≤ maxLen ∧
    ∀ i, i < zs.length → w.cell? ⟨b, off + i, none⟩ = some (.int .u8 (zs.getD i 0)))

def Ow (w : World) (base : Nat) (v : Value) (zs : List Int) : Prop := w.ownsRow base 5 1 v zs.length (cellsOf zs)

theorem Ow.form {w : World} {base : Nat} {v : Value} {zs : List Int} (h : Ow w base v zs) :
    ∃ ao cap, v = .slice ao zs.length cap ∧ (ao = none ∧ cap = 0 ∧ zs = [] ∨ ∃ g cur, ao = some ⟨g, 0, none⟩ ∧ base ≤ g ∧ g < w.heap.size ∧ w.heap[g]? = some (.cells cur 5 (0, 0)) ∧ zs.length ≤ cap ∧ cap ≤ maxLen ∧ cur.size = cap ∧ cur.toList.take zs.length = cellsOf zs) := by
  rcases h.2 with ⟨rfl, h0⟩ | ⟨g, cap, cur, rfl, hb, hg, hn, hc, hs, ht⟩
  · refine ⟨none, 0, by rw [h0], Or.inl ⟨rfl, rfl, ?_⟩⟩
    exact List.eq_nil_of_length_eq_zero h0
  · exact ⟨_, cap, rfl, Or.inr ⟨g, cur, rfl, hb, (Array.getElem?_eq_some_iff.1 hg).1, hg, hn, hc, by simpa using hs, by simpa using ht⟩⟩

theorem Ow.mono {w : World} {base base' : Nat} {v : Value} {zs : List Int} (h : Ow w base v zs) (hb : base' ≤ base) : Ow w base' v zs := by
  refine ⟨h.1, ?_⟩
  rcases h.2 with h2 | ⟨g, cap, cur, h1, h2, h3⟩
  · exact Or.inl h2
  · exact Or.inr ⟨g, cap, cur, h1, by omega, h3⟩

theorem Ow.bs {w : World} {base : Nat} {v : Value} {zs : List Int} (h : Ow w base v zs) : Bs w v zs := by
  obtain ⟨ao, cap, rfl, ⟨rfl, rfl, rfl⟩ | ⟨g, cur, rfl, hb, hl, hg, hn, hc, hs, ht⟩⟩ := h.form
  · exact Or.inl ⟨rfl, none, 0, rfl, by unfold maxLen; omega, fun _ => rfl⟩
  · by_cases hz : zs = []
    · subst hz
      exact Or.inl ⟨rfl, _, cap, rfl, hc, by intro h; cases h⟩
    · refine Or.inr ⟨hz, g, 0, cap, rfl, hn, hc, fun i hi => ?_⟩
      have := h.cells (g := g) rfl i _ (cellsOf_get' zs i hi)
      simpa [Addr.add_lit] using this

theorem Bs.keep {w w' : World} {v : Value} {zs : List Int} (h : Bs w v zs) (hk : ∀ k, v.ownBlock = some k → k < w.heap.size → w'.heap[k]? = w.heap[k]?) : Bs w' v zs := by
  rcases h with h | ⟨hz, b, off, cap, rfl, hn, hc, hcell⟩
  · exact Or.inl h
  · refine Or.inr ⟨hz, b, off, cap, rfl, hn, hc, fun i hi => ?_⟩
    have h1 := hcell i hi
    have hlt := World.block_lt_of_cell? w _ h1
    rw [World.cell?_of_block (w := w) (hk b rfl hlt)]
    exact h1

theorem Bs.below {w w' : World} {v : Value} {zs : List Int} {B : Nat} (h : Bs w v zs) (hk : Below B w w') (hb : w.heap.size ≤ B) : Bs w' v zs :=
  h.keep fun k _ hlt => hk.block k (by omega)

theorem Bs.len {w : World} {v : Value} {zs : List Int} (h : Bs w v zs) : ∃ ao cap, v = .slice ao zs.length cap ∧ zs.length ≤ maxLen := by
  rcases h with ⟨rfl, ao, cap, rfl, _, _⟩ | ⟨_, b, off, cap, rfl, h1, h2, _⟩
  · exact ⟨ao, cap, rfl, by unfold maxLen; simp⟩
  · exact ⟨_, cap, rfl, by omega⟩

theorem Bs_of_block {w : World} {B : Nat} {zs : List Int} {t : TypeId} {fr : Nat × Nat} (hb : w.heap[B]? = some (.cells (cellsOf zs).toArray t fr)) (hm : zs.length ≤ maxLen) : Bs w (.slice (some ⟨B, 0, none⟩) zs.length zs.length) zs := by
  by_cases hz : zs = []
  · subst hz
    exact Or.inl ⟨rfl, _, 0, rfl, by unfold maxLen; omega, by intro h; cases h⟩
  · refine Or.inr ⟨hz, B, 0, zs.length, rfl, Nat.le_refl _, hm, fun i hi => ?_⟩
    have := World.news_of_block hb i _ (by simpa using cellsOf_get' zs i hi)
    simpa [Addr.add_lit] using this

theorem Ow_of_block {w : World} {B base : Nat} {zs : List Int} (hb : w.heap[B]? = some (.cells (cellsOf zs).toArray 5 (0, 0))) (hm : zs.length ≤ maxLen) (hB : base ≤ B) : Ow w base (.slice (some ⟨B, 0, none⟩) zs.length zs.length) zs :=
  ⟨by simp [cellsOf], Or.inr ⟨B, zs.length, _, rfl, hB, hb, Nat.le_refl _, hm, by simp [cellsOf], by simp only [Nat.mul_one]; exact List.take_of_length_le (by simp [cellsOf])⟩⟩

theorem run_append_bs (w : World) (base : Nat) (ty : TypeId) (v : Value) (xs : List Int) (hown : Ow w base v xs) (x : Value) (zs : List Int) (hb : Bs w x zs)
    (h63 : xs.length + zs.length ≤ 140737488355328) (hbase : base ≤ w.heap.size) :
    ∃ ao cap w', (Builtin.append_ #[38, 38] ty #[v, x]).run Tryz.prog w = .ok (.slice ao (xs.length + zs.length) cap) w' ∧ Ow w' base (.slice ao (xs.length + zs.length) cap) (xs ++ zs) ∧ w.grownBy w' v.ownBlock ∧
      ((Value.slice ao (xs.length + zs.length) cap).ownBlock = v.ownBlock ∨ (Value.slice ao (xs.length + zs.length) cap).ownBlock = some w.heap.size) := by
  obtain ⟨i0, hi, hz0, hz1, hz2⟩ := info_parts Tryz.info5
  have key : ∀ a m c, m = zs.length → (∀ j u, (cellsOf zs)[j]? = some u → w.cell? (Addr.add a j) = some u) → x = .slice (some a) m c → ∃ ao cap w', (Builtin.append_ #[38, 38] ty #[v, x]).run Tryz.prog w = .ok (.slice ao (xs.length + zs.length) cap) w' ∧ Ow w' base (.slice ao (xs.length + zs.length) cap) (xs ++ zs) ∧ w.grownBy w' v.ownBlock ∧
      ((Value.slice ao (xs.length + zs.length) cap).ownBlock = v.ownBlock ∨ (Value.slice ao (xs.length + zs.length) cap).ownBlock = some w.heap.size) := by
    intro a m c hm hc hx
    subst hm; subst hx
    obtain ⟨v', w', hr, h2, h3, _, h5⟩ := run_append_own_at (P := Tryz.prog) w base 38 ty 5 i0 (.int .u8 0) 1 1 Tryz.underlying38 hi hz0 hz1 hz2 rfl (by decide) v xs.length (cellsOf xs) hown a zs.length c (cellsOf zs) (by simp [cellsOf]) hc (cellsOf_one zs) (by unfold maxLen; omega) (by omega) hbase
    have h2' : Ow w' base v' (xs ++ zs) := by
      unfold Ow
      rw [cellsOf_append, List.length_append]
      exact h2
    obtain ⟨ao, cap, rfl, _⟩ := h2'.form
    rw [List.length_append] at hr h2' h5
    exact ⟨ao, cap, w', hr, h2', h3, h5⟩
  rcases hb with ⟨rfl, ao, cap, rfl, hc, hn⟩ | ⟨hz, b, off, cap, rfl, hn, hc, hcell⟩
  · cases ao with
    | some a => exact key a 0 cap rfl (by intro j u h; simp [cellsOf] at h) rfl
    | none =>
      obtain rfl := hn rfl
      have hr := run_append_owned_none (P := Tryz.prog) w base 38 ty 5 i0 1 Tryz.underlying38 hi v xs.length (cellsOf xs) hown
      obtain ⟨ao, cap, hv, _⟩ := Ow.form hown
      refine ⟨ao, cap, w, ?_, ?_, World.grownBy.refl _ _, Or.inl ?_⟩
      · rw [hr]; simp [hv]
      · simpa [hv] using hown
      · simp [hv]
  · refine key ⟨b, off, none⟩ zs.length cap rfl (fun j u h => ?_) rfl
    obtain ⟨hj, rfl⟩ := cellsOf_get zs j u h
    rw [Addr.add_lit]
    exact hcell j hj

theorem wpList_append_bs (w : World) {ops : Array Oper} {rest : List Oper} {o : Oper} {a : Act} {Q : Exit → Act → World → Prop} (hgd : o.guard = none) (s x : Operand)
    (ho : o.op = .call { callee := .builtin .append, args := #[s, x], argTypes := #[38, 38] })
    (base : Nat) (v : Value) (xs : List Int) (hs : a.eval s = v) (hown : Ow w base v xs) (vx : Value) (zs : List Int) (hx : a.eval x = vx) (hb : Bs w vx zs)
    (h63 : xs.length + zs.length ≤ 140737488355328) (hbase : base ≤ w.heap.size)
    (h : ∀ ao cap w', Ow w' base (.slice ao (xs.length + zs.length) cap) (xs ++ zs) → w.grownBy w' v.ownBlock →
      ((Value.slice ao (xs.length + zs.length) cap).ownBlock = v.ownBlock ∨ (Value.slice ao (xs.length + zs.length) cap).ownBlock = some w.heap.size) →
      wpList Tryz.prog ops Q rest (a.put o.dst (.slice ao (xs.length + zs.length) cap)) w') : wpList Tryz.prog ops Q (o :: rest) a w := by
  obtain ⟨ao, cap, w', hr, h2, h3, h4⟩ := run_append_bs w base o.type v xs hown vx zs hb h63 hbase
  refine wpList_plain hgd fun _ hK => ?_
  unfold Oper.wp execOp
  simp only [ho, resolve, invoke, builtin, Sem.run_bind, Sem.run_pure, Result.andThen_ok, List.map_toArray, List.map_cons, List.map_nil, hs, hx, hr]
  exact hK _ _ (h ao cap w' h2 h3 h4)


theorem setCells_other (b k : Nat) (hk : k ≠ b) : ∀ (vs : List Value) (o : Nat) (w : World), (w.setCells b o vs).heap[k]? = w.heap[k]?
  | [], _, _ => rfl
  | v :: vs, o, w => by
    show ((w.setCell ⟨b, o, none⟩ v).setCells b (o + 1) vs).heap[k]? = _
    rw [setCells_other b k hk vs (o + 1) _, Below.heap_setCell _ _ _ _ hk]
theorem setCells_same (b : Nat) (t : TypeId) : ∀ (vs pre old : List Value) (w : World), w.heap[b]? = some (.cells (pre ++ old).toArray t (0, 0)) → old.length = vs.length → (w.setCells b pre.length vs).heap[b]? = some (.cells (pre ++ vs).toArray t (0, 0))
  | [], pre, old, w, h, hl => by
    have : old = [] := List.eq_nil_of_length_eq_zero hl
    subst this
    exact h
  | v :: vs, pre, [], w, h, hl => by simp at hl
  | v :: vs, pre, u :: old, w, h, hl => by
    have h1 : (w.setCell ⟨b, pre.length, none⟩ v).heap[b]? = some (.cells ((pre ++ [v]) ++ old).toArray t (0, 0)) := by
      simp only [World.setCell, Array.getElem?_modify, h]
      simp
    have h2 := setCells_same b t vs (pre ++ [v]) old _ h1 (by simpa using hl)
    show ((w.setCell ⟨b, pre.length, none⟩ v).setCells b (pre.length + 1) vs).heap[b]? = _
    simpa using h2
theorem setCells_rest (b : Nat) : ∀ (vs : List Value) (o : Nat) (w : World), (w.setCells b o vs).os = w.os ∧ (w.setCells b o vs).tape = w.tape ∧ (w.setCells b o vs).output = w.output ∧ (w.setCells b o vs).heap.size = w.heap.size
  | [], _, _ => ⟨rfl, rfl, rfl, rfl⟩
  | v :: vs, o, w => by
    have h := setCells_rest b vs (o + 1) (w.setCell ⟨b, o, none⟩ v)
    exact ⟨h.1, h.2.1, h.2.2.1, h.2.2.2.trans (by simp [World.setCell])⟩

def Cw (w : World) (g : Nat) (cs : List Value) (t : TypeId) : Prop := w.heap[g]? = some (.cells cs.toArray t (0, 0))
theorem Cw.lt {w : World} {g : Nat} {cs : List Value} {t : TypeId} (h : Cw w g cs t) : g < w.heap.size := (Array.getElem?_eq_some_iff.1 h).1
theorem Cw.cell {w : World} {g : Nat} {cs : List Value} {t : TypeId} (h : Cw w g cs t) (i : Nat) : w.cell? ⟨g, i, none⟩ = cs[i]? := by
  rw [cell_of_row w g i _ _ _ h]; simp
theorem Cw.frozen {w : World} {g : Nat} {cs : List Value} {t : TypeId} (h : Cw w g cs t) (i : Nat) : w.frozen? ⟨g, i, none⟩ = false := by
  simp only [World.frozen?, show w.heap[g]? = _ from h]; simp
theorem Cw.set {w : World} {g : Nat} {cs : List Value} {t : TypeId} (h : Cw w g cs t) (i : Nat) (x : Value) : Cw (w.setCell ⟨g, i, none⟩ x) g (cs.set i x) t := by
  have h' : w.heap[g]? = some (.cells cs.toArray t (0, 0)) := h
  simp only [Cw, World.setCell, Array.getElem?_modify, h']
  simp
theorem Cw.range {w : World} {g : Nat} {cs : List Value} {t : TypeId} (h : Cw w g cs t) : w.rangeAt g 0 cs := by
  intro j u hu
  rw [Nat.zero_add, h.cell]; exact hu
theorem Cw.there {w : World} {g : Nat} {cs : List Value} {t : TypeId} (h : Cw w g cs t) : w.there g 0 cs.length := by
  intro j hj
  rw [Nat.zero_add, h.cell, h.frozen]
  simp [hj]
theorem Cw.put {w : World} {g : Nat} {cs ds : List Value} {t : TypeId} (h : Cw w g cs t) (hl : cs.length = ds.length) : Cw (w.setCells g 0 ds) g ds t :=
  setCells_same g t ds [] cs w h hl
theorem Cw.new (w : World) (cs : List Value) (t : TypeId) : Cw (w.alloc (.cells cs.toArray t)) w.heap.size cs t := heap_alloc_new w _
theorem Cw.keep {w w' : World} {g : Nat} {cs : List Value} {t : TypeId} (h : Cw w g cs t) (hk : w'.heap[g]? = w.heap[g]?) : Cw w' g cs t := hk.trans h
theorem Cw.alloc {w : World} {g : Nat} {cs : List Value} {t : TypeId} (h : Cw w g cs t) (b : Obj) : Cw (w.alloc b) g cs t := h.keep (Below.heap_alloc _ _ _ h.lt)
theorem Cw.below {w w' : World} {g : Nat} {cs : List Value} {t : TypeId} (h : Cw w g cs t) {B : Nat} (hb : Below B w w') (hg : g < B) : Cw w' g cs t := h.keep (hb.block g hg)
theorem Cw.other {w : World} {g : Nat} {cs : List Value} {t : TypeId} (h : Cw w g cs t) (b o : Nat) (ds : List Value) (hg : g ≠ b) : Cw (w.setCells b o ds) g cs t := h.keep (setCells_other b g hg _ _ _)

theorem cellsOf_set (ws : List Int) (i : Nat) (x : Int) : (cellsOf ws).set i (.int .u8 x) = cellsOf (ws.set i x) := by simp [cellsOf, List.map_set]
theorem Cw.byte {w : World} {g : Nat} {ws : List Int} {t : TypeId} (h : Cw w g (cellsOf ws) t) (i : Nat) (hi : i < ws.length) : w.cell? ⟨g, i, none⟩ = some (.int .u8 (ws.getD i 0)) := by
  rw [h.cell, cellsOf_get' ws i hi]
theorem Cw.setB {w : World} {g : Nat} {ws : List Int} {t : TypeId} (h : Cw w g (cellsOf ws) t) (i : Nat) (x : Int) : Cw (w.setCell ⟨g, i, none⟩ (.int .u8 x)) g (cellsOf (ws.set i x)) t := by
  rw [← cellsOf_set]; exact h.set i _
theorem Cw.bs {w : World} {g : Nat} {zs : List Int} {t : TypeId} (h : Cw w g (cellsOf zs) t) (hm : zs.length ≤ maxLen) : Bs w (.slice (some ⟨g, 0, none⟩) zs.length zs.length) zs := Bs_of_block h hm

theorem setCells_below {w0 w : World} {B g : Nat} (hb : Below B w0 w) (hg : B ≤ g) (ds : List Value) : Below B w0 (w.setCells g 0 ds) := by
  have h := setCells_rest g ds 0 w
  exact ⟨h.1.trans hb.os, h.2.1.trans hb.tape, h.2.2.1.trans hb.output, by rw [h.2.2.2]; exact hb.size, fun k hk => (setCells_other g k (by omega) ds 0 w).trans (hb.block k hk)⟩

structure Sm (w w' : World) : Prop where
  os : w'.os = w.os
  tape : w'.tape = w.tape
  output : w'.output = w.output
  heap : w'.heap = w.heap
theorem Sm.refl (w : World) : Sm w w := ⟨rfl, rfl, rfl, rfl⟩
theorem Sm.trans {a b c : World} (h : Sm a b) (k : Sm b c) : Sm a c := ⟨k.os.trans h.os, k.tape.trans h.tape, k.output.trans h.output, k.heap.trans h.heap⟩
theorem Sm.drewN (w : World) (n : Nat) : Sm w (w.drewN n) := ⟨rfl, rfl, rfl, rfl⟩
theorem Sm.below {w w' : World} (h : Sm w w') (B : Nat) : Below B w w' := ⟨h.os, h.tape, h.output, by rw [h.heap]; exact Nat.le_refl _, fun k _ => by rw [h.heap]⟩
theorem Sm.bs {w w' : World} (h : Sm w w') {v : Value} {zs : List Int} (hb : Bs w v zs) : Bs w' v zs := hb.keep fun k _ _ => by rw [h.heap]
theorem Sm.ow {w w' : World} (h : Sm w w') {v : Value} {base : Nat} {zs : List Int} (hb : Ow w base v zs) : Ow w' base v zs := by
  unfold Ow World.ownsRow at *; rw [h.heap]; exact hb
theorem Sm.cw {w w' : World} (h : Sm w w') {g : Nat} {cs : List Value} {t : TypeId} (hb : Cw w g cs t) : Cw w' g cs t := hb.keep (by rw [h.heap])
theorem Sm.size {w w' : World} (h : Sm w w') : w'.heap.size = w.heap.size := by rw [h.heap]

theorem eq_of_all (xs ys : List Int) (hl : xs.length = ys.length) (h : ∀ j, j < xs.length → xs.getD j 0 = ys.getD j 0) : xs = ys := by
  apply List.ext_getElem hl
  intro i h1 h2
  have := h i h1
  simpa [List.getD, h1, h2] using this
def eqB (xs ys : List Int) : Bool := decide (xs = ys)
theorem eqB_true {xs ys : List Int} (h : xs = ys) : eqB xs ys = true := by simp [eqB, h]
theorem eqB_false {xs ys : List Int} (h : xs ≠ ys) : eqB xs ys = false := by simp [eqB, h]
set_option maxHeartbeats 800000 in
theorem same_any (va vb : Value) (xs ys : List Int) (w : World) (ha : Bs w va xs) (hb : Bs w vb ys) :
    Calls Tryz.prog 26 #[va, vb] w fun e w' => e = .returned (.bool (eqB xs ys)) ∧ Sm w w' := by
  obtain ⟨a1, c1, h1, m1⟩ := ha.len
  obtain ⟨a2, c2, h2, m2⟩ := hb.len
  subst h1; subst h2
  unfold maxLen at m1 m2
  by_cases hl : xs.length = ys.length
  · have hne : ((xs.length : Int) != (ys.length : Int)) = false := by simp [hl]
    have HL : Hid (xs.length = ys.length) := hl
    clear hl
    go_enter Tryz.func26, Tryz.ntmps26
    go_wp2
    go_loopw [5] (fun i wr => ∃ k : Nat, k ≤ xs.length ∧ i = .int .i64 k ∧ Sm w wr ∧ Hid (∀ j, j < k → xs.getD j 0 = ys.getD j 0)) (fun i _ => xs.length - (intOf i).toNat)
    case atStart => exact ⟨0, Nat.zero_le _, rfl, Sm.refl _, fun j hj => by omega⟩
    case round =>
      obtain ⟨k, hk, rfl, hsm, HJ⟩ := hrel
      by_cases hlt : k < xs.length
      · have hlt2 : k < ys.length := by have := HL.out; omega
        rcases hsm.bs ha with ⟨h0, _⟩ | ⟨_, b1, o1, d1, he1, hc1, hc2, hcell1⟩
        · subst h0; simp at hlt
        rcases hsm.bs hb with ⟨h0, _⟩ | ⟨_, b2, o2, d2, he2, hd1, hd2, hcell2⟩
        · subst h0; simp at hlt2
        simp only [Value.slice.injEq] at he1 he2
        obtain ⟨rfl, _, rfl⟩ := he1
        obtain ⟨rfl, _, rfl⟩ := he2
        have hx := hcell1 k hlt
        have hy := hcell2 k hlt2
        clear hcell1 hcell2
        obtain ⟨x, ex⟩ : ∃ x, x = xs.getD k 0 := ⟨_, rfl⟩
        obtain ⟨y, ey⟩ : ∃ y, y = ys.getD k 0 := ⟨_, rfl⟩
        rw [← ex] at hx
        rw [← ey] at hy
        have HX : Hid (x = xs.getD k 0) := ex
        have HY : Hid (y = ys.getD k 0) := ey
        clear ex ey
        by_cases hxy : x = y
        · subst hxy
          have HJ2 : Hid (∀ j, j < k + 1 → xs.getD j 0 = ys.getD j 0) := by
            intro j hj
            by_cases hjk : j = k
            · subst hjk; rw [← HX.out, ← HY.out]
            · exact HJ.out j (by omega)
          clear HJ HX HY
          go_wp2
          go_quiet (fail)
          go_wp2
          go_roundw
          case rel => exact ⟨k + 1, by omega, by go_num, hsm.trans (Sm.drewN _ _), HJ2⟩
          case measure => simp [intOf]; omega
        · have hxy' : (x != y) = true := by simp [hxy]
          have HF : Hid (eqB xs ys = false) := eqB_false (fun e => hxy (by rw [HX.out, HY.out, e]))
          clear HJ HX HY hxy
          go_wp2
          go_quiet (fail)
          go_wp2
          go_ret
          exact ⟨by rw [HF.out]; rfl, hsm.trans (Sm.drewN _ _)⟩
      · have HT : Hid (eqB xs ys = true) := eqB_true (eq_of_all xs ys HL.out (fun j hj => HJ.out j (by omega)))
        clear HJ
        go_wp2
        go_ret
        exact ⟨by rw [HT.out]; rfl, hsm⟩
  · have hne : ((xs.length : Int) != (ys.length : Int)) = true := by simp; omega
    have HF : Hid (eqB xs ys = false) := eqB_false (fun e => hl (by rw [e]))
    go_enter Tryz.func26, Tryz.ntmps26
    go_wp2
    go_ret
    exact ⟨by rw [HF.out]; rfl, Sm.refl _⟩
theorem grown_below {w w' : World} {base : Nat} {v : Value} {zs : List Int} (h : w.grownBy w' v.ownBlock) (ho : Ow w base v zs) (hb : base ≤ w.heap.size) : Below base w w' :=
  ⟨h.os, h.tape, h.output, h.size, fun k hk => h.block k (by omega) (fun e => by have := (World.ownsRow.lt ho k e.symm).1; omega)⟩
end Go.Proofs.YtnkjhooeklodcaaGreatDoor
end

section
/-
  DiskPlays: the law's roomy, stands and spoil, by contract (octet's texts, in this seat's numbers).
-/
namespace Go.Proofs.YtnkjhooeklodcaaGreatDoor
open Go.RowKit

theorem Ow.take {w : World} {base g m cap : Nat} {ys : List Int} (h : Ow w base (.slice (some ⟨g, 0, none⟩) m cap) ys) (k : Nat) (hk : k ≤ ys.length) : Ow w base (.slice (some ⟨g, 0, none⟩) k cap) (ys.take k) := by
  obtain ⟨ao, c, he, ⟨rfl, _⟩ | ⟨g', cur, rfl, hb, hl, hg, hn, hc, hs, ht⟩⟩ := h.form
  · simp at he
  · simp only [Value.slice.injEq, Option.some.injEq, Addr.mk.injEq, and_true] at he
    obtain ⟨rfl, rfl, rfl⟩ := he
    have hlen : (ys.take k).length = k := by simp; omega
    refine ⟨by simp [cellsOf], Or.inr ⟨g, cap, cur, by rw [hlen], hb, hg, by rw [hlen]; omega, hc, by simpa using hs, ?_⟩⟩
    rw [hlen, Nat.mul_one]
    have := congrArg (List.take k) ht
    rw [List.take_take, Nat.min_eq_left hk] at this
    rw [this]
    simp [cellsOf, List.map_take]
theorem Ow.grow_form {w : World} {base m cap : Nat} {ao : Option Addr} {ys : List Int} (h : Ow w base (.slice ao m cap) ys) (hn : ys ≠ []) : ∃ g, ao = some ⟨g, 0, none⟩ ∧ base ≤ g ∧ g < w.heap.size ∧ m = ys.length ∧ ys.length ≤ cap ∧ cap ≤ maxLen := by
  obtain ⟨ao, c, he, ⟨rfl, _, h0⟩ | ⟨g', cur, rfl, hb, hl, hg, hn, hc, hs, ht⟩⟩ := h.form
  · exact absurd h0 hn
  · simp only [Value.slice.injEq] at he
    obtain ⟨rfl, rfl, rfl⟩ := he
    exact ⟨g', rfl, hb, hl, rfl, hn, hc⟩
theorem Ow.cellH {w : World} {base g m cap : Nat} {ys : List Int} (h : Ow w base (.slice (some ⟨g, 0, none⟩) m cap) ys) (i : Nat) (hi : i < ys.length) : w.cell? ⟨g, i, none⟩ = some (.int .u8 (ys.getD i 0)) := by
  have := World.ownsRow.cells h (g := g) rfl i _ (cellsOf_get' ys i hi)
  simpa [Addr.add_lit] using this
theorem Ow.setH {w : World} {base g m cap : Nat} {ys : List Int} (h : Ow w base (.slice (some ⟨g, 0, none⟩) m cap) ys) (i : Nat) (x : Int) :
    Ow (w.setCell ⟨g, i, none⟩ (.int .u8 x)) base (.slice (some ⟨g, 0, none⟩) m cap) (ys.set i x) := by
  obtain ⟨ao, c, he, ⟨rfl, _⟩ | ⟨g', cur, rfl, hb, hl, hg, hn, hc, hs, ht⟩⟩ := h.form
  · simp at he
  · simp only [Value.slice.injEq, Option.some.injEq, Addr.mk.injEq, and_true] at he
    obtain ⟨rfl, rfl, rfl⟩ := he
    refine ⟨by simp [cellsOf], Or.inr ⟨g, cap, cur.setIfInBounds i (.int .u8 x), by simp, hb, ?_, by simpa using hn, hc, by simpa using hs, ?_⟩⟩
    · simp only [World.setCell, Array.getElem?_modify, hg]
      simp
    · simp only [List.length_set, Nat.mul_one, Array.toList_setIfInBounds]
      rw [List.take_set, ht]
      simp [cellsOf, List.map_set]
theorem Ow.frozenH {w : World} {base g m cap : Nat} {ys : List Int} (h : Ow w base (.slice (some ⟨g, 0, none⟩) m cap) ys) (i : Nat) : w.frozen? ⟨g, i, none⟩ = false := by
  obtain ⟨ao, c, he, ⟨rfl, _⟩ | ⟨g', cur, rfl, hb, hl, hg, hn, hc, hs, ht⟩⟩ := h.form
  · simp at he
  · simp only [Value.slice.injEq, Option.some.injEq, Addr.mk.injEq, and_true] at he
    obtain ⟨rfl, rfl, rfl⟩ := he
    simp [World.frozen?, hg]
theorem Ow.bounds {w : World} {base g m cap : Nat} {ys : List Int} (h : Ow w base (.slice (some ⟨g, 0, none⟩) m cap) ys) : m = ys.length ∧ ys.length ≤ cap ∧ cap ≤ maxLen := by
  obtain ⟨ao, c, he, ⟨rfl, _, h0⟩ | ⟨g', cur, rfl, hb, hl, hg, hn, hc, hs, ht⟩⟩ := h.form
  · simp at he
  · simp only [Value.slice.injEq] at he
    obtain ⟨_, rfl, rfl⟩ := he
    exact ⟨rfl, hn, hc⟩
theorem Sm.cellH {w w' : World} (h : Sm w w') {a : Addr} {v : Value} (hc : w.cell? a = some v) : w'.cell? a = some v := by
  rw [World.cell?_of_block (w := w) (by rw [h.heap])]; exact hc
set_option maxHeartbeats 800000 in
theorem roomy_any (sv : Value) (zs : List Int) (w : World) (hb : Bs w sv zs) (hz : zs.length ≤ 100000000000000) :
    Calls Tryz.prog 37 #[sv] w fun e w' => ∃ g cap, e = .returned (.slice (some ⟨g, 0, none⟩) (zs.length + 1) cap) ∧ Ow w' w.heap.size (.slice (some ⟨g, 0, none⟩) (zs.length + 1) cap) (zs ++ [171]) ∧ Below w.heap.size w w' ∧ w.heap.size ≤ g ∧ zs.length + 2 ≤ cap := by
  obtain ⟨ao, cap, hsv, hm⟩ := hb.len
  subst hsv
  have hown0 : Ow (w.alloc (.cells #[] 5)) w.heap.size (.slice (some ⟨w.heap.size, 0, none⟩) 0 0) [] := Ow_of_block (heap_alloc_new w _) (by simp) (Nat.le_refl _)
  have hb1 : Bs (w.alloc (.cells #[] 5)) (.slice ao zs.length cap) zs := hb.below ((Below.refl _ _).alloc (Nat.le_refl _) _) (Nat.le_refl _)
  go_enter Tryz.func37, Tryz.ntmps37
  go_wp2_with (at_builtin; refine wpList_append_bs _ rfl (.tmp 3) (.tmp 4) rfl w.heap.size _ [] rfl hown0 _ zs rfl hb1 (by simp; omega) (by simp) ?_)
  intro ao1 cap1 w1 hown1 hgrow1 hat1
  have B1 : Below w.heap.size w w1 := ((Below.refl _ _).alloc (Nat.le_refl _) _).grown hgrow1 (by simp) (fun k hk => by simp [Value.ownBlock] at hk; omega)
  have hs1 := B1.size
  have hown1' : Ow (w1.alloc (.cells #[.int .u8 171] 5)) w.heap.size (.slice ao1 zs.length cap1) zs := World.ownsRow.alloc hown1 _
  have hbs1 : Bs (w1.alloc (.cells #[.int .u8 171] 5)) (.slice (some ⟨w1.heap.size, 0, none⟩) 1 1) [171] := Bs_of_block (heap_alloc_new w1 _) (by simp [maxLen])
  go_wp2_with (at_builtin; refine wpList_append_bs _ rfl (.tmp 5) (.tmp 6) rfl w.heap.size _ zs rfl hown1' _ [171] rfl hbs1 (by simp; omega) (by simp; omega) ?_)
  intro ao2 cap2 w2 hown2 hgrow2 hat2
  have B2 : Below w.heap.size w w2 := (B1.alloc hs1 _).grown hgrow2 (by simp; omega) (fun k hk => (World.ownsRow.lt hown1' k hk).1)
  have hs2 := B2.size
  obtain ⟨ys, hys⟩ : ∃ ys, ys = zs ++ [171] := ⟨_, rfl⟩
  have hyl : zs.length + 1 = ys.length := by rw [hys]; simp
  rw [← hys] at hown2
  have hown2' : Ow (w2.alloc (.cells #[.int .u8 171] 5)) w.heap.size (.slice ao2 (zs.length + 1) cap2) ys := World.ownsRow.alloc hown2 _
  have hbs2 : Bs (w2.alloc (.cells #[.int .u8 171] 5)) (.slice (some ⟨w2.heap.size, 0, none⟩) 1 1) [171] := Bs_of_block (heap_alloc_new w2 _) (by simp [maxLen])
  have HY : Hid (ys = zs ++ [171]) := hys
  have HL : Hid (zs.length + 1 = ys.length) := hyl
  have hy1 : zs.length + 1 ≤ ys.length := by omega
  have hy2 : ys.length ≤ zs.length + 1 := by omega
  clear hys hyl
  go_wp2_with (at_builtin; refine wpList_append_bs _ rfl (.tmp 7) (.tmp 8) rfl w.heap.size _ ys rfl hown2' _ [171] rfl hbs2 (by simp; omega) (by simp; omega) ?_)
  intro ao3 cap3 w3 hown3 hgrow3 hat3
  have B3 : Below w.heap.size w w3 := (B2.alloc hs2 _).grown hgrow3 (by simp; omega) (fun k hk => (World.ownsRow.lt hown2' k hk).1)
  obtain ⟨g, hg, hg1, hg2, hg3, hg4, hg5⟩ := hown3.grow_form (by simp)
  subst hg
  have hl3 : (ys ++ [(171 : Int)]).length = ys.length + 1 := by simp
  have hfin := hown3.take (zs.length + 1) (by rw [hl3]; omega)
  rw [show (ys ++ [(171 : Int)]).take (zs.length + 1) = ys by rw [HL.out]; simp, HY.out] at hfin
  rw [hl3] at hg4
  have hcp : zs.length + 1 ≤ cap3 := by omega
  have hcp2 : zs.length + 2 ≤ cap3 := by omega
  unfold maxLen at hg5
  clear hown3 hgrow3 hat3 hown2' hbs2 hown2 hgrow2 hat2 hown1' hbs1 hown1 hgrow1 hat1 hown0 hb1 HY hl3 hg3 hg4
  go_wp2
  go_ret
  exact ⟨g, cap3, rfl, hfin, B3, hg1, hcp2⟩
set_option maxHeartbeats 800000 in
theorem stands_any (base g cap : Nat) (sv : Value) (zs : List Int) (w : World) (ho : Ow w base (.slice (some ⟨g, 0, none⟩) (zs.length + 1) cap) (zs ++ [171])) (hb : Bs w sv zs) (hz : zs.length ≤ 100000000000000) :
    Calls Tryz.prog 38 #[.slice (some ⟨g, 0, none⟩) (zs.length + 1) cap, sv] w fun e w' => e = .returned (.bool true) ∧ Sm w w' := by
  obtain ⟨ao, cap', hsv, hm⟩ := hb.len
  subst hsv
  obtain ⟨-, hc1, hc2⟩ := ho.bounds
  have hc1' : zs.length + 1 ≤ cap := by simpa using hc1
  clear hc1
  unfold maxLen at hc2
  have hc := ho.cellH zs.length (by simp)
  rw [show (zs ++ [(171 : Int)]).getD zs.length 0 = 171 by simp [List.getD]] at hc
  have ht := (ho.take zs.length (by simp)).bs
  rw [show (zs ++ [(171 : Int)]).take zs.length = zs by simp] at ht
  have heq : eqB zs zs = true := eqB_true rfl
  go_enter Tryz.func38, Tryz.ntmps38
  go_wp2_with fail
  refine (same_any _ _ zs zs _ ht hb).mono ?_
  rintro e w1 ⟨rfl, hsm⟩
  rw [heq]
  have hcc := hsm.cellH hc
  clear hc
  go_wp2
  go_ret
  exact ⟨rfl, hsm⟩
theorem grown_set {w w' : World} {row : Option Nat} (h : w.grownBy w' row) (g i : Nat) (u : Value) (hg : row = some g ∨ w.heap.size ≤ g) : w.grownBy (w'.setCell ⟨g, i, none⟩ u) row :=
  ⟨h.os, h.tape, h.output, by simpa [World.setCell] using h.size, fun k hk hr => (Below.heap_setCell _ _ _ _ (fun e => by
    have e' : k = g := e
    rcases hg with hg | hg
    · exact hr (by rw [hg, e'])
    · omega)).trans (h.block k hk hr)⟩
set_option maxHeartbeats 1600000 in
theorem spoil_any (base : Nat) (v : Value) (zs : List Int) (w : World) (ho : Ow w base v zs) (hb : base ≤ w.heap.size) (hz : zs.length ≤ 100000000000) :
    Calls Tryz.prog 39 #[v] w fun e w' => e = .returned (.tuple #[]) ∧ w.grownBy w' v.ownBlock := by
  obtain ⟨ao, cap, hv, hj⟩ := ho.form
  clear hj
  subst hv
  have ho1 : Ow (w.alloc (.cells #[.int .u8 99] 5)) base (.slice ao zs.length cap) zs := World.ownsRow.alloc ho _
  have hbs1 : Bs (w.alloc (.cells #[.int .u8 99] 5)) (.slice (some ⟨w.heap.size, 0, none⟩) 1 1) [99] := Bs_of_block (heap_alloc_new w _) (by simp [maxLen])
  go_enter Tryz.func39, Tryz.ntmps39
  go_wp2_with (at_builtin; refine wpList_append_bs _ rfl (.tmp 4) (.tmp 5) rfl base _ zs rfl ho1 _ [99] rfl hbs1 (by simp; omega) (by simp; omega) ?_)
  intro ao2 cap2 w2 ho2 hg2 hat2
  obtain ⟨g, rfl, hg0, hglt, hgl, hgc, hgm⟩ := ho2.grow_form (by simp)
  unfold maxLen at hgm
  have G2 : w.grownBy w2 (Value.slice ao zs.length cap).ownBlock := ⟨hg2.os, hg2.tape, hg2.output, by have := hg2.size; simp at this; omega, fun k hk hr => (hg2.block k (by simp; omega) hr).trans (Below.heap_alloc _ _ _ hk)⟩
  have hrow : (Value.slice ao zs.length cap).ownBlock = some g ∨ w.heap.size ≤ g := by
    rcases hat2 with h | h
    · exact Or.inl h.symm
    · right
      have : g = w.heap.size + 1 := by simpa [Value.ownBlock] using h
      omega
  have hlen : (zs ++ [(99 : Int)]).length = zs.length + 1 := by simp
  clear hat2 hg2 ho1 hbs1 ho hgl
  generalize hys : zs ++ [(99 : Int)] = ys at *
  clear hys
  have hyl1 : ys.length ≤ zs.length + 1 := by omega
  have hyl2 : zs.length + 1 ≤ ys.length := by omega
  have HLEN : Hid (ys.length = zs.length + 1) := hlen
  clear hlen
  go_wp2
  go_loopw [3] (fun i wr => ∃ (k : Nat) (ys' : List Int), k ≤ zs.length + 1 ∧ i = .int .i64 k ∧ Ow wr base (.slice (some ⟨g, 0, none⟩) (zs.length + 1) cap2) ys' ∧ Hid (ys'.length = zs.length + 1) ∧ w.grownBy wr (Value.slice ao zs.length cap).ownBlock) (fun i _ => zs.length + 1 - (intOf i).toNat)
  case atStart => exact ⟨0, ys, Nat.zero_le _, rfl, ho2, HLEN, G2⟩
  case round =>
    obtain ⟨k, ys', hk, rfl, hok, HY, Gk⟩ := hrel
    by_cases hlt : k < zs.length + 1
    · have hck := hok.cellH k (by rw [HY.out]; exact hlt)
      have hfk := hok.frozenH k
      have hok2 := hok.setH k 98
      have HY2 : Hid ((ys'.set k 98).length = zs.length + 1) := by show _ = _; rw [List.length_set]; exact HY.out
      have Gk2 := grown_set Gk g k (.int .u8 98) hrow
      clear hok Gk
      go_wp2
      go_roundw
      case rel => exact ⟨k + 1, _, by omega, by go_num, hok2, HY2, Gk2⟩
      case measure => simp [intOf]; omega
    · go_wp2
      go_end0
      exact ⟨rfl, Gk⟩
end Go.Proofs.YtnkjhooeklodcaaGreatDoor
end
