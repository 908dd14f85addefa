/-
  Arrays in memory: a row of bytes (Rw), a row of words (Aw); a whole array stored and loaded; the law's same; two digests against each other.
-/
import Derived.Test.YtkfnmdhhiigceaaDgWord
import Derived.Deep.MidRow
import Derived.Laws.StructEq
namespace Go.Proofs.Ytkfnmdhhiigceaa.Dg
open Go.RowKit

theorem setCells_other (b k : Nat) (hk : k ≠ b) : ∀ (vs : List Value) (o : Nat) (w : World), (w.setCells b o vs).heap[k]? = w.heap[k]?
  | [], _, _ => rfl
  | v :: vs, o, w => by
    show ((w.setCell ⟨b, o, none⟩ v).setCells b (o + 1) vs).heap[k]? = _
    rw [setCells_other b k hk vs (o + 1) _, Below.heap_setCell _ _ _ _ hk]
theorem setCells_same (b : Nat) (t : TypeId) : ∀ (vs pre old : List Value) (w : World), w.heap[b]? = some (.cells (pre ++ old).toArray t (0, 0)) → old.length = vs.length → (w.setCells b pre.length vs).heap[b]? = some (.cells (pre ++ vs).toArray t (0, 0))
  | [], pre, old, w, h, hl => by
    have : old = [] := List.eq_nil_of_length_eq_zero hl
    subst this
    exact h
  | v :: vs, pre, [], w, h, hl => by simp at hl
  | v :: vs, pre, u :: old, w, h, hl => by
    have h1 : (w.setCell ⟨b, pre.length, none⟩ v).heap[b]? = some (.cells ((pre ++ [v]) ++ old).toArray t (0, 0)) := by
      simp only [World.setCell, Array.getElem?_modify, h]
      simp
    have h2 := setCells_same b t vs (pre ++ [v]) old _ h1 (by simpa using hl)
    show ((w.setCell ⟨b, pre.length, none⟩ v).setCells b (pre.length + 1) vs).heap[b]? = _
    simpa using h2
theorem setCells_rest (b : Nat) : ∀ (vs : List Value) (o : Nat) (w : World), (w.setCells b o vs).os = w.os ∧ (w.setCells b o vs).tape = w.tape ∧ (w.setCells b o vs).output = w.output ∧ (w.setCells b o vs).heap.size = w.heap.size
  | [], _, _ => ⟨rfl, rfl, rfl, rfl⟩
  | v :: vs, o, w => by
    have h := setCells_rest b vs (o + 1) (w.setCell ⟨b, o, none⟩ v)
    exact ⟨h.1, h.2.1, h.2.2.1, h.2.2.2.trans (by simp [World.setCell])⟩

/-- Block g is a row of cells. -/
def Cw (w : World) (g : Nat) (cs : List Value) (t : TypeId) : Prop := w.heap[g]? = some (.cells cs.toArray t (0, 0))
theorem Cw.lt {w : World} {g : Nat} {cs : List Value} {t : TypeId} (h : Cw w g cs t) : g < w.heap.size := (Array.getElem?_eq_some_iff.1 h).1
theorem Cw.cell {w : World} {g : Nat} {cs : List Value} {t : TypeId} (h : Cw w g cs t) (i : Nat) : w.cell? ⟨g, i, none⟩ = cs[i]? := by
  rw [cell_of_row w g i _ _ _ h]; simp
theorem Cw.frozen {w : World} {g : Nat} {cs : List Value} {t : TypeId} (h : Cw w g cs t) (i : Nat) : w.frozen? ⟨g, i, none⟩ = false := by
  simp only [World.frozen?, show w.heap[g]? = _ from h]; simp
theorem Cw.set {w : World} {g : Nat} {cs : List Value} {t : TypeId} (h : Cw w g cs t) (i : Nat) (x : Value) : Cw (w.setCell ⟨g, i, none⟩ x) g (cs.set i x) t := by
  have h' : w.heap[g]? = some (.cells cs.toArray t (0, 0)) := h
  simp only [Cw, World.setCell, Array.getElem?_modify, h']
  simp
theorem Cw.range {w : World} {g : Nat} {cs : List Value} {t : TypeId} (h : Cw w g cs t) : w.rangeAt g 0 cs := by
  intro j u hu
  rw [Nat.zero_add, h.cell]; exact hu
theorem Cw.there {w : World} {g : Nat} {cs : List Value} {t : TypeId} (h : Cw w g cs t) : w.there g 0 cs.length := by
  intro j hj
  rw [Nat.zero_add, h.cell, h.frozen]
  simp [hj]
theorem Cw.put {w : World} {g : Nat} {cs ds : List Value} {t : TypeId} (h : Cw w g cs t) (hl : cs.length = ds.length) : Cw (w.setCells g 0 ds) g ds t :=
  setCells_same g t ds [] cs w h hl
theorem Cw.new (w : World) (cs : List Value) (t : TypeId) : Cw (w.alloc (.cells cs.toArray t)) w.heap.size cs t := heap_alloc_new w _
theorem Cw.keep {w w' : World} {g : Nat} {cs : List Value} {t : TypeId} (h : Cw w g cs t) (hk : w'.heap[g]? = w.heap[g]?) : Cw w' g cs t := hk.trans h
theorem Cw.alloc {w : World} {g : Nat} {cs : List Value} {t : TypeId} (h : Cw w g cs t) (b : Obj) : Cw (w.alloc b) g cs t := h.keep (Below.heap_alloc _ _ _ h.lt)
theorem Cw.below {w w' : World} {g : Nat} {cs : List Value} {t : TypeId} (h : Cw w g cs t) {B : Nat} (hb : Below B w w') (hg : g < B) : Cw w' g cs t := h.keep (hb.block g hg)
theorem Cw.other {w : World} {g : Nat} {cs : List Value} {t : TypeId} (h : Cw w g cs t) (b o : Nat) (ds : List Value) (hg : g ≠ b) : Cw (w.setCells b o ds) g cs t := h.keep (setCells_other b g hg _ _ _)

/-- Words as cells. -/
def cellsW (ws : List Nat) : List Value := ws.map fun (x : Nat) => Value.int .u32 (x : Int)
theorem cellsW_length (ws : List Nat) : (cellsW ws).length = ws.length := by simp [cellsW]
theorem cellsW_one (ws : List Nat) : ∀ u ∈ cellsW ws, u.oneCell' = true := by
  intro u hu
  obtain ⟨x, _, rfl⟩ := List.mem_map.1 hu
  rfl
theorem cellsW_get (ws : List Nat) (j : Nat) (h : j < ws.length) : (cellsW ws)[j]? = some (.int .u32 (ws.getD j 0 : Nat)) := by simp [cellsW, List.getD, h]
theorem cellsW_set (ws : List Nat) (i x : Nat) : (cellsW ws).set i (.int .u32 (x : Int)) = cellsW (ws.set i x) := by simp [cellsW, List.map_set]
theorem cellsOf_set (ws : List Int) (i : Nat) (x : Int) : (cellsOf ws).set i (.int .u8 x) = cellsOf (ws.set i x) := by simp [cellsOf, List.map_set]
theorem Cw.word {w : World} {g : Nat} {ws : List Nat} {t : TypeId} (h : Cw w g (cellsW ws) t) (i : Nat) (hi : i < ws.length) : w.cell? ⟨g, i, none⟩ = some (.int .u32 (ws.getD i 0 : Nat)) := by
  rw [h.cell, cellsW_get ws i hi]
theorem Cw.byte {w : World} {g : Nat} {ws : List Int} {t : TypeId} (h : Cw w g (cellsOf ws) t) (i : Nat) (hi : i < ws.length) : w.cell? ⟨g, i, none⟩ = some (.int .u8 (ws.getD i 0)) := by
  rw [h.cell, cellsOf_get' ws i hi]
theorem Cw.setW {w : World} {g : Nat} {ws : List Nat} {t : TypeId} (h : Cw w g (cellsW ws) t) (i x : Nat) : Cw (w.setCell ⟨g, i, none⟩ (.int .u32 (x : Int))) g (cellsW (ws.set i x)) t := by
  rw [← cellsW_set]; exact h.set i _
theorem Cw.setB {w : World} {g : Nat} {ws : List Int} {t : TypeId} (h : Cw w g (cellsOf ws) t) (i : Nat) (x : Int) : Cw (w.setCell ⟨g, i, none⟩ (.int .u8 x)) g (cellsOf (ws.set i x)) t := by
  rw [← cellsOf_set]; exact h.set i _
theorem Cw.bs {w : World} {g : Nat} {zs : List Int} {t : TypeId} (h : Cw w g (cellsOf zs) t) (hm : zs.length ≤ maxLen) : Bs w (.slice (some ⟨g, 0, none⟩) zs.length zs.length) zs := Bs_of_block h hm

/-- A store of a whole row into the row of block g. -/
theorem setCells_below {w0 w : World} {B g : Nat} (hb : Below B w0 w) (hg : B ≤ g) (ds : List Value) : Below B w0 (w.setCells g 0 ds) := by
  have h := setCells_rest g ds 0 w
  exact ⟨h.1.trans hb.os, h.2.1.trans hb.tape, h.2.2.1.trans hb.output, by rw [h.2.2.2]; exact hb.size, fun k hk => (setCells_other g k (by omega) ds 0 w).trans (hb.block k hk)⟩

/-- The memory is as it was (orders may have been drawn). -/
structure Sm (w w' : World) : Prop where
  os : w'.os = w.os
  tape : w'.tape = w.tape
  output : w'.output = w.output
  heap : w'.heap = w.heap
theorem Sm.refl (w : World) : Sm w w := ⟨rfl, rfl, rfl, rfl⟩
theorem Sm.trans {a b c : World} (h : Sm a b) (k : Sm b c) : Sm a c := ⟨k.os.trans h.os, k.tape.trans h.tape, k.output.trans h.output, k.heap.trans h.heap⟩
theorem Sm.drewN (w : World) (n : Nat) : Sm w (w.drewN n) := ⟨rfl, rfl, rfl, rfl⟩
theorem Sm.below {w w' : World} (h : Sm w w') (B : Nat) : Below B w w' := ⟨h.os, h.tape, h.output, by rw [h.heap]; exact Nat.le_refl _, fun k _ => by rw [h.heap]⟩
theorem Sm.bs {w w' : World} (h : Sm w w') {v : Value} {zs : List Int} (hb : Bs w v zs) : Bs w' v zs := hb.keep fun k _ _ => by rw [h.heap]
theorem Sm.ow {w w' : World} (h : Sm w w') {v : Value} {base : Nat} {zs : List Int} (hb : Ow w base v zs) : Ow w' base v zs := by
  unfold Ow World.ownsRow at *; rw [h.heap]; exact hb
theorem Sm.cw {w w' : World} (h : Sm w w') {g : Nat} {cs : List Value} {t : TypeId} (hb : Cw w g cs t) : Cw w' g cs t := hb.keep (by rw [h.heap])
theorem Sm.size {w w' : World} (h : Sm w w') : w'.heap.size = w.heap.size := by rw [h.heap]

theorem eq_of_all (xs ys : List Int) (hl : xs.length = ys.length) (h : ∀ j, j < xs.length → xs.getD j 0 = ys.getD j 0) : xs = ys := by
  apply List.ext_getElem hl
  intro i h1 h2
  have := h i h1
  simpa [List.getD, h1, h2] using this
/-- One test for both: an unfolded 'decide' would part the walk. -/
def eqB (xs ys : List Int) : Bool := decide (xs = ys)
theorem eqB_true {xs ys : List Int} (h : xs = ys) : eqB xs ys = true := by simp [eqB, h]
theorem eqB_false {xs ys : List Int} (h : xs ≠ ys) : eqB xs ys = false := by simp [eqB, h]
set_option maxRecDepth 20000 in
set_option maxHeartbeats 800000 in
theorem same_any (va vb : Value) (xs ys : List Int) (w : World) (ha : Bs w va xs) (hb : Bs w vb ys) :
    Calls Try.prog 23 #[va, vb] w fun e w' => e = .returned (.bool (eqB xs ys)) ∧ Sm w w' := by
  obtain ⟨a1, c1, h1, m1⟩ := ha.len
  obtain ⟨a2, c2, h2, m2⟩ := hb.len
  subst h1; subst h2
  unfold maxLen at m1 m2
  by_cases hl : xs.length = ys.length
  · have hne : ((xs.length : Int) != (ys.length : Int)) = false := by simp [hl]
    have HL : Hid (xs.length = ys.length) := hl
    clear hl
    go_enter Try.func23, Try.ntmps23
    go_wp2
    go_loopw [5] (fun i wr => ∃ k : Nat, k ≤ xs.length ∧ i = .int .i64 k ∧ Sm w wr ∧ Hid (∀ j, j < k → xs.getD j 0 = ys.getD j 0)) (fun i _ => xs.length - (intOf i).toNat)
    case atStart => exact ⟨0, Nat.zero_le _, rfl, Sm.refl _, fun j hj => by omega⟩
    case round =>
      obtain ⟨k, hk, rfl, hsm, HJ⟩ := hrel
      by_cases hlt : k < xs.length
      · have hlt2 : k < ys.length := by have := HL.out; omega
        rcases hsm.bs ha with ⟨h0, _⟩ | ⟨_, b1, o1, d1, he1, hc1, hc2, hcell1⟩
        · subst h0; simp at hlt
        rcases hsm.bs hb with ⟨h0, _⟩ | ⟨_, b2, o2, d2, he2, hd1, hd2, hcell2⟩
        · subst h0; simp at hlt2
        simp only [Value.slice.injEq] at he1 he2
        obtain ⟨rfl, _, rfl⟩ := he1
        obtain ⟨rfl, _, rfl⟩ := he2
        have hx := hcell1 k hlt
        have hy := hcell2 k hlt2
        clear hcell1 hcell2
        obtain ⟨x, ex⟩ : ∃ x, x = xs.getD k 0 := ⟨_, rfl⟩
        obtain ⟨y, ey⟩ : ∃ y, y = ys.getD k 0 := ⟨_, rfl⟩
        rw [← ex] at hx
        rw [← ey] at hy
        have HX : Hid (x = xs.getD k 0) := ex
        have HY : Hid (y = ys.getD k 0) := ey
        clear ex ey
        by_cases hxy : x = y
        · subst hxy
          have HJ2 : Hid (∀ j, j < k + 1 → xs.getD j 0 = ys.getD j 0) := by
            intro j hj
            by_cases hjk : j = k
            · subst hjk; rw [← HX.out, ← HY.out]
            · exact HJ.out j (by omega)
          clear HJ HX HY
          go_wp2
          go_quiet (fail)
          go_wp2
          go_roundw
          case rel => exact ⟨k + 1, by omega, by go_num, hsm.trans (Sm.drewN _ _), HJ2⟩
          case measure => simp [intOf]; omega
        · have hxy' : (x != y) = true := by simp [hxy]
          have HF : Hid (eqB xs ys = false) := eqB_false (fun e => hxy (by rw [HX.out, HY.out, e]))
          clear HJ HX HY hxy
          go_wp2
          go_quiet (fail)
          go_wp2
          go_ret
          exact ⟨by rw [HF.out]; rfl, hsm.trans (Sm.drewN _ _)⟩
      · have HT : Hid (eqB xs ys = true) := eqB_true (eq_of_all xs ys HL.out (fun j hj => HJ.out j (by omega)))
        clear HJ
        go_wp2
        go_ret
        exact ⟨by rw [HT.out]; rfl, hsm⟩
  · have hne : ((xs.length : Int) != (ys.length : Int)) = true := by simp; omega
    have HF : Hid (eqB xs ys = false) := eqB_false (fun e => hl (by rw [e]))
    go_enter Try.func23, Try.ntmps23
    go_wp2
    go_ret
    exact ⟨by rw [HF.out]; rfl, Sm.refl _⟩
theorem all_range_eqI : ∀ (xs ys : List Int), xs.length = ys.length → ((List.range xs.length).all fun i => xs.getD i 0 == ys.getD i 0) = eqB xs ys
  | [], [], _ => rfl
  | x :: xs, y :: ys, h => by
    have ih := all_range_eqI xs ys (by simpa using h)
    rw [List.length_cons, List.range_succ_eq_map, List.all_cons, List.all_map]
    simp only [List.getD_cons_zero, Function.comp_def, List.getD_cons_succ, ih]
    simp only [eqB]
    by_cases hx : x = y <;> simp [hx]
  | [], _ :: _, h => by simp at h
  | _ :: _, [], h => by simp at h

theorem sizeOf5 (w : World) : (sizeOf 5).run Try.prog w = .ok 1 w := by kernel_rfl

theorem run_equal_hash (xs ys : List Int) (hx : xs.length = 32) (hy : ys.length = 32) (w : World) :
    (Op.equalIn 10000 48 (.agg (cellsOf xs).toArray) (.agg (cellsOf ys).toArray)).run Try.prog w = .ok (eqB xs ys) w := by
  rw [← all_range_eqI xs ys (hx.trans hy.symm), hx, List.range_eq_range']
  show (Op.equalIn (9998 + 2) 48 _ _).run Try.prog w = _
  rw [Op.equalIn]
  simp only [Sem.run_bind, run_underlying Try.underlying48, Result.andThen_ok, sizeOf5, Std.Legacy.Range.forIn_eq_forIn_range', Std.Legacy.Range.size, Nat.sub_zero, Nat.add_sub_cancel, Nat.div_one]
  have hl : ∀ i ∈ List.range' 0 32 1, i < 32 := fun i hi => by simpa using (List.mem_range'_1.1 hi).2
  generalize List.range' 0 32 1 = l at hl ⊢
  induction l with
  | nil => simp
  | cons i l ih =>
    have hi : i < 32 := hl i (by simp)
    have px : (part 5 (cellsOf xs).toArray (i * 1)).run Try.prog w = .ok (.int .u8 (xs.getD i 0)) w := by
      simp [part, isAgg, run_underlying Try.underlying5, cellsOf, List.getD, List.getElem?_eq_getElem (show i < xs.length by omega)]
    have py : (part 5 (cellsOf ys).toArray (i * 1)).run Try.prog w = .ok (.int .u8 (ys.getD i 0)) w := by
      simp [part, isAgg, run_underlying Try.underlying5, cellsOf, List.getD, List.getElem?_eq_getElem (show i < ys.length by omega)]
    have pe : (Op.equalIn (9998 + 1) 5 (.int .u8 (xs.getD i 0)) (.int .u8 (ys.getD i 0))).run Try.prog w = .ok (xs.getD i 0 == ys.getD i 0) w := by
      rw [run_equalIn_int w 9998 5 .u8 .u8 _ _ Try.underlying5]
    simp only [List.forIn_cons, Sem.run_bind, px, py, pe, Result.andThen_ok, List.all_cons]
    cases hb : (xs.getD i 0 == ys.getD i 0)
    · simp
    · simp only [Bool.not_true, Bool.false_eq_true, if_false, Sem.run_pure, Result.andThen_ok, Bool.true_and]
      exact ih fun j hj => hl j (by simp [hj])
end Go.Proofs.Ytkfnmdhhiigceaa.Dg
