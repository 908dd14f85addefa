/-
  Joined from: FrBase, FrWriter, FrBits, FrWriterB, FrWriterC, FrSame, FrCrc, FrSum.
-/
import Derived.Test.YtnkjhooeklodcaaGreatDoorProg
import Derived.WalkKit
import Derived.Maps.AppendAt
import Derived.Deep.AppendLies
import Derived.Handy
import Derived.WalkSpells
import Derived.Laws.BitsAllLaws
import Derived.Lib.SliceRun
import Derived.Deep.QuietTactic
import Derived.BigQuiet
section
/-
  Words for bytes in memory: a slice of bytes that can be read (Bs), a Writer (Wr), and what a step of a Writer leaves (Wstep). Plain facts; no walk.
-/
namespace Go.Proofs.YtnkjhooeklodcaaGreatDoor.Fr
open Go.RowKit

theorem Tz.info5 : (Tryz.prog.info? 5).map (fun i => (i.zero, i.size, i.bytes)) = some (some (.int .u8 0), 1, 1) := by kernel_rfl

/-- Bytes as cells. -/
def cellsOf (zs : List Int) : List Value := zs.map (Value.int .u8)
theorem cellsOf_length (zs : List Int) : (cellsOf zs).length = zs.length := by simp [cellsOf]
theorem cellsOf_append (a b : List Int) : cellsOf (a ++ b) = cellsOf a ++ cellsOf b := by simp [cellsOf]
theorem cellsOf_get (zs : List Int) (j : Nat) (u : Value) (h : (cellsOf zs)[j]? = some u) : j < zs.length ∧ u = .int .u8 (zs.getD j 0) := by
  have hj : j < zs.length := by have := (List.getElem?_eq_some_iff.1 h).1; simpa [cellsOf] using this
  refine ⟨hj, ?_⟩
  have e : (cellsOf zs)[j]? = some (.int .u8 (zs.getD j 0)) := by simp [cellsOf, List.getD, hj]
  rw [e] at h
  exact (Option.some.inj h).symm
theorem cellsOf_get' (zs : List Int) (j : Nat) (h : j < zs.length) : (cellsOf zs)[j]? = some (.int .u8 (zs.getD j 0)) := by simp [cellsOf, List.getD, h]
theorem cellsOf_one (zs : List Int) : ∀ u ∈ cellsOf zs, u.oneCell' = true := ints_oneCell .u8 zs

/-- The slice v reads as the bytes zs. -/
def Bs (w : World) (v : Value) (zs : List Int) : Prop :=
  (zs = [] ∧ ∃ ao cap, v = .slice ao 0 cap ∧ cap ≤ maxLen ∧ (ao = none → cap = 0)) ∨
  (zs ≠ [] ∧ ∃ b off cap, v = .slice (some ⟨b, off, none⟩) zs.length cap ∧ zs.length ≤ cap ∧ cap ≤ maxLen ∧
    ∀ i, i < zs.length → w.cell? ⟨b, off + i, none⟩ = some (.int .u8 (zs.getD i 0)))

/-- The slice v, of its own row from block base on, holds the bytes zs. -/
def Ow (w : World) (base : Nat) (v : Value) (zs : List Int) : Prop := w.ownsRow base 5 1 v zs.length (cellsOf zs)

theorem Ow.form {w : World} {base : Nat} {v : Value} {zs : List Int} (h : Ow w base v zs) :
    ∃ ao cap, v = .slice ao zs.length cap ∧ (ao = none ∧ cap = 0 ∧ zs = [] ∨ ∃ g cur, ao = some ⟨g, 0, none⟩ ∧ base ≤ g ∧ g < w.heap.size ∧ w.heap[g]? = some (.cells cur 5 (0, 0)) ∧ zs.length ≤ cap ∧ cap ≤ maxLen ∧ cur.size = cap ∧ cur.toList.take zs.length = cellsOf zs) := by
  rcases h.2 with ⟨rfl, h0⟩ | ⟨g, cap, cur, rfl, hb, hg, hn, hc, hs, ht⟩
  · refine ⟨none, 0, by rw [h0], Or.inl ⟨rfl, rfl, ?_⟩⟩
    exact List.eq_nil_of_length_eq_zero h0
  · exact ⟨_, cap, rfl, Or.inr ⟨g, cur, rfl, hb, (Array.getElem?_eq_some_iff.1 hg).1, hg, hn, hc, by simpa using hs, by simpa using ht⟩⟩

theorem Ow.mono {w : World} {base base' : Nat} {v : Value} {zs : List Int} (h : Ow w base v zs) (hb : base' ≤ base) : Ow w base' v zs := by
  refine ⟨h.1, ?_⟩
  rcases h.2 with h2 | ⟨g, cap, cur, h1, h2, h3⟩
  · exact Or.inl h2
  · exact Or.inr ⟨g, cap, cur, h1, by omega, h3⟩

theorem Ow.bs {w : World} {base : Nat} {v : Value} {zs : List Int} (h : Ow w base v zs) : Bs w v zs := by
  obtain ⟨ao, cap, rfl, ⟨rfl, rfl, rfl⟩ | ⟨g, cur, rfl, hb, hl, hg, hn, hc, hs, ht⟩⟩ := h.form
  · exact Or.inl ⟨rfl, none, 0, rfl, by unfold maxLen; omega, fun _ => rfl⟩
  · by_cases hz : zs = []
    · subst hz
      exact Or.inl ⟨rfl, _, cap, rfl, hc, by intro h; cases h⟩
    · refine Or.inr ⟨hz, g, 0, cap, rfl, hn, hc, fun i hi => ?_⟩
      have := h.cells (g := g) rfl i _ (cellsOf_get' zs i hi)
      simpa [Addr.add_lit] using this

theorem Bs.keep {w w' : World} {v : Value} {zs : List Int} (h : Bs w v zs) (hk : ∀ k, v.ownBlock = some k → k < w.heap.size → w'.heap[k]? = w.heap[k]?) : Bs w' v zs := by
  rcases h with h | ⟨hz, b, off, cap, rfl, hn, hc, hcell⟩
  · exact Or.inl h
  · refine Or.inr ⟨hz, b, off, cap, rfl, hn, hc, fun i hi => ?_⟩
    have h1 := hcell i hi
    have hlt := World.block_lt_of_cell? w _ h1
    rw [World.cell?_of_block (w := w) (hk b rfl hlt)]
    exact h1

theorem Bs.below {w w' : World} {v : Value} {zs : List Int} {B : Nat} (h : Bs w v zs) (hk : Below B w w') (hb : w.heap.size ≤ B) : Bs w' v zs :=
  h.keep fun k _ hlt => hk.block k (by omega)

theorem Bs.len {w : World} {v : Value} {zs : List Int} (h : Bs w v zs) : ∃ ao cap, v = .slice ao zs.length cap ∧ zs.length ≤ maxLen := by
  rcases h with ⟨rfl, ao, cap, rfl, _, _⟩ | ⟨_, b, off, cap, rfl, h1, h2, _⟩
  · exact ⟨ao, cap, rfl, by unfold maxLen; simp⟩
  · exact ⟨_, cap, rfl, by omega⟩

/-- A block of bytes laid whole, seen as a slice. -/
theorem Bs_of_block {w : World} {B : Nat} {zs : List Int} {t : TypeId} {fr : Nat × Nat} (hb : w.heap[B]? = some (.cells (cellsOf zs).toArray t fr)) (hm : zs.length ≤ maxLen) : Bs w (.slice (some ⟨B, 0, none⟩) zs.length zs.length) zs := by
  by_cases hz : zs = []
  · subst hz
    exact Or.inl ⟨rfl, _, 0, rfl, by unfold maxLen; omega, by intro h; cases h⟩
  · refine Or.inr ⟨hz, B, 0, zs.length, rfl, Nat.le_refl _, hm, fun i hi => ?_⟩
    have := World.news_of_block hb i _ (by simpa using cellsOf_get' zs i hi)
    simpa [Addr.add_lit] using this

theorem Ow_of_block {w : World} {B base : Nat} {zs : List Int} (hb : w.heap[B]? = some (.cells (cellsOf zs).toArray 5 (0, 0))) (hm : zs.length ≤ maxLen) (hB : base ≤ B) : Ow w base (.slice (some ⟨B, 0, none⟩) zs.length zs.length) zs :=
  ⟨by simp [cellsOf], Or.inr ⟨B, zs.length, _, rfl, hB, hb, Nat.le_refl _, hm, by simp [cellsOf], by simp only [Nat.mul_one]; exact List.take_of_length_le (by simp [cellsOf])⟩⟩

/-- append of bytes, whatever the shape of the source. -/
theorem run_append_bs (w : World) (base : Nat) (ty : TypeId) (v : Value) (xs : List Int) (hown : Ow w base v xs) (x : Value) (zs : List Int) (hb : Bs w x zs)
    (h63 : xs.length + zs.length ≤ 140737488355328) (hbase : base ≤ w.heap.size) :
    ∃ ao cap w', (Builtin.append_ #[38, 38] ty #[v, x]).run Tryz.prog w = .ok (.slice ao (xs.length + zs.length) cap) w' ∧ Ow w' base (.slice ao (xs.length + zs.length) cap) (xs ++ zs) ∧ w.grownBy w' v.ownBlock ∧
      ((Value.slice ao (xs.length + zs.length) cap).ownBlock = v.ownBlock ∨ (Value.slice ao (xs.length + zs.length) cap).ownBlock = some w.heap.size) := by
  obtain ⟨i0, hi, hz0, hz1, hz2⟩ := info_parts Tz.info5
  have key : ∀ a m c, m = zs.length → (∀ j u, (cellsOf zs)[j]? = some u → w.cell? (Addr.add a j) = some u) → x = .slice (some a) m c → ∃ ao cap w', (Builtin.append_ #[38, 38] ty #[v, x]).run Tryz.prog w = .ok (.slice ao (xs.length + zs.length) cap) w' ∧ Ow w' base (.slice ao (xs.length + zs.length) cap) (xs ++ zs) ∧ w.grownBy w' v.ownBlock ∧
      ((Value.slice ao (xs.length + zs.length) cap).ownBlock = v.ownBlock ∨ (Value.slice ao (xs.length + zs.length) cap).ownBlock = some w.heap.size) := by
    intro a m c hm hc hx
    subst hm; subst hx
    obtain ⟨v', w', hr, h2, h3, _, h5⟩ := run_append_own_at (P := Tryz.prog) w base 38 ty 5 i0 (.int .u8 0) 1 1 Tryz.underlying38 hi hz0 hz1 hz2 rfl (by decide) v xs.length (cellsOf xs) hown a zs.length c (cellsOf zs) (by simp [cellsOf]) hc (cellsOf_one zs) (by unfold maxLen; omega) (by omega) hbase
    have h2' : Ow w' base v' (xs ++ zs) := by
      unfold Ow
      rw [cellsOf_append, List.length_append]
      exact h2
    obtain ⟨ao, cap, rfl, _⟩ := h2'.form
    rw [List.length_append] at hr h2' h5
    exact ⟨ao, cap, w', hr, h2', h3, h5⟩
  rcases hb with ⟨rfl, ao, cap, rfl, hc, hn⟩ | ⟨hz, b, off, cap, rfl, hn, hc, hcell⟩
  · cases ao with
    | some a => exact key a 0 cap rfl (by intro j u h; simp [cellsOf] at h) rfl
    | none =>
      obtain rfl := hn rfl
      have hr := run_append_owned_none (P := Tryz.prog) w base 38 ty 5 i0 1 Tryz.underlying38 hi v xs.length (cellsOf xs) hown
      obtain ⟨ao, cap, hv, _⟩ := Ow.form hown
      refine ⟨ao, cap, w, ?_, ?_, World.grownBy.refl _ _, Or.inl ?_⟩
      · rw [hr]; simp [hv]
      · simpa [hv] using hown
      · simp [hv]
  · refine key ⟨b, off, none⟩ zs.length cap rfl (fun j u h => ?_) rfl
    obtain ⟨hj, rfl⟩ := cellsOf_get zs j u h
    rw [Addr.add_lit]
    exact hcell j hj

theorem wpList_append_bs (w : World) {ops : Array Oper} {rest : List Oper} {o : Oper} {a : Act} {Q : Exit → Act → World → Prop} (hgd : o.guard = none) (s x : Operand)
    (ho : o.op = .call { callee := .builtin .append, args := #[s, x], argTypes := #[38, 38] })
    (base : Nat) (v : Value) (xs : List Int) (hs : a.eval s = v) (hown : Ow w base v xs) (vx : Value) (zs : List Int) (hx : a.eval x = vx) (hb : Bs w vx zs)
    (h63 : xs.length + zs.length ≤ 140737488355328) (hbase : base ≤ w.heap.size)
    (h : ∀ ao cap w', Ow w' base (.slice ao (xs.length + zs.length) cap) (xs ++ zs) → w.grownBy w' v.ownBlock →
      ((Value.slice ao (xs.length + zs.length) cap).ownBlock = v.ownBlock ∨ (Value.slice ao (xs.length + zs.length) cap).ownBlock = some w.heap.size) →
      wpList Tryz.prog ops Q rest (a.put o.dst (.slice ao (xs.length + zs.length) cap)) w') : wpList Tryz.prog ops Q (o :: rest) a w := by
  obtain ⟨ao, cap, w', hr, h2, h3, h4⟩ := run_append_bs w base o.type v xs hown vx zs hb h63 hbase
  refine wpList_plain hgd fun _ hK => ?_
  unfold Oper.wp execOp
  simp only [ho, resolve, invoke, builtin, Sem.run_bind, Sem.run_pure, Result.andThen_ok, List.map_toArray, List.map_cons, List.map_nil, hs, hx, hr]
  exact hK _ _ (h ao cap w' h2 h3 h4)

end Go.Proofs.YtnkjhooeklodcaaGreatDoor.Fr
end

section
/-
  The Writer: what it is in memory, and the contracts of Byte, layRow over w.Byte, Two, Four, Num, Bytes, Hash, Out.
-/
namespace Go.Proofs.YtnkjhooeklodcaaGreatDoor.Fr
open Go.RowKit

/-- Block b is a Writer that has laid xs; its slice is v. -/
def Wr (w : World) (b : Nat) (v : Value) (xs : List Int) : Prop := w.heap[b]? = some (.cells #[v] 132 (0, 0)) ∧ Ow w (b + 1) v xs

/-- What a Writer's step leaves: all but the Writer's own block and row is as it was. -/
structure Wstep (b : Nat) (w : World) (v : Value) (w' : World) (v' : Value) : Prop where
  os : w'.os = w.os
  tape : w'.tape = w.tape
  output : w'.output = w.output
  size : w.heap.size ≤ w'.heap.size
  block : ∀ k, k < w.heap.size → k ≠ b → some k ≠ v.ownBlock → w'.heap[k]? = w.heap[k]?
  own : v'.ownBlock = v.ownBlock ∨ ∃ g, v'.ownBlock = some g ∧ w.heap.size ≤ g

theorem Wstep.refl (b : Nat) (w : World) (v : Value) : Wstep b w v w v := ⟨rfl, rfl, rfl, Nat.le_refl _, fun _ _ _ _ => rfl, Or.inl rfl⟩
theorem Wstep.trans {b : Nat} {w w1 w2 : World} {v v1 v2 : Value} (h : Wstep b w v w1 v1) (k : Wstep b w1 v1 w2 v2) : Wstep b w v w2 v2 := by
  refine ⟨k.os.trans h.os, k.tape.trans h.tape, k.output.trans h.output, Nat.le_trans h.size k.size, fun i hi hb hv => ?_, ?_⟩
  · refine (k.block i (Nat.lt_of_lt_of_le hi h.size) hb ?_).trans (h.block i hi hb hv)
    rcases h.own with e | ⟨g, e, hg⟩
    · rw [e]; exact hv
    · rw [e]; intro hh; have := Option.some.inj hh; omega
  · rcases k.own with e | ⟨g, e, hg⟩
    · rw [e]; exact h.own
    · exact Or.inr ⟨g, e, Nat.le_trans h.size hg⟩

theorem Wr.lt {w : World} {b : Nat} {v : Value} {xs : List Int} (h : Wr w b v xs) : b < w.heap.size := (Array.getElem?_eq_some_iff.1 h.1).1
theorem Wr.cell {w : World} {b : Nat} {v : Value} {xs : List Int} (h : Wr w b v xs) : w.cell? ⟨b, 0, none⟩ = some v := by
  rw [cell_of_row w b 0 _ _ _ h.1]; rfl
theorem Wr.frozen {w : World} {b : Nat} {v : Value} {xs : List Int} (h : Wr w b v xs) : w.frozen? ⟨b, 0, none⟩ = false := by
  simp [World.frozen?, h.1]

/-- Behind an append (from w, perhaps behind a new block) and the store of the new slice. -/
theorem step_of_append {w w0 w1 : World} {b : Nat} {v v' : Value} {xs ys : List Int} (hw : Wr w b v xs) (h0 : Below w.heap.size w w0) (hown : Ow w1 (b + 1) v' ys) (hg : w0.grownBy w1 v.ownBlock)
    (hat : v'.ownBlock = v.ownBlock ∨ v'.ownBlock = some w0.heap.size) : Wr (w1.setCell ⟨b, 0, none⟩ v') b v' ys ∧ Wstep b w v (w1.setCell ⟨b, 0, none⟩ v') v' := by
  have hlt := hw.lt
  have hs0 := h0.size
  have hvb : some b ≠ v.ownBlock := by
    intro e
    have := (World.ownsRow.lt hw.2) b e.symm
    omega
  have hb1 : w1.heap[b]? = some (.cells #[v] 132 (0, 0)) := by
    rw [hg.block b (by omega) hvb, h0.block b hlt]; exact hw.1
  refine ⟨⟨?_, ?_⟩, ⟨?_, ?_, ?_, ?_, ?_, ?_⟩⟩
  · simp only [World.setCell, Array.getElem?_modify, hb1]
    simp
  · exact ownsRow_setCell_below hown (by simp) _
  · exact hg.os.trans h0.os
  · exact hg.tape.trans h0.tape
  · exact hg.output.trans h0.output
  · have := hg.size; simp [World.setCell]; omega
  · intro k hk hkb hkv
    rw [Below.heap_setCell _ _ _ _ (by simpa using hkb), hg.block k (by omega) hkv, h0.block k hk]
  · rcases hat with e | e
    · exact Or.inl e
    · exact Or.inr ⟨_, e, hs0⟩

set_option maxHeartbeats 400000 in
theorem byte_w (b : Nat) (v : Value) (xs : List Int) (x : Int) (w : World) (hw : Wr w b v xs) (hn : xs.length ≤ 1000000000000) :
    Calls Tryz.prog 103 #[.pointer (some ⟨b, 0, none⟩), .int .u8 x] w fun e w' => e = .returned (.tuple #[]) ∧ ∃ v', Wr w' b v' (xs ++ [x]) ∧ Wstep b w v w' v' := by
  have hc := hw.cell
  have hf := hw.frozen
  have hlt := hw.lt
  obtain ⟨ao0, cap0, hv, hj⟩ := hw.2.form
  clear hj
  subst hv
  have hbel : Below w.heap.size w (w.alloc (.cells #[.int .u8 x] 5)) := (Below.refl _ _).alloc (Nat.le_refl _) _
  have hown0 : Ow (w.alloc (.cells #[.int .u8 x] 5)) (b + 1) (.slice ao0 xs.length cap0) xs := World.ownsRow.alloc hw.2 _
  have hbs : Bs (w.alloc (.cells #[.int .u8 x] 5)) (.slice (some ⟨w.heap.size, 0, none⟩) 1 1) [x] := Bs_of_block (heap_alloc_new w _) (by unfold maxLen; simp)
  go_enter Tryz.func103, Tryz.ntmps103
  go_wp2_with (at_builtin; refine wpList_append_bs _ rfl (.tmp 10) (.tmp 12) rfl (b + 1) _ xs rfl hown0 _ [x] rfl hbs (by simp; omega) (by simp; omega) ?_)
  intro ao cap w1 hown hgrow hat
  have R := step_of_append hw hbel hown hgrow (by simpa using hat)
  have hc1 : w1.cell? ⟨b, 0, none⟩ = some (.slice ao0 xs.length cap0) := by
    rw [hgrow.cell_far _ (by simp; omega) (fun e => by have := (World.ownsRow.lt hown0) b e.symm; omega)]
    rw [World.cell?_alloc_past _ _ _ hlt]; exact hc
  have hf1 : w1.frozen? ⟨b, 0, none⟩ = false := by
    rw [hgrow.frozen_far _ (by simp; omega) (fun e => by have := (World.ownsRow.lt hown0) b e.symm; omega)]
    rw [World.frozen?_alloc_past _ _ _ hlt]; exact hf
  clear hown hgrow hat hown0 hbs
  go_wp2
  go_end0
  exact ⟨rfl, _, R⟩
theorem byte_nil (x : Int) (w : World) :
    Calls Tryz.prog 103 #[.pointer none, .int .u8 x] w fun e w' => e = .returned (.tuple #[]) ∧ w' = w := by
  go_enter Tryz.func103, Tryz.ntmps103
  go_wp2
  go_end0
  exact ⟨rfl, rfl⟩

theorem Bs.step {b : Nat} {w w' : World} {v v' sv : Value} {zs : List Int} (h : Bs w sv zs) (hs : Wstep b w v w' v') (hsep : ∀ k, sv.ownBlock = some k → k ≠ b ∧ some k ≠ v.ownBlock) : Bs w' sv zs :=
  h.keep fun k hk hlt => hs.block k hlt (hsep k hk).1 (hsep k hk).2

theorem take_snoc (zs : List Int) (k : Nat) (h : k < zs.length) : zs.take (k + 1) = zs.take k ++ [zs.getD k 0] := by
  rw [List.take_succ_eq_append_getElem h]; simp [List.getD, h]

set_option maxHeartbeats 800000 in
theorem layRow_w (b : Nat) (v : Value) (xs : List Int) (sv : Value) (zs : List Int) (w : World) (hw : Wr w b v xs) (hb : Bs w sv zs) (hsep : ∀ k, sv.ownBlock = some k → k ≠ b ∧ some k ≠ v.ownBlock)
    (hn : xs.length ≤ 500000000000) (hz : zs.length ≤ 400000000000) :
    Calls Tryz.prog 122 #[.func (.func 103) #[.pointer (some ⟨b, 0, none⟩)] #[], sv] w fun e w' => e = .returned (.tuple #[]) ∧ ∃ v', Wr w' b v' (xs ++ zs) ∧ Wstep b w v w' v' := by
  obtain ⟨ao, cap, hsv, hm⟩ := hb.len
  subst hsv
  go_enter Tryz.func122, Tryz.ntmps122
  go_wp2
  go_loopw [8] (fun i wr => ∃ (k : Nat) (v1 : Value), k ≤ zs.length ∧ i = .int .i64 k ∧ Wr wr b v1 (xs ++ zs.take k) ∧ Wstep b w v wr v1) (fun i _ => zs.length - (intOf i).toNat)
  case atStart => exact ⟨0, v, Nat.zero_le _, rfl, by simpa using hw, Wstep.refl _ _ _⟩
  case round =>
    obtain ⟨k, v1, hk, rfl, hw1, hs1⟩ := hrel
    by_cases hlt : k < zs.length
    · have hb1 := hb.step hs1 hsep
      rcases hb1 with ⟨h0, _⟩ | ⟨_, b2, off, cap2, he, hc1, hc2, hcell⟩
      · subst h0; simp at hlt
      · simp only [Value.slice.injEq] at he
        obtain ⟨rfl, _, rfl⟩ := he
        have hck := hcell k hlt
        clear hcell
        have hl2 : (xs ++ zs.take k).length ≤ 1000000000000 := by simp; omega
        go_wp2_with (go_at_call 103; refine (byte_w b v1 _ _ _ hw1 hl2).mono ?_; rintro e w' ⟨rfl, v2, hw2, hs2⟩)
        go_roundw
        case rel => exact ⟨k + 1, v2, by omega, by go_num, by simpa using hw2, hs1.trans hs2⟩
        case measure => simp [intOf]; omega
    · have hke : zs.take k = zs := List.take_of_length_le (by omega)
      go_wp2
      go_end0
      rw [hke] at hw1
      exact ⟨rfl, v1, hw1, hs1⟩

end Go.Proofs.YtnkjhooeklodcaaGreatDoor.Fr
end

section
/-
  Plain mathematics of chapter 1: a number of both signs as bytes (numOf), two and four bytes; what the machine's bit operations are on numbers. No walk.
-/
namespace Go.Proofs.YtnkjhooeklodcaaGreatDoor.Fr
open Go

theorem not64 (x : Int) (h0 : -9223372036854775808 ≤ x) (h1 : x ≤ 9223372036854775807) : bits .xor .i64 (-1) x = -1 - x := by
  by_cases h : 0 ≤ x
  · obtain ⟨a, rfl⟩ := Int.eq_ofNat_of_zero_le h
    show IntKind.i64.wrap ((BitVec.ofInt 64 (-1) ^^^ BitVec.ofInt 64 (a : Int)).toNat : Int) = _
    have h1 : BitVec.ofInt 64 (-1) = BitVec.allOnes 64 := by decide
    rw [h1, BitVec.allOnes_xor, BitVec.toNat_not, ofInt_u64 a (by omega)]
    simp [IntKind.wrap, IntKind.bits, IntKind.signed]
    omega
  · obtain ⟨a, ha⟩ : ∃ a : Nat, x = (a : Int) - 18446744073709551616 := ⟨(x + 18446744073709551616).toNat, by omega⟩
    show IntKind.i64.wrap ((BitVec.ofInt 64 (-1) ^^^ BitVec.ofInt 64 x).toNat : Int) = _
    have h1 : BitVec.ofInt 64 (-1) = BitVec.allOnes 64 := by decide
    have h2 : (BitVec.ofInt 64 x).toNat = a := by
      rw [BitVec.toNat_ofInt]
      omega
    rw [h1, BitVec.allOnes_xor, BitVec.toNat_not, h2]
    simp [IntKind.wrap, IntKind.bits, IntKind.signed]
    omega

theorem or128 (y : Int) (h0 : 0 ≤ y) (h1 : y < 256) : bits .or .u8 y 128 = y % 128 + 128 := by
  rw [u8_or y 128 h0 h1 (by decide) (by decide)]
  obtain ⟨a, rfl⟩ := Int.eq_ofNat_of_zero_le h0
  have : ∀ a : Fin 256, (((a.val ||| 128 : Nat) : Int)) = (a.val : Int) % 128 + 128 := by decide +kernel
  simpa using this ⟨a, by omega⟩

theorem or1 (y : Int) (h0 : 0 ≤ y) (h1 : y < 18446744073709551616) (h2 : y % 2 = 0) : bits .or .u64 y 1 = y + 1 := by
  rw [u64_or y 1 h0 h1 (by decide) (by decide)]
  have := nat_join 1 y.toNat 1 (by omega) (by decide)
  have e : (1 : Int).toNat = 1 := rfl
  rw [e, this]
  omega

/-- P1.1: u = 2v from 0 on, -2v - 1 below. -/
def foldI (v : Int) : Int := if v < 0 then -2 * v - 1 else 2 * v
theorem foldI_neg {v : Int} (h : v < 0) : foldI v = -2 * v - 1 := if_pos h
theorem foldI_pos {v : Int} (h : ¬ v < 0) : foldI v = 2 * v := if_neg h
theorem foldI_range (v : Int) (h0 : -9223372036854775808 ≤ v) (h1 : v ≤ 9223372036854775807) : 0 ≤ foldI v ∧ foldI v < 18446744073709551616 := by
  unfold foldI; split <;> omega

/-- Seven digits a byte, the lowest first, 128 beside each byte but the last; f + 1 bytes at the most. -/
def numB : Nat → Int → List Int
  | 0, u => [u]
  | f + 1, u => if u < 128 then [u] else (u % 128 + 128) :: numB f (u / 128)
def numOf (v : Int) : List Int := numB 9 (foldI v)

theorem numB_small (f : Nat) (u : Int) (h : u < 128) : numB f u = [u] := by
  cases f with
  | zero => rfl
  | succ f => simp [numB, h]
theorem numB_more (f : Nat) (u : Int) (h : ¬ u < 128) : numB (f + 1) u = (u % 128 + 128) :: numB f (u / 128) := by simp [numB, h]
theorem numB_length (f : Nat) (u : Int) : 1 ≤ (numB f u).length ∧ (numB f u).length ≤ f + 1 := by
  induction f generalizing u with
  | zero => simp [numB]
  | succ f ih =>
    simp only [numB]
    split
    · simp
    · have := ih (u / 128); simp only [List.length_cons]; omega
theorem numOf_length (v : Int) : 1 ≤ (numOf v).length ∧ (numOf v).length ≤ 10 := numB_length 9 _
/-- How great u may be, where f + 1 bytes are left. -/
def Fits (f : Nat) (u : Int) : Prop := 0 ≤ u ∧ u < 128 ^ (f + 1)
theorem Fits.start (u : Int) (h0 : 0 ≤ u) (h1 : u < 18446744073709551616) : Fits 9 u := by
  have e : (128 : Int) ^ (9 + 1) = 1180591620717411303424 := by decide
  refine ⟨h0, ?_⟩
  rw [e]
  omega
theorem Fits.next {f : Nat} {u : Int} (h : Fits f u) (hu : ¬ u < 128) : ∃ g, f = g + 1 ∧ Fits g (u / 128) := by
  cases f with
  | zero => exact absurd h.2 (by simpa using hu)
  | succ g =>
    refine ⟨g, rfl, by have := h.1; omega, ?_⟩
    have := h.2
    rw [Int.pow_succ] at this
    exact Int.ediv_lt_of_lt_mul (by decide) this
theorem numB_bytes (f : Nat) (u : Int) (h : Fits f u) : ∀ z ∈ numB f u, 0 ≤ z ∧ z < 256 := by
  induction f generalizing u with
  | zero => intro z hz; simp [numB] at hz; subst hz; have := h.1; have := h.2; simp at this; omega
  | succ f ih =>
    intro z hz
    by_cases hu : u < 128
    · rw [numB_small _ _ hu] at hz; simp at hz; subst hz; have := h.1; omega
    · rw [numB_more _ _ hu] at hz
      obtain ⟨g, hg, hf⟩ := h.next hu
      obtain rfl : g = f := by omega
      rcases List.mem_cons.1 hz with rfl | hz
      · omega
      · exact ih _ hf z hz

def twoB (x : Int) : List Int := [x % 256, x / 256 % 256]
def fourB (x : Int) : List Int := [x % 256, x / 256 % 256, x / 65536 % 256, x / 16777216 % 256]

end Go.Proofs.YtnkjhooeklodcaaGreatDoor.Fr
end

section
/-
  The Writer's other methods, by contracts: Two, Four, Num, Bytes, Hash, Out; each of a nil Writer too.
-/
namespace Go.Proofs.YtnkjhooeklodcaaGreatDoor.Fr
open Go.RowKit

theorem layRow_nil (sv : Value) (zs : List Int) (w : World) (hb : Bs w sv zs) :
    Calls Tryz.prog 122 #[.func (.func 103) #[.pointer none] #[], sv] w fun e w' => e = .returned (.tuple #[]) ∧ w' = w := by
  obtain ⟨ao, cap, hsv, hm⟩ := hb.len
  subst hsv
  unfold maxLen at hm
  go_enter Tryz.func122, Tryz.ntmps122
  go_wp2
  go_loop [8] (fun i => ∃ (k : Nat), k ≤ zs.length ∧ i = .int .i64 k) (fun i => zs.length - (intOf i).toNat)
  case atStart => exact ⟨0, Nat.zero_le _, rfl⟩
  case round =>
    obtain ⟨k, hk, rfl⟩ := hrel
    by_cases hlt : k < zs.length
    · rcases hb with ⟨h0, _⟩ | ⟨_, b2, off, cap2, he, hc1, hc2, hcell⟩
      · subst h0; simp at hlt
      · simp only [Value.slice.injEq] at he
        obtain ⟨rfl, _, rfl⟩ := he
        have hck := hcell k hlt
        clear hcell
        go_wp2_with (go_at_call 103; refine (byte_nil _ _).mono ?_; rintro e w' ⟨rfl, rfl⟩)
        go_round
        case rel => exact ⟨k + 1, by omega, by go_num⟩
        case measure => simp [intOf]; omega
    · go_wp2
      go_end0
      exact ⟨rfl, rfl⟩

theorem Wr.alloc {w : World} {b : Nat} {v : Value} {xs : List Int} (h : Wr w b v xs) (o : Obj) : Wr (w.alloc o) b v xs :=
  ⟨by rw [Below.heap_alloc w o b h.lt]; exact h.1, World.ownsRow.alloc h.2 o⟩
theorem Wstep.alloc (b : Nat) (w : World) (v : Value) (o : Obj) : Wstep b w v (w.alloc o) v :=
  ⟨rfl, rfl, rfl, by simp, fun k hk _ _ => Below.heap_alloc w o k hk, Or.inl rfl⟩
theorem Wr.sep_new {w : World} {b : Nat} {v : Value} {xs : List Int} (h : Wr w b v xs) (off n cap : Nat) : ∀ k, (Value.slice (some ⟨w.heap.size, off, none⟩) n cap).ownBlock = some k → k ≠ b ∧ some k ≠ v.ownBlock := by
  intro k hk
  have hk' : w.heap.size = k := by simpa [Value.ownBlock] using hk
  have hlt := h.lt
  refine ⟨by omega, fun e => ?_⟩
  have := (World.ownsRow.lt h.2) k e.symm
  omega

theorem four_w (b : Nat) (v : Value) (xs : List Int) (x : Int) (w : World) (hw : Wr w b v xs) (hn : xs.length ≤ 500000000000) :
    Calls Tryz.prog 105 #[.pointer (some ⟨b, 0, none⟩), .int .u32 x] w fun e w' => e = .returned (.tuple #[]) ∧ ∃ v', Wr w' b v' (xs ++ fourB x) ∧ Wstep b w v w' v' := by
  have hsep := hw.sep_new 0 4 4
  have hbs : Bs (w.alloc (.cells #[.int .u8 (x % 256), .int .u8 (x / 256 % 256), .int .u8 (x / 65536 % 256), .int .u8 (x / 16777216 % 256)] 5)) (.slice (some ⟨w.heap.size, 0, none⟩) 4 4) (fourB x) := Bs_of_block (heap_alloc_new w _) (by simp [fourB, maxLen])
  go_enter Tryz.func105, Tryz.ntmps105
  go_wp2_with (go_at_call 122; refine (layRow_w b v xs _ (fourB x) _ (hw.alloc _) hbs hsep hn (by simp [fourB])).mono ?_; rintro e w' ⟨rfl, v1, hw1, hs1⟩)
  go_end0
  exact ⟨rfl, v1, hw1, (Wstep.alloc b w v _).trans hs1⟩

theorem four_nil (x : Int) (w : World) :
    Calls Tryz.prog 105 #[.pointer none, .int .u32 x] w fun e w' => e = .returned (.tuple #[]) ∧ Below w.heap.size w w' := by
  have hbs : Bs (w.alloc (.cells #[.int .u8 (x % 256), .int .u8 (x / 256 % 256), .int .u8 (x / 65536 % 256), .int .u8 (x / 16777216 % 256)] 5)) (.slice (some ⟨w.heap.size, 0, none⟩) 4 4) (fourB x) := Bs_of_block (heap_alloc_new w _) (by simp [fourB, maxLen])
  go_enter Tryz.func105, Tryz.ntmps105
  go_wp2_with (go_at_call 122; refine (layRow_nil _ (fourB x) _ hbs).mono ?_; rintro e w' ⟨rfl, rfl⟩)
  go_end0
  exact ⟨rfl, (Below.refl _ _).alloc (Nat.le_refl _) _⟩

theorem ret_int {k : IntKind} {a b : Int} (h : a = b) : Ending.returned (.int k a) = .returned (.int k b) := by rw [h]

end Go.Proofs.YtnkjhooeklodcaaGreatDoor.Fr
end

section
/-
  The Writer's Bytes, Hash, Out; bytes.Clone; the law's same.
-/
namespace Go.Proofs.YtnkjhooeklodcaaGreatDoor.Fr
open Go.RowKit
/-- bytes.Clone: a row of its own, with the same bytes. -/
theorem clone_any (sv : Value) (zs : List Int) (w : World) (hb : Bs w sv zs) (hz : zs.length ≤ 100000000000000) :
    Calls Tryz.prog 50 #[sv] w fun e w' => ∃ ao cap, e = .returned (.slice ao zs.length cap) ∧ Ow w' w.heap.size (.slice ao zs.length cap) zs ∧ Below w.heap.size w w' := by
  obtain ⟨ao, cap, hsv, hm⟩ := hb.len
  subst hsv
  have he := fun w1 => Lib.run_eql_slice_nil (P := Tryz.prog) w1 38 5 ao zs.length cap 0 0 Tryz.underlying38
  cases hao : ao with
  | none =>
    have hz0 : zs = [] := by
      rcases hb with ⟨h0, _⟩ | ⟨_, b2, off, cap2, he2, _⟩
      · exact h0
      · simp [hao] at he2
    subst hz0
    subst hao
    have he := fun w1 => Lib.run_eql_slice_nil (P := Tryz.prog) w1 38 5 none 0 cap 0 0 Tryz.underlying38
    go_enter Tryz.func50, Tryz.ntmps50
    go_wp2
    go_ret
    exact ⟨none, 0, rfl, World.ownsRow_nil _ _ _ _, Below.refl _ _⟩
  | some a =>
    subst hao
    have hown0 : Ow (w.alloc (.cells #[] 5)) w.heap.size (.slice (some ⟨w.heap.size, 0, none⟩) 0 0) [] := Ow_of_block (heap_alloc_new w _) (by simp) (Nat.le_refl _)
    have hb1 : Bs (w.alloc (.cells #[] 5)) (.slice (some a) zs.length cap) zs := hb.below ((Below.refl _ _).alloc (Nat.le_refl _) _) (Nat.le_refl _)
    go_enter Tryz.func50, Tryz.ntmps50
    go_wp2_with (at_builtin; refine wpList_append_bs _ rfl (.tmp 5) (.tmp 6) rfl w.heap.size _ [] rfl hown0 _ zs rfl hb1 (by simp; omega) (by simp) ?_)
    intro ao2 cap2 w2 hown hgrow hat
    go_wp2
    go_ret
    exact ⟨ao2, cap2, rfl, hown, ((Below.refl _ _).alloc (Nat.le_refl _) _).grown hgrow (by simp) (fun k hk => by simp [Value.ownBlock] at hk; omega)⟩

theorem out_w (b : Nat) (v : Value) (xs : List Int) (w : World) (hw : Wr w b v xs) (hn : xs.length ≤ 100000000000000) :
    Calls Tryz.prog 81 #[.pointer (some ⟨b, 0, none⟩)] w fun e w' => ∃ ao cap, e = .returned (.slice ao xs.length cap) ∧ Ow w' w.heap.size (.slice ao xs.length cap) xs ∧ Below w.heap.size w w' := by
  have hc := hw.cell
  go_enter Tryz.func81, Tryz.ntmps81
  go_wp2_with (go_at_call 50; refine (clone_any v xs _ hw.2.bs hn).mono ?_; rintro e w1 ⟨ao, cap, rfl, hown, hbel⟩)
  go_ret
  exact ⟨ao, cap, rfl, hown, hbel⟩

theorem out_nil (w : World) : Calls Tryz.prog 81 #[.pointer none] w fun e w' => e = .returned (.slice none 0 0) ∧ w = w' := by
  go_enter Tryz.func81, Tryz.ntmps81
  go_wp2
  go_ret
  exact ⟨rfl, rfl⟩

end Go.Proofs.YtnkjhooeklodcaaGreatDoor.Fr
end

section
/-
  The law's own helper same: whether two rows of bytes are one; nothing is written.
-/
namespace Go.Proofs.YtnkjhooeklodcaaGreatDoor.Fr
open Go.RowKit

/-- The memory is as it was (orders may have been drawn). -/
structure Sm (w w' : World) : Prop where
  os : w'.os = w.os
  tape : w'.tape = w.tape
  output : w'.output = w.output
  heap : w'.heap = w.heap
theorem Sm.refl (w : World) : Sm w w := ⟨rfl, rfl, rfl, rfl⟩
theorem Sm.trans {a b c : World} (h : Sm a b) (k : Sm b c) : Sm a c := ⟨k.os.trans h.os, k.tape.trans h.tape, k.output.trans h.output, k.heap.trans h.heap⟩
theorem Sm.drewN (w : World) (n : Nat) : Sm w (w.drewN n) := ⟨rfl, rfl, rfl, rfl⟩
theorem Sm.below {w w' : World} (h : Sm w w') (B : Nat) : Below B w w' := ⟨h.os, h.tape, h.output, by rw [h.heap]; exact Nat.le_refl _, fun k _ => by rw [h.heap]⟩
theorem Sm.bs {w w' : World} (h : Sm w w') {v : Value} {zs : List Int} (hb : Bs w v zs) : Bs w' v zs := hb.keep fun k _ _ => by rw [h.heap]
theorem Sm.ow {w w' : World} (h : Sm w w') {v : Value} {base : Nat} {zs : List Int} (hb : Ow w base v zs) : Ow w' base v zs := by
  unfold Ow World.ownsRow at *; rw [h.heap]; exact hb
theorem Sm.wr {w w' : World} (h : Sm w w') {v : Value} {b : Nat} {zs : List Int} (hb : Wr w b v zs) : Wr w' b v zs := ⟨by rw [h.heap]; exact hb.1, h.ow hb.2⟩
theorem Sm.size {w w' : World} (h : Sm w w') : w'.heap.size = w.heap.size := by rw [h.heap]

theorem eq_of_all (xs ys : List Int) (hl : xs.length = ys.length) (h : ∀ j, j < xs.length → xs.getD j 0 = ys.getD j 0) : xs = ys := by
  apply List.ext_getElem hl
  intro i h1 h2
  have := h i h1
  simpa [List.getD, h1, h2] using this
/-- One test for both: an unfolded 'decide' would part the walk. -/
def eqB (xs ys : List Int) : Bool := decide (xs = ys)
theorem eqB_true {xs ys : List Int} (h : xs = ys) : eqB xs ys = true := by simp [eqB, h]
theorem eqB_false {xs ys : List Int} (h : xs ≠ ys) : eqB xs ys = false := by simp [eqB, h]

set_option maxHeartbeats 800000 in
theorem same_any (va vb : Value) (xs ys : List Int) (w : World) (ha : Bs w va xs) (hb : Bs w vb ys) :
    Calls Tryz.prog 26 #[va, vb] w fun e w' => e = .returned (.bool (eqB xs ys)) ∧ Sm w w' := by
  obtain ⟨a1, c1, h1, m1⟩ := ha.len
  obtain ⟨a2, c2, h2, m2⟩ := hb.len
  subst h1; subst h2
  unfold maxLen at m1 m2
  by_cases hl : xs.length = ys.length
  · have hne : ((xs.length : Int) != (ys.length : Int)) = false := by simp [hl]
    have HL : Hid (xs.length = ys.length) := hl
    clear hl
    go_enter Tryz.func26, Tryz.ntmps26
    go_wp2
    go_loopw [5] (fun i wr => ∃ k : Nat, k ≤ xs.length ∧ i = .int .i64 k ∧ Sm w wr ∧ Hid (∀ j, j < k → xs.getD j 0 = ys.getD j 0)) (fun i _ => xs.length - (intOf i).toNat)
    case atStart => exact ⟨0, Nat.zero_le _, rfl, Sm.refl _, fun j hj => by omega⟩
    case round =>
      obtain ⟨k, hk, rfl, hsm, HJ⟩ := hrel
      by_cases hlt : k < xs.length
      · have hlt2 : k < ys.length := by have := HL.out; omega
        rcases hsm.bs ha with ⟨h0, _⟩ | ⟨_, b1, o1, d1, he1, hc1, hc2, hcell1⟩
        · subst h0; simp at hlt
        rcases hsm.bs hb with ⟨h0, _⟩ | ⟨_, b2, o2, d2, he2, hd1, hd2, hcell2⟩
        · subst h0; simp at hlt2
        simp only [Value.slice.injEq] at he1 he2
        obtain ⟨rfl, _, rfl⟩ := he1
        obtain ⟨rfl, _, rfl⟩ := he2
        have hx := hcell1 k hlt
        have hy := hcell2 k hlt2
        clear hcell1 hcell2
        obtain ⟨x, ex⟩ : ∃ x, x = xs.getD k 0 := ⟨_, rfl⟩
        obtain ⟨y, ey⟩ : ∃ y, y = ys.getD k 0 := ⟨_, rfl⟩
        rw [← ex] at hx
        rw [← ey] at hy
        have HX : Hid (x = xs.getD k 0) := ex
        have HY : Hid (y = ys.getD k 0) := ey
        clear ex ey
        by_cases hxy : x = y
        · subst hxy
          have HJ2 : Hid (∀ j, j < k + 1 → xs.getD j 0 = ys.getD j 0) := by
            intro j hj
            by_cases hjk : j = k
            · subst hjk; rw [← HX.out, ← HY.out]
            · exact HJ.out j (by omega)
          clear HJ HX HY
          go_wp2
          go_quiet (fail)
          go_wp2
          go_roundw
          case rel => exact ⟨k + 1, by omega, by go_num, hsm.trans (Sm.drewN _ _), HJ2⟩
          case measure => simp [intOf]; omega
        · have hxy' : (x != y) = true := by simp [hxy]
          have HF : Hid (eqB xs ys = false) := eqB_false (fun e => hxy (by rw [HX.out, HY.out, e]))
          clear HJ HX HY hxy
          go_wp2
          go_quiet (fail)
          go_wp2
          go_ret
          exact ⟨by rw [HF.out]; rfl, hsm.trans (Sm.drewN _ _)⟩
      · have HT : Hid (eqB xs ys = true) := eqB_true (eq_of_all xs ys HL.out (fun j hj => HJ.out j (by omega)))
        clear HJ
        go_wp2
        go_ret
        exact ⟨by rw [HT.out]; rfl, hsm⟩
  · have hne : ((xs.length : Int) != (ys.length : Int)) = true := by simp; omega
    have HF : Hid (eqB xs ys = false) := eqB_false (fun e => hl (by rw [e]))
    go_enter Tryz.func26, Tryz.ntmps26
    go_wp2
    go_ret
    exact ⟨by rw [HF.out]; rfl, Sm.refl _⟩
end Go.Proofs.YtnkjhooeklodcaaGreatDoor.Fr
end

section
/-
  Plain mathematics of the check sum: four binary digits a step by a table of sixteen (crcAll), as numbers. No walk.
-/
namespace Go.Proofs.YtnkjhooeklodcaaGreatDoor.Fr
open Go

def stepsN : List Nat := [0, 274646895, 549293790, 820201905, 1098587580, 1361435347, 1640403810, 1905808397, 2197175160, 2460548119, 2722870694, 2987750089, 3280807620, 3553878443, 3811616794, 4084100981]
def nib (s : Nat) : Nat := (s / 16) ^^^ stepsN.getD (s % 16) 0
def crcB (s b : Nat) : Nat := nib (nib (s ^^^ b))
def crcAll (s : Nat) (xs : List Int) : Nat := xs.foldl (fun s x => crcB s x.toNat) s
/-- P1.3: the check sum. -/
def sumOf (xs : List Int) : Nat := 4294967295 - crcAll 4294967295 xs

theorem stepsN_lt (i : Nat) : stepsN.getD i 0 < 4294967296 := by
  by_cases h : i < 16
  · have : ∀ i : Fin 16, stepsN.getD i.val 0 < 4294967296 := by decide +kernel
    exact this ⟨i, h⟩
  · rw [List.getD_eq_getElem?_getD, List.getElem?_eq_none (by simp [stepsN]; omega)]; decide
theorem xor_lt32 {a b : Nat} (ha : a < 4294967296) (hb : b < 4294967296) : a ^^^ b < 4294967296 := Nat.xor_lt_two_pow (n := 32) ha hb
theorem nib_lt (s : Nat) (h : s < 4294967296) : nib s < 4294967296 := xor_lt32 (by omega) (stepsN_lt _)
theorem crcB_lt (s b : Nat) (h : s < 4294967296) (hb : b < 256) : crcB s b < 4294967296 := nib_lt _ (nib_lt _ (xor_lt32 h (by omega)))
theorem crcAll_snoc (s : Nat) (xs : List Int) (x : Int) : crcAll s (xs ++ [x]) = crcB (crcAll s xs) x.toNat := by simp [crcAll]
theorem crcAll_lt (s : Nat) (xs : List Int) (h : s < 4294967296) (hx : ∀ z ∈ xs, 0 ≤ z ∧ z < 256) : crcAll s xs < 4294967296 := by
  induction xs generalizing s with
  | nil => exact h
  | cons x xs ih =>
    have := hx x (by simp)
    exact ih (crcB s x.toNat) (crcB_lt _ _ h (by omega)) (fun z hz => hx z (by simp [hz]))
theorem not32 (a : Nat) (h : a < 4294967296) : a ^^^ 4294967295 = 4294967295 - a := by
  have h1 : ∀ n : Nat, ∀ a, a < 2 ^ n → a ^^^ (2 ^ n - 1) = 2 ^ n - 1 - a := by
    intro n a h
    have := Nat.sub_add_cancel (show 1 ≤ 2 ^ n from Nat.one_le_two_pow)
    apply Nat.eq_of_testBit_eq
    intro i
    rw [Nat.testBit_xor, Nat.testBit_two_pow_sub_one, show 2 ^ n - 1 - a = 2 ^ n - (a + 1) by omega, Nat.testBit_two_pow_sub_succ h]
    by_cases hi : i < n
    · simp [hi]
    · simp [hi, Nat.testBit_lt_two_pow (Nat.lt_of_lt_of_le h (Nat.pow_le_pow_right (by decide) (by omega : n ≤ i)))]
  exact h1 32 a h
end Go.Proofs.YtnkjhooeklodcaaGreatDoor.Fr
end

section
/-
  octet.Sum: what it answers, for every row of bytes.
-/
namespace Go.Proofs.YtnkjhooeklodcaaGreatDoor.Fr
open Go.RowKit
/-- The table sumSteps lies in block 0. -/
def Tab (w : World) : Prop := ∀ i, i < 16 → w.cell? ⟨0, i, none⟩ = some (.int .u32 (stepsN.getD i 0 : Nat))
/-- Bytes. -/
def Byt (xs : List Int) : Prop := ∀ z ∈ xs, 0 ≤ z ∧ z < 256

theorem getD_mem (xs : List Int) (k : Nat) (h : k < xs.length) : xs.getD k 0 ∈ xs := by simp [List.getD, h]

set_option maxHeartbeats 800000 in
theorem sum_any (va : Value) (xs : List Int) (w : World) (ha : Bs w va xs) (hx : Byt xs) (ht : Tab w) :
    Calls Tryz.prog 123 #[va] w fun e w' => e = .returned (.int .u32 (sumOf xs : Nat)) ∧ w = w' := by
  obtain ⟨a1, c1, h1, m1⟩ := ha.len
  subst h1
  unfold maxLen at m1
  go_enter Tryz.func123, Tryz.ntmps123
  go_wp2
  go_loop [3, 8] (fun s i => ∃ (k t : Nat), k ≤ xs.length ∧ i = .int .i64 k ∧ s = .int .u32 t ∧ t < 4294967296 ∧ Hid (t = crcAll 4294967295 (xs.take k))) (fun _ i => xs.length - (intOf i).toNat)
  case atStart => exact ⟨0, 4294967295, Nat.zero_le _, rfl, rfl, by decide, rfl⟩
  case round =>
    obtain ⟨k, t, hk, rfl, rfl, ht1, HT⟩ := hrel
    by_cases hlt : k < xs.length
    · rcases ha with ⟨h0, _⟩ | ⟨_, b1, o1, d1, he1, hc1, hc2, hcell1⟩
      · subst h0; simp at hlt
      simp only [Value.slice.injEq] at he1
      obtain ⟨rfl, _, rfl⟩ := he1
      have hc := hcell1 k hlt
      clear hcell1
      obtain ⟨hx0, hx1⟩ := hx _ (getD_mem xs k hlt)
      have HN : Hid (xs.take (k + 1) = xs.take k ++ [xs.getD k 0]) := take_snoc xs k hlt
      generalize xs.getD k 0 = x at *
      obtain ⟨X, rfl⟩ := Int.eq_ofNat_of_zero_le hx0
      obtain ⟨t1, q1⟩ : ∃ t1, t1 = t ^^^ X := ⟨_, rfl⟩
      obtain ⟨i1, q2⟩ : ∃ i1, i1 = t1 % 16 := ⟨_, rfl⟩
      obtain ⟨s1, q3⟩ : ∃ s1, s1 = stepsN.getD i1 0 := ⟨_, rfl⟩
      obtain ⟨t2, q4⟩ : ∃ t2, t2 = (t1 / 16) ^^^ s1 := ⟨_, rfl⟩
      obtain ⟨i2, q5⟩ : ∃ i2, i2 = t2 % 16 := ⟨_, rfl⟩
      obtain ⟨s2, q6⟩ : ∃ s2, s2 = stepsN.getD i2 0 := ⟨_, rfl⟩
      obtain ⟨t3, q7⟩ : ∃ t3, t3 = (t2 / 16) ^^^ s2 := ⟨_, rfl⟩
      have b1' : t1 < 4294967296 := q1 ▸ xor_lt32 ht1 (by omega)
      have b2' : s1 < 4294967296 := q3 ▸ stepsN_lt _
      have b3' : t2 < 4294967296 := q4 ▸ xor_lt32 (by omega) b2'
      have b4' : s2 < 4294967296 := q6 ▸ stepsN_lt _
      have b5' : t3 < 4294967296 := q7 ▸ xor_lt32 (by omega) b4'
      have i1lt : i1 < 16 := by omega
      have i2lt : i2 < 16 := by omega
      have c1' : w.cell? ⟨0, i1, none⟩ = some (.int .u32 s1) := q3 ▸ ht i1 i1lt
      have c2' : w.cell? ⟨0, i2, none⟩ = some (.int .u32 s2) := q6 ▸ ht i2 i2lt
      have e0 : ((X : Int) % 4294967296) = X := by omega
      have e1 : bits .xor .u32 (t : Int) (X : Int) = (t1 : Int) := by rw [u32_xor_nat t X ht1 (by omega), q1]
      have e2 : bits .and .u32 (t1 : Int) 15 = (i1 : Int) := by
        have := u32_and_nat t1 15 b1' (by decide)
        rw [nat_mask4, ← q2] at this; exact this
      have e3 : bits .xor .u32 ((t1 : Int) / 16) (s1 : Int) = (t2 : Int) := by
        have := u32_xor_nat (t1 / 16) s1 (by omega) b2'
        rw [← q4] at this; simpa using this
      have e4 : bits .and .u32 (t2 : Int) 15 = (i2 : Int) := by
        have := u32_and_nat t2 15 b3' (by decide)
        rw [nat_mask4, ← q5] at this; exact this
      have e5 : bits .xor .u32 ((t2 : Int) / 16) (s2 : Int) = (t3 : Int) := by
        have := u32_xor_nat (t2 / 16) s2 (by omega) b4'
        rw [← q7] at this; simpa using this
      have HT2 : Hid (t3 = crcAll 4294967295 (xs.take (k + 1))) := by
        show _ = _
        rw [HN.out, crcAll_snoc, ← HT.out, q7, q6, q5, q4, q3, q2, q1]
        rfl
      clear q1 q2 q3 q4 q5 q6 q7 HN HT
      go_wp2
      go_round
      case rel => exact ⟨k + 1, t3, by omega, by go_num, rfl, b5', HT2⟩
      case measure => simp [intOf]; omega
    · have hke : xs.take k = xs := List.take_of_length_le (by omega)
      have HF : Hid (bits .xor .u32 IntKind.u32.max (t : Int) = ((sumOf xs : Nat) : Int)) := by
        show _ = _
        have hm : IntKind.u32.max = ((4294967295 : Nat) : Int) := by decide
        rw [hm, u32_xor_nat 4294967295 t (by decide) ht1, Nat.xor_comm, not32 t ht1, sumOf, HT.out, hke]
      clear HT hke
      go_wp2
      go_ret
      exact ⟨ret_int HF.out, rfl⟩

theorem Tab.below {w w' : World} {B : Nat} (h : Tab w) (hb : Below B w w') (hB : 0 < B) : Tab w' := fun i hi => (hb.cell (p := ⟨0, i, none⟩) hB).trans (h i hi)
theorem Tab.sm {w w' : World} (h : Tab w) (hb : Sm w w') : Tab w' := h.below (hb.below 1) (by decide)
theorem Tab.step {b : Nat} {w w' : World} {v v' : Value} (h : Tab w) (hs : Wstep b w v w' v') (hb : 0 < b) (hv : v.ownBlock ≠ some 0) : Tab w' := by
  intro i hi
  have hc := h i hi
  have hlt := World.block_lt_of_cell? w _ hc
  rw [World.cell?_of_block (w := w) (hs.block 0 hlt (by omega) (fun e => hv e.symm))]
  exact hc
theorem Tab.lt {w : World} (h : Tab w) : 0 < w.heap.size := World.block_lt_of_cell? w _ (h 0 (by decide))
end Go.Proofs.YtnkjhooeklodcaaGreatDoor.Fr
end
