/-
  Joined from: RefM, RSt, DoesA.
-/
import Derived.Test.YtbfldcieibdapabGreatM07
import Derived.Test.YtbfldcieibdapabGreatM24
import Derived.Test.YtbfldcieibdapabGreatM25
import Derived.Maps.AppendAt
import Derived.Deep.AppendLies
import Derived.Test.YtbfldcieibdapabGreatM05
import Derived.Deep.RegionHeld3
section
/-
  The document's machine in memory (Rw): its stack a slice of its own; push and pop, by contracts.
-/
namespace Go.Proofs.YtbfldcieibdapabGreat
open Go.RowKit
theorem Tryz.info21 : (Tryz.prog.info? 21).map (fun i => (i.zero, i.size, i.bytes)) = some (some (.int .i32 0), 1, 4) := by kernel_rfl
/-- The document's machine, beside its stack. -/
structure Rm where
  cells : List Int
  seed : Int
  pc : Int
  won : Int
  bad : Bool
structure Rm.Wf (q : Rm) : Prop where
  cells : q.cells.length = 16
  cin : ∀ x ∈ q.cells, In32 x
  seed : 0 ≤ q.seed ∧ q.seed < 4294967296
def rowD (fr i0 i1 : Int) (sv : Value) (q : Rm) : List Value :=
  .int .i64 fr :: (q.cells.map (Value.int .i32) ++ [.int .u32 q.seed, .bool false, .int .i64 0, .int .u16 i0, .int .u16 i1, sv, .int .i64 q.pc, .int .i64 q.won, .bool q.bad])
variable {fr i0 i1 : Int} {sv : Value} {q : Rm} {w w' : World} {g : Nat}
theorem rowD_len (h : q.Wf) : (rowD fr i0 i1 sv q).length = 26 := by simp [rowD, h.cells]
theorem getD_cell (h : q.Wf) (i : Nat) (hi : i < 16) : (rowD fr i0 i1 sv q)[1 + i]? = some (.int .i32 (q.cells.getD i 0)) := by
  have hc := h.cells
  rw [rowD, show 1 + i = i + 1 by omega, List.getElem?_cons_succ, List.getElem?_append_left (by simp [hc]; omega), List.getElem?_map, List.getD, List.getElem?_eq_getElem (by omega)]
  rfl
theorem getD_end (h : q.Wf) (i : Nat) : (rowD fr i0 i1 sv q)[17 + i]? = ([.int .u32 q.seed, .bool false, .int .i64 0, .int .u16 i0, .int .u16 i1, sv, .int .i64 q.pc, .int .i64 q.won, .bool q.bad] : List Value)[i]? := by
  have hc := h.cells
  rw [rowD, show 17 + i = (16 + i) + 1 by omega, List.getElem?_cons_succ, List.getElem?_append_right (by simp [hc])]
  simp [hc]
theorem setD_cell (h : q.Wf) (i : Nat) (hi : i < 16) (v : Int) : (rowD fr i0 i1 sv q).set (1 + i) (.int .i32 v) = rowD fr i0 i1 sv { q with cells := q.cells.set i v } := by
  have hc := h.cells
  rw [rowD, show 1 + i = i + 1 by omega, List.set_cons_succ, List.set_append_left _ _ (by simp [hc]; omega)]
  simp only [rowD, List.map_set]
theorem setD_end (h : q.Wf) (i : Nat) (v : Value) : (rowD fr i0 i1 sv q).set (17 + i) v = .int .i64 fr :: (q.cells.map (Value.int .i32) ++ ([.int .u32 q.seed, .bool false, .int .i64 0, .int .u16 i0, .int .u16 i1, sv, .int .i64 q.pc, .int .i64 q.won, .bool q.bad] : List Value).set i v) := by
  have hc := h.cells
  rw [rowD, show 17 + i = (16 + i) + 1 by omega, List.set_cons_succ, List.set_append_right _ _ (by simp [hc])]
  simp [hc]
/-- A row of numbers of the machine's own, from block base on. -/
def Os (w : World) (base : Nat) (v : Value) (zs : List Int) : Prop := w.ownsRow base 21 1 v zs.length (zs.map (Value.int .i32))
/-- Block g is the document's machine q, with the stack zs (the upmost last), of blocks behind g. -/
structure Rw (w : World) (g : Nat) (fr i0 i1 : Int) (zs : List Int) (q : Rm) (sv : Value) : Prop where
  row : Cw w g (rowD fr i0 i1 sv q) 120
  wf : q.Wf
  st : Os w (g + 1) sv zs
  sin : ∀ x ∈ zs, In32 x
  len : zs.length ≤ 32
variable {zs : List Int}
theorem Rw.lt (h : Rw w g fr i0 i1 zs q sv) : g < w.heap.size := h.row.lt
theorem Os.keep {base : Nat} {v : Value} (h : Os w base v zs) (hk : ∀ k, v.ownBlock = some k → k < w.heap.size → w'.heap[k]? = w.heap[k]?) : Os w' base v zs := by
  refine ⟨h.1, ?_⟩
  rcases h.2 with h2 | ⟨g, cap, cur, rfl, hb, hg, rest⟩
  · exact Or.inl h2
  · exact Or.inr ⟨g, cap, cur, rfl, hb, by rw [hk g rfl (Array.getElem?_eq_some_iff.1 hg).1]; exact hg, rest⟩
theorem Os.form {base : Nat} {v : Value} (h : Os w base v zs) : ∃ ao cap, v = .slice ao zs.length cap ∧ zs.length ≤ cap ∧ cap ≤ maxLen := by
  rcases h.2 with ⟨rfl, h0⟩ | ⟨g, cap, cur, rfl, hb, hg, hn, hc, _⟩
  · exact ⟨none, 0, by rw [h0], by omega, by unfold maxLen; omega⟩
  · exact ⟨_, cap, rfl, hn, hc⟩
theorem Rw.below (h : Rw w g fr i0 i1 zs q sv) (hb : Below w.heap.size w w') : Rw w' g fr i0 i1 zs q sv :=
  ⟨h.row.below hb h.lt, h.wf, h.st.keep fun k _ hk => hb.block k hk, h.sin, h.len⟩
theorem Rw.sm (h : Rw w g fr i0 i1 zs q sv) (hs : Sm w w') : Rw w' g fr i0 i1 zs q sv := h.below ⟨hs.os, hs.tape, hs.output, by rw [hs.size]; exact Nat.le_refl _, fun k _ => by rw [hs.heap]⟩
theorem Rw.cell (h : Rw w g fr i0 i1 zs q sv) (i : Nat) (hi : i < 16) : w.cell? ⟨g, 1 + i, none⟩ = some (.int .i32 (q.cells.getD i 0)) := (h.row.cell _).trans (getD_cell h.wf i hi)
theorem Rw.frame (h : Rw w g fr i0 i1 zs q sv) : w.cell? ⟨g, 0, none⟩ = some (.int .i64 fr) := (h.row.cell 0).trans rfl
theorem Rw.seed (h : Rw w g fr i0 i1 zs q sv) : w.cell? ⟨g, 17, none⟩ = some (.int .u32 q.seed) := (h.row.cell _).trans (getD_end h.wf 0)
theorem Rw.in0 (h : Rw w g fr i0 i1 zs q sv) : w.cell? ⟨g, 20, none⟩ = some (.int .u16 i0) := (h.row.cell _).trans (getD_end h.wf 3)
theorem Rw.in1 (h : Rw w g fr i0 i1 zs q sv) : w.cell? ⟨g, 21, none⟩ = some (.int .u16 i1) := (h.row.cell _).trans (getD_end h.wf 4)
theorem Rw.slice (h : Rw w g fr i0 i1 zs q sv) : w.cell? ⟨g, 22, none⟩ = some sv := (h.row.cell _).trans (getD_end h.wf 5)
theorem Rw.pc (h : Rw w g fr i0 i1 zs q sv) : w.cell? ⟨g, 23, none⟩ = some (.int .i64 q.pc) := (h.row.cell _).trans (getD_end h.wf 6)
theorem Rw.won (h : Rw w g fr i0 i1 zs q sv) : w.cell? ⟨g, 24, none⟩ = some (.int .i64 q.won) := (h.row.cell _).trans (getD_end h.wf 7)
theorem Rw.bad (h : Rw w g fr i0 i1 zs q sv) : w.cell? ⟨g, 25, none⟩ = some (.bool q.bad) := (h.row.cell _).trans (getD_end h.wf 8)
theorem Rw.own (h : Rw w g fr i0 i1 zs q sv) : ∀ k, sv.ownBlock = some k → k ≠ g := fun k hk e => by have := (World.ownsRow.lt h.st k hk).1; omega
theorem Rw.stSet (h : Rw w g fr i0 i1 zs q sv) (o : Nat) (v : Value) : Os (w.setCell ⟨g, o, none⟩ v) (g + 1) sv zs := h.st.keep fun k hk _ => Below.heap_setCell _ _ _ _ (h.own k hk)
theorem Rw.setCell (h : Rw w g fr i0 i1 zs q sv) (i : Nat) (hi : i < 16) (v : Int) (hv : In32 v) : Rw (w.setCell ⟨g, 1 + i, none⟩ (.int .i32 v)) g fr i0 i1 zs { q with cells := q.cells.set i v } sv :=
  ⟨by have := h.row.set (1 + i) (.int .i32 v); rwa [setD_cell h.wf i hi] at this, ⟨by simpa using h.wf.cells, set_in h.wf.cin _ hv, h.wf.seed⟩, h.stSet _ _, h.sin, h.len⟩
theorem Rw.setSeed (h : Rw w g fr i0 i1 zs q sv) (v : Int) (hv : 0 ≤ v ∧ v < 4294967296) : Rw (w.setCell ⟨g, 17, none⟩ (.int .u32 v)) g fr i0 i1 zs { q with seed := v } sv :=
  ⟨by have := h.row.set (17 + 0) (.int .u32 v); rwa [setD_end h.wf 0] at this, ⟨h.wf.cells, h.wf.cin, hv⟩, h.stSet _ _, h.sin, h.len⟩
theorem Rw.setPc (h : Rw w g fr i0 i1 zs q sv) (v : Int) : Rw (w.setCell ⟨g, 23, none⟩ (.int .i64 v)) g fr i0 i1 zs { q with pc := v } sv :=
  ⟨by have := h.row.set (17 + 6) (.int .i64 v); rwa [setD_end h.wf 6] at this, ⟨h.wf.cells, h.wf.cin, h.wf.seed⟩, h.stSet _ _, h.sin, h.len⟩
theorem Rw.setWon (h : Rw w g fr i0 i1 zs q sv) (v : Int) : Rw (w.setCell ⟨g, 24, none⟩ (.int .i64 v)) g fr i0 i1 zs { q with won := v } sv :=
  ⟨by have := h.row.set (17 + 7) (.int .i64 v); rwa [setD_end h.wf 7] at this, ⟨h.wf.cells, h.wf.cin, h.wf.seed⟩, h.stSet _ _, h.sin, h.len⟩
theorem Rw.setBad (h : Rw w g fr i0 i1 zs q sv) (v : Bool) : Rw (w.setCell ⟨g, 25, none⟩ (.bool v)) g fr i0 i1 zs { q with bad := v } sv :=
  ⟨by have := h.row.set (17 + 8) (.bool v); rwa [setD_end h.wf 8] at this, ⟨h.wf.cells, h.wf.cin, h.wf.seed⟩, h.stSet _ _, h.sin, h.len⟩
/-- Another stack in the machine's field. -/
theorem Rw.setSt (h : Rw w g fr i0 i1 zs q sv) {ys : List Int} {v : Value} (hs : Os w (g + 1) v ys) (hi : ∀ x ∈ ys, In32 x) (hl : ys.length ≤ 32) : Rw (w.setCell ⟨g, 22, none⟩ v) g fr i0 i1 ys q v :=
  ⟨by have := h.row.set (17 + 5) v; rwa [setD_end h.wf 5] at this, h.wf, hs.keep fun k hk _ => Below.heap_setCell _ _ _ _ (fun e => by have := (World.ownsRow.lt hs k hk).1; simp only at e; omega), hi, hl⟩
theorem run_append_os (w : World) (base : Nat) (ty : TypeId) (v : Value) (xs : List Int) (hown : Os w base v xs) (b : Nat) (z : Int) (hb : w.cell? ⟨b, 0, none⟩ = some (.int .i32 z)) (h63 : xs.length ≤ 1000) (hbase : base ≤ w.heap.size) :
    ∃ ao cap w', (Builtin.append_ #[118, 118] ty #[v, .slice (some ⟨b, 0, none⟩) 1 1]).run Tryz.prog w = .ok (.slice ao (xs.length + 1) cap) w' ∧ Os w' base (.slice ao (xs.length + 1) cap) (xs ++ [z]) ∧ w.grownBy w' v.ownBlock := by
  obtain ⟨i0, hi, hz0, hz1, hz2⟩ := info_parts Tryz.info21
  obtain ⟨v', w', hr, h2, h3, _, _⟩ := run_append_own_at (P := Tryz.prog) w base 118 ty 21 i0 (.int .i32 0) 1 4 Tryz.underlying118 hi hz0 hz1 hz2 rfl (by decide) v xs.length (xs.map (Value.int .i32)) hown ⟨b, 0, none⟩ 1 1 [.int .i32 z] rfl
    (by intro j y hy
        cases j with
        | zero => rw [Addr.add_lit]; simp at hy; subst hy; exact hb
        | succ j => simp at hy) (by intro y hy; simp at hy; subst hy; rfl) (by unfold maxLen; omega) (by omega) hbase
  have h2' : Os w' base v' (xs ++ [z]) := by
    unfold Os
    simpa using h2
  obtain ⟨ao, cap, rfl, _⟩ := h2'.form
  rw [List.length_append] at hr h2'
  exact ⟨ao, cap, w', hr, h2', h3⟩
theorem wpList_append_os (w : World) {ops : Array Oper} {rest : List Oper} {o : Oper} {a : Act} {Q : Exit → Act → World → Prop} (hgd : o.guard = none) (s x : Operand)
    (ho : o.op = .call { callee := .builtin .append, args := #[s, x], argTypes := #[118, 118] })
    (base : Nat) (v : Value) (xs : List Int) (hs : a.eval s = v) (hown : Os w base v xs) (b : Nat) (z : Int) (hx : a.eval x = .slice (some ⟨b, 0, none⟩) 1 1) (hb : w.cell? ⟨b, 0, none⟩ = some (.int .i32 z)) (h63 : xs.length ≤ 1000) (hbase : base ≤ w.heap.size)
    (h : ∀ ao cap w', Os w' base (.slice ao (xs.length + 1) cap) (xs ++ [z]) → w.grownBy w' v.ownBlock → wpList Tryz.prog ops Q rest (a.put o.dst (.slice ao (xs.length + 1) cap)) w') : wpList Tryz.prog ops Q (o :: rest) a w := by
  obtain ⟨ao, cap, w', hr, h2, h3⟩ := run_append_os w base o.type v xs hown b z hb h63 hbase
  refine wpList_plain hgd fun _ hK => ?_
  unfold Oper.wp execOp
  simp only [ho, resolve, invoke, builtin, Sem.run_bind, Sem.run_pure, Result.andThen_ok, List.map_toArray, List.map_cons, List.map_nil, hs, hx, hr]
  exact hK _ _ (h ao cap w' h2 h3)
/-- All blocks from g on may have changed. -/
abbrev Ge (g : Nat) (w w' : World) : Prop := Below g w w'
set_option maxHeartbeats 1000000 in
theorem rpush_room (v : Int) (hv : In32 v) (h : Rw w g fr i0 i1 zs q sv) (hl : zs.length < 32) :
    Calls Tryz.prog 82 #[.pointer (some ⟨g, 0, none⟩), .int .i32 v] w fun e w' => e = .returned (.tuple #[]) ∧ ∃ sv', Rw w' g fr i0 i1 (zs ++ [v]) q sv' ∧ Below g w w' := by
  obtain ⟨ao, cap, hsv, hc1, hc2⟩ := h.st.form
  have H := hid_into h
  have c1 := h.slice
  have hgl := h.lt
  have hl' : (zs.length : Int) < 32 := by omega
  rw [hsv] at c1
  subst hsv
  clear h
  go_enter Tryz.func82, Tryz.ntmps82
  go_wp2_with (refine wpList_append_os _ rfl (.tmp 17) (.tmp 19) rfl (g + 1) _ zs rfl ?_ w.heap.size v rfl ?_ (by omega) (by rw [World.size_alloc]; omega) ?_; exact H.out.st.keep (fun k _ hk => Below.heap_alloc _ _ _ hk); exact (Cw.new w [.int .i32 v] 21).cell 0; intro ao2 cap2 W2 hown2 hgr2; have hrow2 : Cw W2 g (rowD fr i0 i1 (.slice ao zs.length cap) q) 120 := (H.out.row.alloc _).keep (hgr2.block _ (by rw [World.size_alloc]; omega) (fun e => H.out.own g e.symm rfl)); have c22 : W2.cell? ⟨g, 22, none⟩ = some (.slice ao zs.length cap) := (hrow2.cell _).trans (getD_end H.out.wf 5); have f22 := hrow2.frozen 22; have hB2 : Below g w W2 := ((Below.refl g w).alloc (by omega) _).trans (Grows.below (Grows.grownBy hgr2 (F := fun k => g ≤ k) (fun k e => by have := (World.ownsRow.lt H.out.st k e).1; omega)) (by rw [World.size_alloc]; omega) (fun k hk => hk)); have hR2 := hid_into (And.intro hrow2 (And.intro hown2 hB2)); clear hrow2 hown2 hB2 hgr2)
  go_end0
  refine ⟨rfl, .slice ao2 (zs.length + 1) cap2, ⟨?_, H.out.wf, ?_, ?_, by simp; omega⟩, hR2.out.2.2.trans ((Only.set _ _ _ _).below (Nat.le_refl _))⟩
  · have := hR2.out.1.set (17 + 5) (.slice ao2 (zs.length + 1) cap2)
    rwa [setD_end H.out.wf 5] at this
  · exact hR2.out.2.1.keep fun k hk _ => Below.heap_setCell _ _ _ _ (show k ≠ g by have := (World.ownsRow.lt hR2.out.2.1 k hk).1; omega)
  · intro x hx
    rcases List.mem_append.1 hx with hx | hx
    · exact H.out.sin x hx
    · simp only [List.mem_cons, List.not_mem_nil, or_false] at hx; subst hx; exact hv
set_option maxHeartbeats 1000000 in
theorem rpush_full (v : Int) (h : Rw w g fr i0 i1 zs q sv) (hl : zs.length = 32) :
    Calls Tryz.prog 82 #[.pointer (some ⟨g, 0, none⟩), .int .i32 v] w fun e w' => e = .returned (.tuple #[]) ∧ Rw w' g fr i0 i1 zs { q with bad := true } sv ∧ Below g w w' := by
  obtain ⟨ao, cap, hsv, hc1, hc2⟩ := h.st.form
  have H := hid_into (h.setBad true)
  have c1 := h.slice
  have c2 := h.bad
  have f2 := h.row.frozen 25
  rw [hsv, hl] at c1
  clear h hl hc1
  go_enter Tryz.func82, Tryz.ntmps82
  go_wp2
  exact bodyPost_ret (results_none rfl _ _ _) rfl ⟨rfl, H.out, (Only.set _ _ _ _).below (Nat.le_refl _)⟩
theorem Os.cell {base : Nat} {gb cap n : Nat} (h : Os w base (.slice (some ⟨gb, 0, none⟩) n cap) zs) (i : Nat) (hi : i < zs.length) : w.cell? ⟨gb, i, none⟩ = some (.int .i32 (zs.getD i 0)) := by
  have := World.ownsRow.cells h (g := gb) rfl i (.int .i32 (zs.getD i 0)) (by simp [List.getD, hi])
  simpa [Addr.add_lit] using this
theorem Os.init {base n cap gb : Nat} {ys : List Int} {z : Int} (h : Os w base (.slice (some ⟨gb, 0, none⟩) n cap) (ys ++ [z])) : Os w base (.slice (some ⟨gb, 0, none⟩) ys.length cap) ys := by
  refine ⟨by simp, Or.inr ?_⟩
  rcases h.2 with ⟨h3, _⟩ | ⟨g', cap', cur, h3, h4, h5, h6, h7, h8, h9⟩
  · cases h3
  · simp only [Value.slice.injEq, Option.some.injEq, Addr.mk.injEq] at h3
    obtain ⟨⟨rfl, -⟩, -, rfl⟩ := h3
    refine ⟨gb, cap, cur, rfl, h4, h5, by simp at h6; omega, h7, h8, ?_⟩
    simp only [List.length_append, List.length_cons, List.length_nil, List.map_append, List.map_cons, List.map_nil, Nat.mul_one] at h9 ⊢
    have h10 := congrArg (List.take ys.length) h9
    rw [List.take_take] at h10
    rw [show min ys.length (ys.length + (0 + 1)) = ys.length by omega] at h10
    rw [h10]
    simp
set_option maxHeartbeats 1000000 in
theorem rpop_some (ys : List Int) (z : Int) (h : Rw w g fr i0 i1 (ys ++ [z]) q sv) :
    Calls Tryz.prog 83 #[.pointer (some ⟨g, 0, none⟩)] w fun e w' => e = .returned (.int .i32 z) ∧ ∃ sv', Rw w' g fr i0 i1 ys q sv' ∧ Only g w w' := by
  obtain ⟨ao, cap, hsv, hc1, hc2⟩ := h.st.form
  have hlen := h.len
  have hst := h.st
  rw [hsv] at hst
  obtain ⟨gb, rfl⟩ : ∃ gb, ao = some ⟨gb, 0, none⟩ := by
    rcases hst.2 with ⟨h3, h0⟩ | ⟨g', cap', cur, h3, _⟩
    · simp at h0
    · simp only [Value.slice.injEq] at h3; exact ⟨g', h3.1⟩
  have c1 := h.slice
  rw [hsv] at c1
  have c2 := hst.cell ys.length (by simp)
  rw [show (ys ++ [z]).getD ys.length 0 = z by simp [List.getD]] at c2
  have f1 := h.row.frozen 22
  have H := hid_into (h.setSt hst.init (fun x hx => h.sin x (by simp [hx])) (by simp at hlen; omega))
  simp only [List.length_append, List.length_cons, List.length_nil] at c1 hc1 hlen
  have hcap : ys.length + 1 ≤ cap := by omega
  unfold maxLen at hc2
  have n0 : ¬ ((ys.length : Int) + 1 = 0) := by omega
  have hgb : gb ≠ g := h.own gb (by rw [hsv]; rfl)
  clear h hst hsv
  generalize ys.length = n at c1 c2 H hc1 hlen hcap n0
  go_enter Tryz.func83, Tryz.ntmps83
  go_wp2_with fail
  go_ret
  exact ⟨rfl, _, H.out, Only.set _ _ _ _⟩
end Go.Proofs.YtbfldcieibdapabGreat
end

section
/-
  The document's Check of a game, and Is, by contracts.
-/
namespace Go.Proofs.YtbfldcieibdapabGreat
open Go.RowKit
variable {w w' : World} {g : Nat}
set_option maxHeartbeats 1000000 in
theorem rIs_c (cs : List Value) (s : Sp) (h : StC cs s) (w : World) : Calls Tryz.prog 60 #[.agg cs.toArray] w fun e w' => e = .returned (.bool (isS s)) ∧ Below w.heap.size w w' := by
  have k0 := hid_into h.frame
  have k18 := hid_into h.over
  have k19 := hid_into h.win
  clear h
  obtain ⟨fr, cells, seed, over, win⟩ := s
  simp only at k0 k18 k19
  by_cases h1 : fr < 0
  · rw [show isS ⟨fr, cells, seed, over, win⟩ = false by simp [isS]; omega]
    go_enter Tryz.func60, Tryz.ntmps60
    go_wp2_with (refine wpList_box_row rfl 44 (.tmp 0) rfl cs rfl ?_; intro W1 hc1 B1 HS1; have q0 := (hc1.cell 0).trans k0.out; have q3 := (hc1.cell 18).trans k18.out; have q4 := (hc1.cell 19).trans k19.out)
    go_ret
    exact ⟨rfl, B1⟩
  by_cases h2 : 600 < fr
  · rw [show isS ⟨fr, cells, seed, over, win⟩ = false by simp [isS]; omega]
    go_enter Tryz.func60, Tryz.ntmps60
    go_wp2_with (refine wpList_box_row rfl 44 (.tmp 0) rfl cs rfl ?_; intro W1 hc1 B1 HS1; have q0 := (hc1.cell 0).trans k0.out; have q3 := (hc1.cell 18).trans k18.out; have q4 := (hc1.cell 19).trans k19.out)
    go_ret
    exact ⟨rfl, B1⟩
  by_cases h3 : win < 0
  · rw [show isS ⟨fr, cells, seed, over, win⟩ = false by simp [isS]; omega]
    go_enter Tryz.func60, Tryz.ntmps60
    go_wp2_with (refine wpList_box_row rfl 44 (.tmp 0) rfl cs rfl ?_; intro W1 hc1 B1 HS1; have q0 := (hc1.cell 0).trans k0.out; have q3 := (hc1.cell 18).trans k18.out; have q4 := (hc1.cell 19).trans k19.out)
    go_ret
    exact ⟨rfl, B1⟩
  by_cases h4 : 2 < win
  · rw [show isS ⟨fr, cells, seed, over, win⟩ = false by simp [isS]; omega]
    go_enter Tryz.func60, Tryz.ntmps60
    go_wp2_with (refine wpList_box_row rfl 44 (.tmp 0) rfl cs rfl ?_; intro W1 hc1 B1 HS1; have q0 := (hc1.cell 0).trans k0.out; have q3 := (hc1.cell 18).trans k18.out; have q4 := (hc1.cell 19).trans k19.out)
    go_ret
    exact ⟨rfl, B1⟩
  cases over with
  | true =>
    rw [show isS ⟨fr, cells, seed, true, win⟩ = true by simp [isS]; omega]
    go_enter Tryz.func60, Tryz.ntmps60
    go_wp2_with (refine wpList_box_row rfl 44 (.tmp 0) rfl cs rfl ?_; intro W1 hc1 B1 HS1; have q0 := (hc1.cell 0).trans k0.out; have q3 := (hc1.cell 18).trans k18.out; have q4 := (hc1.cell 19).trans k19.out)
    go_ret
    exact ⟨rfl, B1⟩
  | false =>
    by_cases h5 : win = 0
    · subst h5
      rw [show isS ⟨fr, cells, seed, false, 0⟩ = true by simp [isS]; omega]
      go_enter Tryz.func60, Tryz.ntmps60
      go_wp2_with (refine wpList_box_row rfl 44 (.tmp 0) rfl cs rfl ?_; intro W1 hc1 B1 HS1; have q0 := (hc1.cell 0).trans k0.out; have q3 := (hc1.cell 18).trans k18.out; have q4 := (hc1.cell 19).trans k19.out)
      go_ret
      exact ⟨rfl, B1⟩
    · rw [show isS ⟨fr, cells, seed, false, win⟩ = false by simp [isS]; omega]
      have h5' : (win == 0) = false := by simp [h5]
      go_enter Tryz.func60, Tryz.ntmps60
      go_wp2_with (refine wpList_box_row rfl 44 (.tmp 0) rfl cs rfl ?_; intro W1 hc1 B1 HS1; have q0 := (hc1.cell 0).trans k0.out; have q3 := (hc1.cell 18).trans k18.out; have q4 := (hc1.cell 19).trans k19.out)
      go_ret
      exact ⟨by simp [Array.getD], B1⟩
set_option maxHeartbeats 1000000 in
theorem rChk_any (cv : Value) (l : List Ii) (cap fuel : Int) (w : World) (hl : Ls w cv l) : Calls Tryz.prog 6 #[gameV cv cap fuel] w fun e w' => e = .returned (.int .i64 (chkG l cap fuel)) ∧ Below w.heap.size w w' := by
  have CH : Hid (∀ W, Below w.heap.size w W → Calls Tryz.prog 16 #[cv] W fun e w' => e = .returned (.tuple #[.int .i64 (chk l).1, .int .i64 (chk l).2]) ∧ Below W.heap.size W w') := fun W hW => rcheck_any cv l W (hl.below hW)
  have BB := hid_into ((Below.refl w.heap.size w).alloc (Nat.le_refl _) (.cells #[cv, .int .i64 cap, .int .i64 fuel] 24))
  have hlt : ∀ W, Below (w.alloc (.cells #[cv, .int .i64 cap, .int .i64 fuel] 24)).heap.size (w.alloc (.cells #[cv, .int .i64 cap, .int .i64 fuel] 24)) W → Cw W w.heap.size [cv, .int .i64 cap, .int .i64 fuel] 24 := fun W hW => (Cw.new w [cv, .int .i64 cap, .int .i64 fuel] 24).below hW (by rw [World.size_alloc]; omega)
  have HX := hid_into hlt
  have HR : Hid (chkG l cap fuel = if (chk l).2 ≠ 0 then (chk l).2 else if cap < 1 ∨ 600 < cap ∨ fuel < 1 ∨ 2000 < fuel then 1 else 0) := rfl
  clear hl hlt
  unfold gameV
  generalize (chk l).1 = c1 at CH
  generalize (chk l).2 = c2 at CH HR
  generalize chkG l cap fuel = cg at HR ⊢
  by_cases hc : c2 = 0
  · subst hc
    by_cases h1 : cap < 1
    · have HR2 : Hid (cg = 1) := by show _ = _; rw [HR.out, if_neg (by omega), if_pos (by omega)]
      go_enter Tryz.func6, Tryz.ntmps6
      go_wp2_with (go_at_call 16; refine (CH.out _ BB.out).mono ?_; rintro e w1 ⟨rfl, B1⟩; have q1 := (HX.out _ B1).cell 1; have q2 := (HX.out _ B1).cell 2; simp only [List.getElem?_cons_zero, List.getElem?_cons_succ] at q1 q2)
      go_ret
      exact ⟨by rw [HR2.out]; rfl, BB.out.trans (B1.mono BB.out.size)⟩
    by_cases h2 : 600 < cap
    · have HR2 : Hid (cg = 1) := by show _ = _; rw [HR.out, if_neg (by omega), if_pos (by omega)]
      go_enter Tryz.func6, Tryz.ntmps6
      go_wp2_with (go_at_call 16; refine (CH.out _ BB.out).mono ?_; rintro e w1 ⟨rfl, B1⟩; have q1 := (HX.out _ B1).cell 1; have q2 := (HX.out _ B1).cell 2; simp only [List.getElem?_cons_zero, List.getElem?_cons_succ] at q1 q2)
      go_ret
      exact ⟨by rw [HR2.out]; rfl, BB.out.trans (B1.mono BB.out.size)⟩
    by_cases h3 : fuel < 1
    · have HR2 : Hid (cg = 1) := by show _ = _; rw [HR.out, if_neg (by omega), if_pos (by omega)]
      go_enter Tryz.func6, Tryz.ntmps6
      go_wp2_with (go_at_call 16; refine (CH.out _ BB.out).mono ?_; rintro e w1 ⟨rfl, B1⟩; have q1 := (HX.out _ B1).cell 1; have q2 := (HX.out _ B1).cell 2; simp only [List.getElem?_cons_zero, List.getElem?_cons_succ] at q1 q2)
      go_ret
      exact ⟨by rw [HR2.out]; rfl, BB.out.trans (B1.mono BB.out.size)⟩
    by_cases h4 : 2000 < fuel
    · have HR2 : Hid (cg = 1) := by show _ = _; rw [HR.out, if_neg (by omega), if_pos (by omega)]
      go_enter Tryz.func6, Tryz.ntmps6
      go_wp2_with (go_at_call 16; refine (CH.out _ BB.out).mono ?_; rintro e w1 ⟨rfl, B1⟩; have q1 := (HX.out _ B1).cell 1; have q2 := (HX.out _ B1).cell 2; simp only [List.getElem?_cons_zero, List.getElem?_cons_succ] at q1 q2)
      go_ret
      exact ⟨by rw [HR2.out]; rfl, BB.out.trans (B1.mono BB.out.size)⟩
    · have HR2 : Hid (cg = 0) := by show _ = _; rw [HR.out, if_neg (by omega), if_neg (by omega)]
      go_enter Tryz.func6, Tryz.ntmps6
      go_wp2_with (go_at_call 16; refine (CH.out _ BB.out).mono ?_; rintro e w1 ⟨rfl, B1⟩; have q1 := (HX.out _ B1).cell 1; have q2 := (HX.out _ B1).cell 2; simp only [List.getElem?_cons_zero, List.getElem?_cons_succ] at q1 q2)
      go_ret
      exact ⟨by rw [HR2.out]; rfl, BB.out.trans (B1.mono BB.out.size)⟩
  · have HR2 : Hid (cg = c2) := by show _ = _; rw [HR.out, if_pos (by omega)]
    have hc2 : (c2 != 0) = true := by simp [hc]
    go_enter Tryz.func6, Tryz.ntmps6
    go_wp2_with (go_at_call 16; refine (CH.out _ BB.out).mono ?_; rintro e w1 ⟨rfl, B1⟩)
    go_ret
    exact ⟨by rw [HR2.out]; rfl, BB.out.trans (B1.mono BB.out.size)⟩
end Go.Proofs.YtbfldcieibdapabGreat
end

section
/-
  The document's truth, takes, two and does: each instruction, by a contract.
-/
namespace Go.Proofs.YtbfldcieibdapabGreat
open Go.RowKit
variable {fr i0 i1 : Int} {sv : Value} {cells : List Int} {seed : Int} {w w' : World} {g : Nat} {zs : List Int}
theorem rtruth_any (b : Bool) (w : World) : Calls Tryz.prog 84 #[.bool b] w fun e w' => e = .returned (.int .i32 (truI b)) ∧ w' = w := by
  cases b
  · go_enter Tryz.func84, Tryz.ntmps84
    go_wp2
    go_ret
    exact ⟨rfl, rfl⟩
  · go_enter Tryz.func84, Tryz.ntmps84
    go_wp2
    go_ret
    exact ⟨rfl, rfl⟩
theorem takes_1 (w : World) : Calls Tryz.prog 81 #[.int .i64 1] w fun e w' => e = .returned (.int .i64 0) ∧ w' = w := by
  go_enter Tryz.func81, Tryz.ntmps81
  go_wp2
  go_ret
  exact ⟨rfl, rfl⟩
theorem takes_2 (w : World) : Calls Tryz.prog 81 #[.int .i64 2] w fun e w' => e = .returned (.int .i64 0) ∧ w' = w := by
  go_enter Tryz.func81, Tryz.ntmps81
  go_wp2
  go_ret
  exact ⟨rfl, rfl⟩
theorem takes_3 (w : World) : Calls Tryz.prog 81 #[.int .i64 3] w fun e w' => e = .returned (.int .i64 1) ∧ w' = w := by
  go_enter Tryz.func81, Tryz.ntmps81
  go_wp2
  go_ret
  exact ⟨rfl, rfl⟩
theorem takes_4 (w : World) : Calls Tryz.prog 81 #[.int .i64 4] w fun e w' => e = .returned (.int .i64 2) ∧ w' = w := by
  go_enter Tryz.func81, Tryz.ntmps81
  go_wp2
  go_ret
  exact ⟨rfl, rfl⟩
theorem takes_5 (w : World) : Calls Tryz.prog 81 #[.int .i64 5] w fun e w' => e = .returned (.int .i64 2) ∧ w' = w := by
  go_enter Tryz.func81, Tryz.ntmps81
  go_wp2
  go_ret
  exact ⟨rfl, rfl⟩
theorem takes_6 (w : World) : Calls Tryz.prog 81 #[.int .i64 6] w fun e w' => e = .returned (.int .i64 2) ∧ w' = w := by
  go_enter Tryz.func81, Tryz.ntmps81
  go_wp2
  go_ret
  exact ⟨rfl, rfl⟩
theorem takes_7 (w : World) : Calls Tryz.prog 81 #[.int .i64 7] w fun e w' => e = .returned (.int .i64 2) ∧ w' = w := by
  go_enter Tryz.func81, Tryz.ntmps81
  go_wp2
  go_ret
  exact ⟨rfl, rfl⟩
theorem takes_8 (w : World) : Calls Tryz.prog 81 #[.int .i64 8] w fun e w' => e = .returned (.int .i64 2) ∧ w' = w := by
  go_enter Tryz.func81, Tryz.ntmps81
  go_wp2
  go_ret
  exact ⟨rfl, rfl⟩
theorem takes_9 (w : World) : Calls Tryz.prog 81 #[.int .i64 9] w fun e w' => e = .returned (.int .i64 2) ∧ w' = w := by
  go_enter Tryz.func81, Tryz.ntmps81
  go_wp2
  go_ret
  exact ⟨rfl, rfl⟩
theorem takes_10 (w : World) : Calls Tryz.prog 81 #[.int .i64 10] w fun e w' => e = .returned (.int .i64 2) ∧ w' = w := by
  go_enter Tryz.func81, Tryz.ntmps81
  go_wp2
  go_ret
  exact ⟨rfl, rfl⟩
theorem takes_11 (w : World) : Calls Tryz.prog 81 #[.int .i64 11] w fun e w' => e = .returned (.int .i64 2) ∧ w' = w := by
  go_enter Tryz.func81, Tryz.ntmps81
  go_wp2
  go_ret
  exact ⟨rfl, rfl⟩
theorem takes_12 (w : World) : Calls Tryz.prog 81 #[.int .i64 12] w fun e w' => e = .returned (.int .i64 1) ∧ w' = w := by
  go_enter Tryz.func81, Tryz.ntmps81
  go_wp2
  go_ret
  exact ⟨rfl, rfl⟩
theorem takes_13 (w : World) : Calls Tryz.prog 81 #[.int .i64 13] w fun e w' => e = .returned (.int .i64 1) ∧ w' = w := by
  go_enter Tryz.func81, Tryz.ntmps81
  go_wp2
  go_ret
  exact ⟨rfl, rfl⟩
theorem takes_14 (w : World) : Calls Tryz.prog 81 #[.int .i64 14] w fun e w' => e = .returned (.int .i64 2) ∧ w' = w := by
  go_enter Tryz.func81, Tryz.ntmps81
  go_wp2
  go_ret
  exact ⟨rfl, rfl⟩
theorem takes_15 (w : World) : Calls Tryz.prog 81 #[.int .i64 15] w fun e w' => e = .returned (.int .i64 1) ∧ w' = w := by
  go_enter Tryz.func81, Tryz.ntmps81
  go_wp2
  go_ret
  exact ⟨rfl, rfl⟩
theorem takes_16 (w : World) : Calls Tryz.prog 81 #[.int .i64 16] w fun e w' => e = .returned (.int .i64 0) ∧ w' = w := by
  go_enter Tryz.func81, Tryz.ntmps81
  go_wp2
  go_ret
  exact ⟨rfl, rfl⟩
theorem takes_17 (w : World) : Calls Tryz.prog 81 #[.int .i64 17] w fun e w' => e = .returned (.int .i64 0) ∧ w' = w := by
  go_enter Tryz.func81, Tryz.ntmps81
  go_wp2
  go_ret
  exact ⟨rfl, rfl⟩
theorem takes_18 (w : World) : Calls Tryz.prog 81 #[.int .i64 18] w fun e w' => e = .returned (.int .i64 0) ∧ w' = w := by
  go_enter Tryz.func81, Tryz.ntmps81
  go_wp2
  go_ret
  exact ⟨rfl, rfl⟩
theorem takes_19 (w : World) : Calls Tryz.prog 81 #[.int .i64 19] w fun e w' => e = .returned (.int .i64 1) ∧ w' = w := by
  go_enter Tryz.func81, Tryz.ntmps81
  go_wp2
  go_ret
  exact ⟨rfl, rfl⟩
theorem takes_20 (w : World) : Calls Tryz.prog 81 #[.int .i64 20] w fun e w' => e = .returned (.int .i64 0) ∧ w' = w := by
  go_enter Tryz.func81, Tryz.ntmps81
  go_wp2
  go_ret
  exact ⟨rfl, rfl⟩
theorem takes_21 (w : World) : Calls Tryz.prog 81 #[.int .i64 21] w fun e w' => e = .returned (.int .i64 0) ∧ w' = w := by
  go_enter Tryz.func81, Tryz.ntmps81
  go_wp2
  go_ret
  exact ⟨rfl, rfl⟩
theorem takes_22 (w : World) : Calls Tryz.prog 81 #[.int .i64 22] w fun e w' => e = .returned (.int .i64 0) ∧ w' = w := by
  go_enter Tryz.func81, Tryz.ntmps81
  go_wp2
  go_ret
  exact ⟨rfl, rfl⟩
theorem two_4 (b a : Int) (hb : In32 b) (ha : In32 a) (w : World) : Calls Tryz.prog 85 #[.int .i64 4, .int .i32 b, .int .i32 a] w fun e w' => e = .returned (.int .i32 (twoI 4 b a)) ∧ w' = w := by
  have HB := hid_into (And.intro hb ha)
  go_enter Tryz.func85, Tryz.ntmps85
  go_wp2_with (go_at_call 116; refine (RefAdd_any _ _ HB.out.1 HB.out.2 _).mono ?_; rintro e w' ⟨rfl, rfl⟩)
  go_ret
  exact ⟨rfl, rfl⟩
theorem two_5 (b a : Int) (hb : In32 b) (ha : In32 a) (w : World) : Calls Tryz.prog 85 #[.int .i64 5, .int .i32 b, .int .i32 a] w fun e w' => e = .returned (.int .i32 (twoI 5 b a)) ∧ w' = w := by
  have HB := hid_into (And.intro hb ha)
  go_enter Tryz.func85, Tryz.ntmps85
  go_wp2_with (go_at_call 117; refine (RefSub_any _ _ HB.out.1 HB.out.2 _).mono ?_; rintro e w' ⟨rfl, rfl⟩)
  go_ret
  exact ⟨rfl, rfl⟩
theorem two_6 (b a : Int) (hb : In32 b) (ha : In32 a) (w : World) : Calls Tryz.prog 85 #[.int .i64 6, .int .i32 b, .int .i32 a] w fun e w' => e = .returned (.int .i32 (twoI 6 b a)) ∧ w' = w := by
  have HB := hid_into (And.intro hb ha)
  go_enter Tryz.func85, Tryz.ntmps85
  go_wp2_with (go_at_call 118; refine (RefMul_any _ _ HB.out.1 HB.out.2 _).mono ?_; rintro e w' ⟨rfl, rfl⟩)
  go_ret
  exact ⟨rfl, rfl⟩
theorem two_7 (b a : Int) (hb : In32 b) (ha : In32 a) (w : World) : Calls Tryz.prog 85 #[.int .i64 7, .int .i32 b, .int .i32 a] w fun e w' => e = .returned (.int .i32 (twoI 7 b a)) ∧ w' = w := by
  have HB := hid_into (And.intro hb ha)
  go_enter Tryz.func85, Tryz.ntmps85
  go_wp2_with (go_at_call 119; refine (RefDiv_any _ _ HB.out.1 HB.out.2 _).mono ?_; rintro e w' ⟨rfl, rfl⟩)
  go_ret
  exact ⟨rfl, rfl⟩
theorem two_8 (b a : Int) (_ : In32 b) (_ : In32 a) (w : World) : Calls Tryz.prog 85 #[.int .i64 8, .int .i32 b, .int .i32 a] w fun e w' => e = .returned (.int .i32 (twoI 8 b a)) ∧ w' = w := by
  by_cases hm : a ≤ b
  · have e8 : twoI 8 b a = a := by show (if b ≤ a then b else a) = a; split <;> omega
    rw [e8]
    go_enter Tryz.func85, Tryz.ntmps85
    go_wp2
    go_ret
    exact ⟨rfl, rfl⟩
  · have e8 : twoI 8 b a = b := by show (if b ≤ a then b else a) = b; split <;> omega
    rw [e8]
    go_enter Tryz.func85, Tryz.ntmps85
    go_wp2
    go_ret
    exact ⟨rfl, rfl⟩
theorem two_9 (b a : Int) (_ : In32 b) (_ : In32 a) (w : World) : Calls Tryz.prog 85 #[.int .i64 9, .int .i32 b, .int .i32 a] w fun e w' => e = .returned (.int .i32 (twoI 9 b a)) ∧ w' = w := by
  by_cases hm : a < b
  · have e8 : twoI 9 b a = b := by show (if b < a then a else b) = b; split <;> omega
    rw [e8]
    go_enter Tryz.func85, Tryz.ntmps85
    go_wp2
    go_ret
    exact ⟨rfl, rfl⟩
  · have e8 : twoI 9 b a = a := by show (if b < a then a else b) = a; split <;> omega
    rw [e8]
    go_enter Tryz.func85, Tryz.ntmps85
    go_wp2
    go_ret
    exact ⟨rfl, rfl⟩
theorem two_10 (b a : Int) (_ : In32 b) (_ : In32 a) (w : World) : Calls Tryz.prog 85 #[.int .i64 10, .int .i32 b, .int .i32 a] w fun e w' => e = .returned (.int .i32 (twoI 10 b a)) ∧ w' = w := by
  have e8 : Hid (twoI 10 b a = truI (decide (b < a))) := hid_into rfl
  go_enter Tryz.func85, Tryz.ntmps85
  go_wp2_with (go_at_call 84; refine (rtruth_any _ _).mono ?_; rintro e w' ⟨rfl, rfl⟩)
  go_ret
  exact ⟨by rw [e8.out]; rfl, rfl⟩
theorem two_11 (b a : Int) (_ : In32 b) (_ : In32 a) (w : World) : Calls Tryz.prog 85 #[.int .i64 11, .int .i32 b, .int .i32 a] w fun e w' => e = .returned (.int .i32 (twoI 11 b a)) ∧ w' = w := by
  have e8 : Hid (twoI 11 b a = truI (decide (b = a))) := hid_into rfl
  go_enter Tryz.func85, Tryz.ntmps85
  go_wp2_with (go_at_call 84; refine (rtruth_any _ _).mono ?_; rintro e w' ⟨rfl, rfl⟩)
  go_ret
  exact ⟨by rw [e8.out]; rfl, rfl⟩
def wonI : Option Int → Int
  | none => -1
  | some a => a
/-- What does answers, and leaves, beside the plain instruction. -/
def DoesP (fr i0 i1 : Int) (n : Nat) (x : Ii) (m : Mp) (r : Bool) (zs : List Int) (q : Rm) : Prop :=
  (∃ m', doI fr i0 i1 n x m = some m' ∧ q.bad = false ∧ q.cells = m'.cells ∧ q.seed = m'.seed ∧ zs = m'.st.reverse ∧ q.won = wonI m'.won ∧ r = decide (m'.pc < n) ∧ (r = true → q.pc = m'.pc ∧ m'.won = none)) ∨ (doI fr i0 i1 n x m = none ∧ q.bad = true ∧ r = false)
def DoesQ (w : World) (g n j : Nat) (fr i0 i1 : Int) (cells : List Int) (seed : Int) (zs : List Int) (x : Ii) (e : Ending) (w' : World) : Prop :=
  ∃ r zs' q' sv', e = .returned (.bool r) ∧ Rw w' g fr i0 i1 zs' q' sv' ∧ Below g w w' ∧ DoesP fr i0 i1 n x ⟨cells, seed, zs.reverse, j, none⟩ r zs' q'
def DoesC (w : World) (g n j : Nat) (fr i0 i1 : Int) (cells : List Int) (seed : Int) (zs : List Int) (x : Ii) : Prop :=
  Calls Tryz.prog 61 #[.pointer (some ⟨g, 0, none⟩), .agg #[.int .i64 x.1, .int .i64 x.2], .int .i64 (n : Int)] w fun e w' => DoesQ w g n j fr i0 i1 cells seed zs x e w'
end Go.Proofs.YtbfldcieibdapabGreat
end
