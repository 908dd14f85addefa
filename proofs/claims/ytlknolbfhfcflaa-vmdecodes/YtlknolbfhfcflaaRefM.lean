/-
  The document's machine in memory (Rw): its stack a slice of its own; push and pop, by contracts.
-/
import Derived.Test.YtlknolbfhfcflaaVmS
import Derived.Test.YtlknolbfhfcflaaRefFix
import Derived.Test.YtlknolbfhfcflaaRCheck
import Derived.Maps.AppendAt
import Derived.Deep.AppendLies
namespace Go.Proofs.Ytlknolbfhfcflaa
open Go.RowKit
theorem Try.info21 : (Try.prog.info? 21).map (fun i => (i.zero, i.size, i.bytes)) = some (some (.int .i32 0), 1, 4) := by kernel_rfl
/-- The document's machine, beside its stack. -/
structure Rm where
  cells : List Int
  seed : Int
  pc : Int
  won : Int
  bad : Bool
structure Rm.Wf (q : Rm) : Prop where
  cells : q.cells.length = 16
  cin : ∀ x ∈ q.cells, In32 x
  seed : 0 ≤ q.seed ∧ q.seed < 4294967296
def rowD (fr i0 i1 : Int) (sv : Value) (q : Rm) : List Value :=
  .int .i64 fr :: (q.cells.map (Value.int .i32) ++ [.int .u32 q.seed, .bool false, .int .i64 0, .int .u16 i0, .int .u16 i1, sv, .int .i64 q.pc, .int .i64 q.won, .bool q.bad])
variable {fr i0 i1 : Int} {sv : Value} {q : Rm} {w w' : World} {g : Nat}
theorem rowD_len (h : q.Wf) : (rowD fr i0 i1 sv q).length = 26 := by simp [rowD, h.cells]
theorem getD_cell (h : q.Wf) (i : Nat) (hi : i < 16) : (rowD fr i0 i1 sv q)[1 + i]? = some (.int .i32 (q.cells.getD i 0)) := by
  have hc := h.cells
  rw [rowD, show 1 + i = i + 1 by omega, List.getElem?_cons_succ, List.getElem?_append_left (by simp [hc]; omega), List.getElem?_map, List.getD, List.getElem?_eq_getElem (by omega)]
  rfl
theorem getD_end (h : q.Wf) (i : Nat) : (rowD fr i0 i1 sv q)[17 + i]? = ([.int .u32 q.seed, .bool false, .int .i64 0, .int .u16 i0, .int .u16 i1, sv, .int .i64 q.pc, .int .i64 q.won, .bool q.bad] : List Value)[i]? := by
  have hc := h.cells
  rw [rowD, show 17 + i = (16 + i) + 1 by omega, List.getElem?_cons_succ, List.getElem?_append_right (by simp [hc])]
  simp [hc]
theorem setD_cell (h : q.Wf) (i : Nat) (hi : i < 16) (v : Int) : (rowD fr i0 i1 sv q).set (1 + i) (.int .i32 v) = rowD fr i0 i1 sv { q with cells := q.cells.set i v } := by
  have hc := h.cells
  rw [rowD, show 1 + i = i + 1 by omega, List.set_cons_succ, List.set_append_left _ _ (by simp [hc]; omega)]
  simp only [rowD, List.map_set]
theorem setD_end (h : q.Wf) (i : Nat) (v : Value) : (rowD fr i0 i1 sv q).set (17 + i) v = .int .i64 fr :: (q.cells.map (Value.int .i32) ++ ([.int .u32 q.seed, .bool false, .int .i64 0, .int .u16 i0, .int .u16 i1, sv, .int .i64 q.pc, .int .i64 q.won, .bool q.bad] : List Value).set i v) := by
  have hc := h.cells
  rw [rowD, show 17 + i = (16 + i) + 1 by omega, List.set_cons_succ, List.set_append_right _ _ (by simp [hc])]
  simp [hc]
/-- A row of numbers of the machine's own, from block base on. -/
def Os (w : World) (base : Nat) (v : Value) (zs : List Int) : Prop := w.ownsRow base 21 1 v zs.length (zs.map (Value.int .i32))
/-- Block g is the document's machine q, with the stack zs (the upmost last), of blocks behind g. -/
structure Rw (w : World) (g : Nat) (fr i0 i1 : Int) (zs : List Int) (q : Rm) (sv : Value) : Prop where
  row : Cw w g (rowD fr i0 i1 sv q) 66
  wf : q.Wf
  st : Os w (g + 1) sv zs
  sin : ∀ x ∈ zs, In32 x
  len : zs.length ≤ 32
variable {zs : List Int}
theorem Rw.lt (h : Rw w g fr i0 i1 zs q sv) : g < w.heap.size := h.row.lt
theorem Os.keep {base : Nat} {v : Value} (h : Os w base v zs) (hk : ∀ k, v.ownBlock = some k → k < w.heap.size → w'.heap[k]? = w.heap[k]?) : Os w' base v zs := by
  refine ⟨h.1, ?_⟩
  rcases h.2 with h2 | ⟨g, cap, cur, rfl, hb, hg, rest⟩
  · exact Or.inl h2
  · exact Or.inr ⟨g, cap, cur, rfl, hb, by rw [hk g rfl (Array.getElem?_eq_some_iff.1 hg).1]; exact hg, rest⟩
theorem Os.form {base : Nat} {v : Value} (h : Os w base v zs) : ∃ ao cap, v = .slice ao zs.length cap ∧ zs.length ≤ cap ∧ cap ≤ maxLen := by
  rcases h.2 with ⟨rfl, h0⟩ | ⟨g, cap, cur, rfl, hb, hg, hn, hc, _⟩
  · exact ⟨none, 0, by rw [h0], by omega, by unfold maxLen; omega⟩
  · exact ⟨_, cap, rfl, hn, hc⟩
theorem Rw.below (h : Rw w g fr i0 i1 zs q sv) (hb : Below w.heap.size w w') : Rw w' g fr i0 i1 zs q sv :=
  ⟨h.row.below hb h.lt, h.wf, h.st.keep fun k _ hk => hb.block k hk, h.sin, h.len⟩
theorem Rw.sm (h : Rw w g fr i0 i1 zs q sv) (hs : Sm w w') : Rw w' g fr i0 i1 zs q sv := h.below ⟨hs.os, hs.tape, hs.output, by rw [hs.size]; exact Nat.le_refl _, fun k _ => by rw [hs.heap]⟩
theorem Rw.cell (h : Rw w g fr i0 i1 zs q sv) (i : Nat) (hi : i < 16) : w.cell? ⟨g, 1 + i, none⟩ = some (.int .i32 (q.cells.getD i 0)) := (h.row.cell _).trans (getD_cell h.wf i hi)
theorem Rw.frame (h : Rw w g fr i0 i1 zs q sv) : w.cell? ⟨g, 0, none⟩ = some (.int .i64 fr) := (h.row.cell 0).trans rfl
theorem Rw.seed (h : Rw w g fr i0 i1 zs q sv) : w.cell? ⟨g, 17, none⟩ = some (.int .u32 q.seed) := (h.row.cell _).trans (getD_end h.wf 0)
theorem Rw.in0 (h : Rw w g fr i0 i1 zs q sv) : w.cell? ⟨g, 20, none⟩ = some (.int .u16 i0) := (h.row.cell _).trans (getD_end h.wf 3)
theorem Rw.in1 (h : Rw w g fr i0 i1 zs q sv) : w.cell? ⟨g, 21, none⟩ = some (.int .u16 i1) := (h.row.cell _).trans (getD_end h.wf 4)
theorem Rw.slice (h : Rw w g fr i0 i1 zs q sv) : w.cell? ⟨g, 22, none⟩ = some sv := (h.row.cell _).trans (getD_end h.wf 5)
theorem Rw.pc (h : Rw w g fr i0 i1 zs q sv) : w.cell? ⟨g, 23, none⟩ = some (.int .i64 q.pc) := (h.row.cell _).trans (getD_end h.wf 6)
theorem Rw.won (h : Rw w g fr i0 i1 zs q sv) : w.cell? ⟨g, 24, none⟩ = some (.int .i64 q.won) := (h.row.cell _).trans (getD_end h.wf 7)
theorem Rw.bad (h : Rw w g fr i0 i1 zs q sv) : w.cell? ⟨g, 25, none⟩ = some (.bool q.bad) := (h.row.cell _).trans (getD_end h.wf 8)
theorem Rw.own (h : Rw w g fr i0 i1 zs q sv) : ∀ k, sv.ownBlock = some k → k ≠ g := fun k hk e => by have := (World.ownsRow.lt h.st k hk).1; omega
theorem Rw.stSet (h : Rw w g fr i0 i1 zs q sv) (o : Nat) (v : Value) : Os (w.setCell ⟨g, o, none⟩ v) (g + 1) sv zs := h.st.keep fun k hk _ => Below.heap_setCell _ _ _ _ (h.own k hk)
theorem Rw.setCell (h : Rw w g fr i0 i1 zs q sv) (i : Nat) (hi : i < 16) (v : Int) (hv : In32 v) : Rw (w.setCell ⟨g, 1 + i, none⟩ (.int .i32 v)) g fr i0 i1 zs { q with cells := q.cells.set i v } sv :=
  ⟨by have := h.row.set (1 + i) (.int .i32 v); rwa [setD_cell h.wf i hi] at this, ⟨by simpa using h.wf.cells, set_in h.wf.cin _ hv, h.wf.seed⟩, h.stSet _ _, h.sin, h.len⟩
theorem Rw.setSeed (h : Rw w g fr i0 i1 zs q sv) (v : Int) (hv : 0 ≤ v ∧ v < 4294967296) : Rw (w.setCell ⟨g, 17, none⟩ (.int .u32 v)) g fr i0 i1 zs { q with seed := v } sv :=
  ⟨by have := h.row.set (17 + 0) (.int .u32 v); rwa [setD_end h.wf 0] at this, ⟨h.wf.cells, h.wf.cin, hv⟩, h.stSet _ _, h.sin, h.len⟩
theorem Rw.setPc (h : Rw w g fr i0 i1 zs q sv) (v : Int) : Rw (w.setCell ⟨g, 23, none⟩ (.int .i64 v)) g fr i0 i1 zs { q with pc := v } sv :=
  ⟨by have := h.row.set (17 + 6) (.int .i64 v); rwa [setD_end h.wf 6] at this, ⟨h.wf.cells, h.wf.cin, h.wf.seed⟩, h.stSet _ _, h.sin, h.len⟩
theorem Rw.setWon (h : Rw w g fr i0 i1 zs q sv) (v : Int) : Rw (w.setCell ⟨g, 24, none⟩ (.int .i64 v)) g fr i0 i1 zs { q with won := v } sv :=
  ⟨by have := h.row.set (17 + 7) (.int .i64 v); rwa [setD_end h.wf 7] at this, ⟨h.wf.cells, h.wf.cin, h.wf.seed⟩, h.stSet _ _, h.sin, h.len⟩
theorem Rw.setBad (h : Rw w g fr i0 i1 zs q sv) (v : Bool) : Rw (w.setCell ⟨g, 25, none⟩ (.bool v)) g fr i0 i1 zs { q with bad := v } sv :=
  ⟨by have := h.row.set (17 + 8) (.bool v); rwa [setD_end h.wf 8] at this, ⟨h.wf.cells, h.wf.cin, h.wf.seed⟩, h.stSet _ _, h.sin, h.len⟩
/-- Another stack in the machine's field. -/
theorem Rw.setSt (h : Rw w g fr i0 i1 zs q sv) {ys : List Int} {v : Value} (hs : Os w (g + 1) v ys) (hi : ∀ x ∈ ys, In32 x) (hl : ys.length ≤ 32) : Rw (w.setCell ⟨g, 22, none⟩ v) g fr i0 i1 ys q v :=
  ⟨by have := h.row.set (17 + 5) v; rwa [setD_end h.wf 5] at this, h.wf, hs.keep fun k hk _ => Below.heap_setCell _ _ _ _ (fun e => by have := (World.ownsRow.lt hs k hk).1; simp only at e; omega), hi, hl⟩
theorem run_append_os (w : World) (base : Nat) (ty : TypeId) (v : Value) (xs : List Int) (hown : Os w base v xs) (b : Nat) (z : Int) (hb : w.cell? ⟨b, 0, none⟩ = some (.int .i32 z)) (h63 : xs.length ≤ 1000) (hbase : base ≤ w.heap.size) :
    ∃ ao cap w', (Builtin.append_ #[64, 64] ty #[v, .slice (some ⟨b, 0, none⟩) 1 1]).run Try.prog w = .ok (.slice ao (xs.length + 1) cap) w' ∧ Os w' base (.slice ao (xs.length + 1) cap) (xs ++ [z]) ∧ w.grownBy w' v.ownBlock := by
  obtain ⟨i0, hi, hz0, hz1, hz2⟩ := info_parts Try.info21
  obtain ⟨v', w', hr, h2, h3, _, _⟩ := run_append_own_at (P := Try.prog) w base 64 ty 21 i0 (.int .i32 0) 1 4 Try.underlying64 hi hz0 hz1 hz2 rfl (by decide) v xs.length (xs.map (Value.int .i32)) hown ⟨b, 0, none⟩ 1 1 [.int .i32 z] rfl
    (by intro j y hy
        cases j with
        | zero => rw [Addr.add_lit]; simp at hy; subst hy; exact hb
        | succ j => simp at hy) (by intro y hy; simp at hy; subst hy; rfl) (by unfold maxLen; omega) (by omega) hbase
  have h2' : Os w' base v' (xs ++ [z]) := by
    unfold Os
    simpa using h2
  obtain ⟨ao, cap, rfl, _⟩ := h2'.form
  rw [List.length_append] at hr h2'
  exact ⟨ao, cap, w', hr, h2', h3⟩
theorem wpList_append_os (w : World) {ops : Array Oper} {rest : List Oper} {o : Oper} {a : Act} {Q : Exit → Act → World → Prop} (hgd : o.guard = none) (s x : Operand)
    (ho : o.op = .call { callee := .builtin .append, args := #[s, x], argTypes := #[64, 64] })
    (base : Nat) (v : Value) (xs : List Int) (hs : a.eval s = v) (hown : Os w base v xs) (b : Nat) (z : Int) (hx : a.eval x = .slice (some ⟨b, 0, none⟩) 1 1) (hb : w.cell? ⟨b, 0, none⟩ = some (.int .i32 z)) (h63 : xs.length ≤ 1000) (hbase : base ≤ w.heap.size)
    (h : ∀ ao cap w', Os w' base (.slice ao (xs.length + 1) cap) (xs ++ [z]) → w.grownBy w' v.ownBlock → wpList Try.prog ops Q rest (a.put o.dst (.slice ao (xs.length + 1) cap)) w') : wpList Try.prog ops Q (o :: rest) a w := by
  obtain ⟨ao, cap, w', hr, h2, h3⟩ := run_append_os w base o.type v xs hown b z hb h63 hbase
  refine wpList_plain hgd fun _ hK => ?_
  unfold Oper.wp execOp
  simp only [ho, resolve, invoke, builtin, Sem.run_bind, Sem.run_pure, Result.andThen_ok, List.map_toArray, List.map_cons, List.map_nil, hs, hx, hr]
  exact hK _ _ (h ao cap w' h2 h3)
/-- All blocks from g on may have changed. -/
abbrev Ge (g : Nat) (w w' : World) : Prop := Below g w w'
set_option maxHeartbeats 1000000 in
theorem rpush_room (v : Int) (hv : In32 v) (h : Rw w g fr i0 i1 zs q sv) (hl : zs.length < 32) :
    Calls Try.prog 51 #[.pointer (some ⟨g, 0, none⟩), .int .i32 v] w fun e w' => e = .returned (.tuple #[]) ∧ ∃ sv', Rw w' g fr i0 i1 (zs ++ [v]) q sv' ∧ Below g w w' := by
  obtain ⟨ao, cap, hsv, hc1, hc2⟩ := h.st.form
  have H := hid_into h
  have c1 := h.slice
  have hgl := h.lt
  have hl' : (zs.length : Int) < 32 := by omega
  rw [hsv] at c1
  subst hsv
  clear h
  go_enter Try.func51, Try.ntmps51
  go_wp2_with (refine wpList_append_os _ rfl (.tmp 17) (.tmp 19) rfl (g + 1) _ zs rfl ?_ w.heap.size v rfl ?_ (by omega) (by rw [World.size_alloc]; omega) ?_; exact H.out.st.keep (fun k _ hk => Below.heap_alloc _ _ _ hk); exact (Cw.new w [.int .i32 v] 21).cell 0; intro ao2 cap2 W2 hown2 hgr2; have hrow2 : Cw W2 g (rowD fr i0 i1 (.slice ao zs.length cap) q) 66 := (H.out.row.alloc _).keep (hgr2.block _ (by rw [World.size_alloc]; omega) (fun e => H.out.own g e.symm rfl)); have c22 : W2.cell? ⟨g, 22, none⟩ = some (.slice ao zs.length cap) := (hrow2.cell _).trans (getD_end H.out.wf 5); have f22 := hrow2.frozen 22; have hB2 : Below g w W2 := ((Below.refl g w).alloc (by omega) _).trans (Grows.below (Grows.grownBy hgr2 (F := fun k => g ≤ k) (fun k e => by have := (World.ownsRow.lt H.out.st k e).1; omega)) (by rw [World.size_alloc]; omega) (fun k hk => hk)); have hR2 := hid_into (And.intro hrow2 (And.intro hown2 hB2)); clear hrow2 hown2 hB2 hgr2)
  go_end0
  refine ⟨rfl, .slice ao2 (zs.length + 1) cap2, ⟨?_, H.out.wf, ?_, ?_, by simp; omega⟩, hR2.out.2.2.trans ((Only.set _ _ _ _).below (Nat.le_refl _))⟩
  · have := hR2.out.1.set (17 + 5) (.slice ao2 (zs.length + 1) cap2)
    rwa [setD_end H.out.wf 5] at this
  · exact hR2.out.2.1.keep fun k hk _ => Below.heap_setCell _ _ _ _ (show k ≠ g by have := (World.ownsRow.lt hR2.out.2.1 k hk).1; omega)
  · intro x hx
    rcases List.mem_append.1 hx with hx | hx
    · exact H.out.sin x hx
    · simp only [List.mem_cons, List.not_mem_nil, or_false] at hx; subst hx; exact hv
set_option maxHeartbeats 1000000 in
theorem rpush_full (v : Int) (h : Rw w g fr i0 i1 zs q sv) (hl : zs.length = 32) :
    Calls Try.prog 51 #[.pointer (some ⟨g, 0, none⟩), .int .i32 v] w fun e w' => e = .returned (.tuple #[]) ∧ Rw w' g fr i0 i1 zs { q with bad := true } sv ∧ Below g w w' := by
  obtain ⟨ao, cap, hsv, hc1, hc2⟩ := h.st.form
  have H := hid_into (h.setBad true)
  have c1 := h.slice
  have c2 := h.bad
  have f2 := h.row.frozen 25
  rw [hsv, hl] at c1
  clear h hl hc1
  go_enter Try.func51, Try.ntmps51
  go_wp2
  exact bodyPost_ret (results_none rfl _ _ _) rfl ⟨rfl, H.out, (Only.set _ _ _ _).below (Nat.le_refl _)⟩
theorem Os.cell {base : Nat} {gb cap n : Nat} (h : Os w base (.slice (some ⟨gb, 0, none⟩) n cap) zs) (i : Nat) (hi : i < zs.length) : w.cell? ⟨gb, i, none⟩ = some (.int .i32 (zs.getD i 0)) := by
  have := World.ownsRow.cells h (g := gb) rfl i (.int .i32 (zs.getD i 0)) (by simp [List.getD, hi])
  simpa [Addr.add_lit] using this
theorem Os.init {base n cap gb : Nat} {ys : List Int} {z : Int} (h : Os w base (.slice (some ⟨gb, 0, none⟩) n cap) (ys ++ [z])) : Os w base (.slice (some ⟨gb, 0, none⟩) ys.length cap) ys := by
  refine ⟨by simp, Or.inr ?_⟩
  rcases h.2 with ⟨h3, _⟩ | ⟨g', cap', cur, h3, h4, h5, h6, h7, h8, h9⟩
  · cases h3
  · simp only [Value.slice.injEq, Option.some.injEq, Addr.mk.injEq] at h3
    obtain ⟨⟨rfl, -⟩, -, rfl⟩ := h3
    refine ⟨gb, cap, cur, rfl, h4, h5, by simp at h6; omega, h7, h8, ?_⟩
    simp only [List.length_append, List.length_cons, List.length_nil, List.map_append, List.map_cons, List.map_nil, Nat.mul_one] at h9 ⊢
    have h10 := congrArg (List.take ys.length) h9
    rw [List.take_take] at h10
    rw [show min ys.length (ys.length + (0 + 1)) = ys.length by omega] at h10
    rw [h10]
    simp
set_option maxHeartbeats 1000000 in
theorem rpop_some (ys : List Int) (z : Int) (h : Rw w g fr i0 i1 (ys ++ [z]) q sv) :
    Calls Try.prog 52 #[.pointer (some ⟨g, 0, none⟩)] w fun e w' => e = .returned (.int .i32 z) ∧ ∃ sv', Rw w' g fr i0 i1 ys q sv' ∧ Only g w w' := by
  obtain ⟨ao, cap, hsv, hc1, hc2⟩ := h.st.form
  have hlen := h.len
  have hst := h.st
  rw [hsv] at hst
  obtain ⟨gb, rfl⟩ : ∃ gb, ao = some ⟨gb, 0, none⟩ := by
    rcases hst.2 with ⟨h3, h0⟩ | ⟨g', cap', cur, h3, _⟩
    · simp at h0
    · simp only [Value.slice.injEq] at h3; exact ⟨g', h3.1⟩
  have c1 := h.slice
  rw [hsv] at c1
  have c2 := hst.cell ys.length (by simp)
  rw [show (ys ++ [z]).getD ys.length 0 = z by simp [List.getD]] at c2
  have f1 := h.row.frozen 22
  have H := hid_into (h.setSt hst.init (fun x hx => h.sin x (by simp [hx])) (by simp at hlen; omega))
  simp only [List.length_append, List.length_cons, List.length_nil] at c1 hc1 hlen
  have hcap : ys.length + 1 ≤ cap := by omega
  unfold maxLen at hc2
  have n0 : ¬ ((ys.length : Int) + 1 = 0) := by omega
  have hgb : gb ≠ g := h.own gb (by rw [hsv]; rfl)
  clear h hst hsv
  generalize ys.length = n at c1 c2 H hc1 hlen hcap n0
  go_enter Try.func52, Try.ntmps52
  go_wp2_with fail
  go_ret
  exact ⟨rfl, _, H.out, Only.set _ _ _ _⟩
end Go.Proofs.Ytlknolbfhfcflaa
