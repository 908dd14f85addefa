/-
  DiskPlays: the document's Write: laws for rows of files, what it refuses.
-/
import Derived.Test.YthkgmnmdojmfgaaPlayCut
namespace Go.Proofs.Ythkgmnmdojmfgaa
open Go.RowKit Go.Maps Go.Sort

theorem run_slice_hi3 (w : World) (base : Nat) (v : Value) (L : List Fl3) (hv : O3 w base v L) (k : Nat) (hk : k ≤ L.length) : ∃ u, (Instr.slice 63 v none (some (.int .i64 (k : Int))) none).run Try.prog w = .ok u w ∧ B3 w u (L.take k) := by
  obtain ⟨i0, hi, hz0, hz1, hz2⟩ := info_parts Try.info71p
  have hsz : ∀ W : World, (sizeOf 71).run Try.prog W = .ok 3 W := fun W => by simp [sizeOf, typeInfo, hi, hz1]
  have hb3 := hv.b3
  rcases hv.2 with ⟨rfl, h0⟩ | ⟨g, cap, cur, rfl, _, _, hn, _⟩
  · have hk0 : k = 0 := by omega
    subst hk0
    refine ⟨.slice none 0 0, ?_, Or.inl ⟨rfl, none, 0, rfl, fun _ => rfl⟩⟩
    simp [Instr.slice, run_underlying Try.underlying63, Instr.sliceBounds, Instr.sliceBound, asIntOf, hsz]
  · refine ⟨.slice (some ⟨g, 0, none⟩) k cap, ?_, hb3.take k hk⟩
    have h1 : k ≤ cap := by omega
    simp [Instr.slice, run_underlying Try.underlying63, Instr.sliceBounds, Instr.sliceBound, asIntOf, hsz, h1, Addr.add_lit]
theorem run_slice_lo3 (w : World) (base : Nat) (v : Value) (L : List Fl3) (hv : O3 w base v L) (k : Nat) (hk : k ≤ L.length) : ∃ u, (Instr.slice 63 v (some (.int .i64 (k : Int))) none none).run Try.prog w = .ok u w ∧ B3 w u (L.drop k) := by
  obtain ⟨i0, hi, hz0, hz1, hz2⟩ := info_parts Try.info71p
  have hsz : ∀ W : World, (sizeOf 71).run Try.prog W = .ok 3 W := fun W => by simp [sizeOf, typeInfo, hi, hz1]
  have hb3 := hv.b3
  rcases hv.2 with ⟨rfl, h0⟩ | ⟨g, cap, cur, rfl, _, _, hn, _⟩
  · have hk0 : k = 0 := by omega
    have hL : L = [] := List.eq_nil_of_length_eq_zero h0
    subst hk0
    subst hL
    refine ⟨.slice none 0 0, ?_, Or.inl ⟨rfl, none, 0, rfl, fun _ => rfl⟩⟩
    simp [Instr.slice, run_underlying Try.underlying63, Instr.sliceBounds, Instr.sliceBound, asIntOf, hsz]
  · obtain ⟨off, ho, hr⟩ := slice_lo3 g L.length cap k (k : Int) rfl hk hn
    exact ⟨_, hr w, hb3.drop k hk off _ ho⟩
theorem wpList_slice_hi3 (w : World) {ops : Array Oper} {rest : List Oper} {o : Oper} {a : Act} {Q : Exit → Act → World → Prop} (hgd : o.guard = none) (x hi : Operand) (ho : o.op = .slice 63 x none (some hi) none)
    (base : Nat) (v : Value) (L : List Fl3) (hx : a.eval x = v) (hv : O3 w base v L) (k : Nat) (hh : a.eval hi = .int .i64 (k : Int)) (hk : k ≤ L.length)
    (h : ∀ u, B3 w u (L.take k) → wpList Try.prog ops Q rest (a.put o.dst u) w) : wpList Try.prog ops Q (o :: rest) a w := by
  obtain ⟨u, hr, hb⟩ := run_slice_hi3 w base v L hv k hk
  refine wpList_plain hgd fun _ hK => ?_
  unfold Oper.wp execOp
  simp only [ho, Option.map_some, Option.map_none, Sem.run_bind, Instr.sliceAt, run_underlying Try.underlying63, hx, hh, hr, Result.andThen_ok, Sem.run_pure]
  exact hK _ _ (h u hb)
theorem wpList_slice_lo3 (w : World) {ops : Array Oper} {rest : List Oper} {o : Oper} {a : Act} {Q : Exit → Act → World → Prop} (hgd : o.guard = none) (x lo : Operand) (ho : o.op = .slice 63 x (some lo) none none)
    (base : Nat) (v : Value) (L : List Fl3) (hx : a.eval x = v) (hv : O3 w base v L) (k : Nat) (hh : a.eval lo = .int .i64 (k : Int)) (hk : k ≤ L.length)
    (h : ∀ u, B3 w u (L.drop k) → wpList Try.prog ops Q rest (a.put o.dst u) w) : wpList Try.prog ops Q (o :: rest) a w := by
  obtain ⟨u, hr, hb⟩ := run_slice_lo3 w base v L hv k hk
  refine wpList_plain hgd fun _ hK => ?_
  unfold Oper.wp execOp
  simp only [ho, Option.map_some, Option.map_none, Sem.run_bind, Instr.sliceAt, run_underlying Try.underlying63, hx, hh, hr, Result.andThen_ok, Sem.run_pure]
  exact hK _ _ (h u hb)
theorem mk_row1 (W : World) (s : ByteArray) (ao : Option Addr) (n c : Nat) (l : Int) : (Instr.buildSlice 63 1 #[(0, .agg #[.string s, .slice ao n c, .int .i64 l])]).run Try.prog W = .ok (.slice (some ⟨W.heap.size, 0, none⟩) 1 1) (W.alloc (.cells #[.string s, .slice ao n c, .int .i64 l] 71)) := by kernel_rfl
theorem wpList_made_row3 (w : World) {ops : Array Oper} {rest : List Oper} {o : Oper} {a : Act} {Q : Exit → Act → World → Prop} (hgd : o.guard = none) (x : Operand) (ho : o.op = .buildSlice 63 1 #[(0, x)]) (s : List UInt8) (ao : Option Addr) (n c : Nat) (l : Int) (hx : a.eval x = .agg #[encStr s, .slice ao n c, .int .i64 l])
    (h : wpList Try.prog ops Q rest (a.put o.dst (.slice (some ⟨w.heap.size, 0, none⟩) 1 1)) (w.alloc (.cells #[encStr s, .slice ao n c, .int .i64 l] 71))) : wpList Try.prog ops Q (o :: rest) a w := by
  refine wpList_plain hgd fun _ hK => ?_
  unfold Oper.wp execOp
  simp only [ho, Sem.run_bind, List.map_toArray, List.map_cons, List.map_nil, hx, mk_row1, Result.andThen_ok]
  exact hK _ _ h
theorem made_b3 (w : World) (f : Fl3) (ao : Option Addr) (n c : Nat) (hf : f.v = .slice ao n c) : B3 (w.alloc (.cells #[encStr f.nm, .slice ao n c, .int .i64 (f.l : Int)] 71)) (.slice (some ⟨w.heap.size, 0, none⟩) 1 1) [f] := by
  refine Or.inr ⟨w.heap.size, 0, 1, rfl, fun j u hu => ?_⟩
  rw [cell_of_row _ _ _ _ _ _ (heap_alloc_new w _)]
  simpa [cells3, Fl3.cells, hf] using hu
theorem cells3_setB (L : List Fl3) (k : Nat) (f : Fl3) (v' : Value) (zs' : List Int) (h : L[k]? = some f) : cells3 (L.set k ⟨f.nm, v', zs', f.l⟩) = (cells3 L).set (k * 3 + 1) v' := by
  rw [cells3_setF L k f ⟨f.nm, v', zs', f.l⟩ h rfl]
  have h2 := cells3_get L k 2 f h (by omega)
  simp only [Fl3.cells, List.getElem?_cons_succ, List.getElem?_cons_zero] at h2
  have h3 : ((cells3 L).set (k * 3 + 1) v')[k * 3 + 2]? = some (.int .i64 (f.l : Int)) := by
    rw [List.getElem?_set_ne (by omega)]; exact h2
  obtain ⟨hi, e⟩ := List.getElem?_eq_some_iff.1 h3
  rw [← e, List.set_getElem_self]
/-- File k gets other bytes, in new memory. -/
theorem Rk.setB {w : World} {base wb g cap : Nat} {room left : Int} {L : List Fl3} {k : Nat} {f : Fl3} {v' : Value} {zs' : List Int} (h : Rk w base wb (.slice (some ⟨g, 0, none⟩) L.length cap) room left L) (hf : L[k]? = some f) (ho : Ow w base v' zs') (hz : ∀ z ∈ zs', 0 ≤ z ∧ z < 256) (hn : f.l ≤ zs'.length) (hv : ∀ b, v'.ownBlock = some b → b ≠ wb ∧ b ≠ g) :
    Rk (w.setCell ⟨g, k * 3 + 1, none⟩ v') base wb (.slice (some ⟨g, 0, none⟩) (L.set k ⟨f.nm, v', zs', f.l⟩).length cap) room left (L.set k ⟨f.nm, v', zs', f.l⟩) := by
  have hgw : g ≠ wb := fun e => h.sep (by simp [Value.ownBlock]; exact e)
  refine ⟨?_, ?_, ?_, by simpa using h.few, h.wbb, by simpa [Value.ownBlock] using hgw⟩
  · rw [List.length_set]
    have := h.blk
    unfold Cw at this ⊢
    rw [Below.heap_setCell _ _ _ _ (fun e => hgw e.symm)]
    exact this
  · rw [cells3_setB L k f v' zs' hf, List.length_set]
    exact ownsRow_set h.row _ _
  · intro q hq
    rcases List.mem_or_eq_of_mem_set hq with hm | rfl
    · obtain ⟨h1, h2, h3, h4⟩ := h.each q hm
      exact ⟨ownsRow_other h1 g _ _ (fun e => (h4 g e).2 (by simp [Value.ownBlock])), h2, h3, fun b hb => ⟨(h4 b hb).1, by simpa [Value.ownBlock] using (h4 b hb).2⟩⟩
    · refine ⟨ownsRow_other ho g _ _ (fun e => (hv g e).2 rfl), hz, hn, fun b hb => ⟨(hv b hb).1, ?_⟩⟩
      have := (hv b hb).2
      simp [Value.ownBlock]
      exact fun e => this e.symm
set_option maxHeartbeats 3200000 in
set_option maxRecDepth 20000 in
theorem write3_may (base wb : Nat) (v : Value) (room left : Int) (L : List Fl3) (x : List UInt8) (ap : Option Addr) (cp : Nat) (ps : List Int) (w : World) (h : Rk w base wb v room left L) (hm : mayE left [x] ≠ 0) (hxl : x.length ≤ 140737488355328) :
    Calls Try.prog 35 #[.pointer (some ⟨wb, 0, none⟩), encStr x, .slice ap ps.length cp] w fun e w' => e = .returned (.int .i64 (mayE left [x])) ∧ Below w.heap.size w w' := by
  have hA : Below w.heap.size w (w.alloc (.cells #[encStr x] 9)) := (Below.refl _ _).alloc (Nat.le_refl _) _
  have hr := h.below hA
  have hxs : ∀ n ∈ [x], n.length ≤ 140737488355328 := by
    intro n hn
    have e : n = x := by simpa using hn
    rw [e]; exact hxl
  have hxc := one_str w x
  have C1 := may_any wb w.heap.size 1 room _ left [x] _ hr.blk (by simp) hxs hxc
  generalize mayE left [x] = er at *
  have hm' : (er != 0) = true := by simpa using hm
  go_enter Try.func35, Try.ntmps35
  go_wp2_with (first | (refine wpList_made_str _ rfl (.tmp 12) rfl x rfl ?_) | (go_at_call 58; refine C1.mono ?_; rintro e w1 ⟨rfl, rfl⟩))
  go_ret
  exact ⟨rfl, hA⟩
set_option maxHeartbeats 3200000 in
set_option maxRecDepth 20000 in
theorem write3_full (base wb : Nat) (v : Value) (room left : Int) (L : List Fl3) (x : List UInt8) (ap : Option Addr) (cp : Nat) (ps : List Int) (w : World) (h : Rk w base wb v room left L) (hm : mayE left [x] = 0) (hxl : x.length ≤ 140737488355328) (hT : tot3 L ≤ 1099511627776) (hp : ps.length ≤ 140737488355328)
    (hfull : room < (tot3 L : Int) + (ps.length : Int) ∨ ((names3 L)[spotN (names3 L) x]? ≠ some x ∧ 4096 ≤ L.length)) :
    Calls Try.prog 35 #[.pointer (some ⟨wb, 0, none⟩), encStr x, .slice ap ps.length cp] w fun e w' => e = .returned (.int .i64 6) ∧ Below w.heap.size w w' := by
  have hA : Below w.heap.size w (w.alloc (.cells #[encStr x] 9)) := (Below.refl _ _).alloc (Nat.le_refl _) _
  have hr := h.below hA
  have hxs : ∀ n ∈ [x], n.length ≤ 140737488355328 := by
    intro n hn
    have e : n = x := by simpa using hn
    rw [e]; exact hxl
  have hxc := one_str w x
  have C1 := may_any wb w.heap.size 1 room _ left [x] _ hr.blk (by simp) hxs hxc
  rw [hm] at C1
  have C2 := spot_any base wb _ room left L x _ hr
  have few := h.few
  have CU := fun (W : World) (hW : Rk W base wb v room left L) => used_any base wb v room left L W hW hT
  have hv : ∃ ao cap, v = .slice ao L.length cap := by
    rcases h.shape with ⟨rfl, rfl⟩ | ⟨g, cap, rfl, _⟩
    · exact ⟨none, 0, rfl⟩
    · exact ⟨_, cap, rfl⟩
  obtain ⟨av, cv, rfl⟩ := hv
  have q1 : IntKind.i64.wrap ((tot3 L : Int) + (ps.length : Int)) = (tot3 L : Int) + (ps.length : Int) := by rw [IntKind.wrap_i64]; omega
  by_cases hbig : room < (tot3 L : Int) + (ps.length : Int)
  · clear hfull
    have g1 : decide ((tot3 L : Int) + (ps.length : Int) > room) = true := by rw [decide_eq_true_eq]; omega
    generalize decide ((names3 L)[spotN (names3 L) x]? = some x) = is at C2
    generalize spotN (names3 L) x = k at *
    generalize tot3 L = tt at *
    go_enter Try.func35, Try.ntmps35
    go_wp2_with (first | (refine wpList_made_str _ rfl (.tmp 12) rfl x rfl ?_) | (go_at_call 58; refine C1.mono ?_; rintro e w1 ⟨rfl, rfl⟩) | (go_at_call 59; refine C2.mono ?_; rintro e w2 ⟨rfl, hs⟩; have h2 := hr.sm hs; have hcb := h2.blk.cell 1; simp at hcb; have hcr := h2.blk.cell 0; simp at hcr))
    go_quiet ((go_at_call 46; refine Calls.quiet_of_same ((CU _ (h2.sm (Sm.drewN _ _))).mono fun _ _ h => ⟨h.1, h.2.symm⟩)))
    go_wp2_with fail
    go_ret
    exact ⟨rfl, hA.trans ((hs.trans (Sm.drewN _ _)).below _)⟩
  · have hfull2 : (names3 L)[spotN (names3 L) x]? ≠ some x ∧ 4096 ≤ L.length := by
      rcases hfull with e | e
      · exact absurd e hbig
      · exact e
    clear hfull
    have g1 : decide ((tot3 L : Int) + (ps.length : Int) > room) = false := by rw [decide_eq_false_iff_not]; omega
    rw [decide_eq_false hfull2.1] at C2
    have g2 : (4096 : Int) ≤ (L.length : Int) := by have := hfull2.2; omega
    clear hfull2
    generalize spotN (names3 L) x = k at *
    generalize tot3 L = tt at *
    go_enter Try.func35, Try.ntmps35
    go_wp2_with (first | (refine wpList_made_str _ rfl (.tmp 12) rfl x rfl ?_) | (go_at_call 58; refine C1.mono ?_; rintro e w1 ⟨rfl, rfl⟩) | (go_at_call 59; refine C2.mono ?_; rintro e w2 ⟨rfl, hs⟩; have h2 := hr.sm hs; have hcb := h2.blk.cell 1; simp at hcb; have hcr := h2.blk.cell 0; simp at hcr))
    go_quiet ((go_at_call 46; refine Calls.quiet_of_same ((CU _ (h2.sm (Sm.drewN _ _))).mono fun _ _ h => ⟨h.1, h.2.symm⟩)))
    go_wp2_with fail
    go_ret
    exact ⟨rfl, hA.trans ((hs.trans (Sm.drewN _ _)).below _)⟩
end Go.Proofs.Ythkgmnmdojmfgaa
