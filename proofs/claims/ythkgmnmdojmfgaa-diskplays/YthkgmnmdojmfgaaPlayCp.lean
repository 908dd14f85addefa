/-
  DiskPlays: the document's Copy, by contract.
-/
import Derived.Test.YthkgmnmdojmfgaaPlayCr
namespace Go.Proofs.Ythkgmnmdojmfgaa
open Go.RowKit Go.Maps Go.Sort

set_option maxHeartbeats 800000 in
theorem crash3_nil (base wb : Nat) (room left : Int) (keep : Int) (t : Value) (w : World) (h : Rk w base wb (.slice none 0 0) room left []) :
    Calls Try.prog 43 #[.pointer (some ⟨wb, 0, none⟩), .int .i64 keep, t] w fun e w' => e = .returned (.tuple #[]) ∧ Rk w' base wb (.slice none 0 0) room (-1) [] ∧ Rg w wb (.slice none 0 0) w' := by
  have hcb := h.blk.cell 1
  simp at hcb
  have hc2 := h.blk.cell 2
  simp at hc2
  have hfz := h.blk.frozen 2
  have HL := hid_into (h.setF (left' := -1))
  have HG : Hid (Rg w wb (.slice none 0 0) (w.setCell ⟨wb, 2, none⟩ (.int .i64 (-1)))) := (Rg.of_below (Below.refl _ _)).set wb 2 _ (Or.inl rfl)
  clear h
  go_enter Try.func43, Try.ntmps43
  go_wp2
  go_loop [6] (fun i => i = .int .i64 0) (fun _ => 0)
  case atStart => rfl
  case round =>
    obtain rfl := hrel
    go_wp2_with fail
    go_end0
    exact ⟨rfl, HL.out, HG.out⟩
theorem wp_made_row3 {o : Oper} {a : Act} {w : World} {K : Act → World → Prop} {Q : Exit → Act → World → Prop} (x : Operand) (ho : o.op = .buildSlice 63 1 #[(0, x)]) (s : List UInt8) (ao : Option Addr) (n c : Nat) (l : Int) (hx : a.eval x = .agg #[encStr s, .slice ao n c, .int .i64 l])
    (h : K (a.put o.dst (.slice (some ⟨w.heap.size, 0, none⟩) 1 1)) (w.alloc (.cells #[encStr s, .slice ao n c, .int .i64 l] 71))) : Oper.wp Try.prog o a w K Q := by
  unfold Oper.wp execOp
  simp only [ho, Sem.run_bind, List.map_toArray, List.map_cons, List.map_nil, hx, mk_row1, Result.andThen_ok]
  exact h
/-- What is held in the middle of a copy. -/
structure Cp3 (w : World) (room : Int) (L : List Fl3) (k : Nat) (vO : Value) (LO : List Fl3) (wr : World) : Prop where
  rk : Rk wr w.heap.size w.heap.size vO room (-1) LO
  ab : abs3 LO = (abs3 L).take k
  bel : Below w.heap.size w wr
set_option maxHeartbeats 6400000 in
set_option maxRecDepth 20000 in
theorem copy3_any (base wb : Nat) (v : Value) (room left : Int) (L : List Fl3) (w : World) (h : Rk w base wb v room left L) (hz : ∀ f ∈ L, f.zs.length ≤ 1073741824) :
    Calls Try.prog 14 #[.pointer (some ⟨wb, 0, none⟩)] w fun e w' => e = .returned (.pointer (some ⟨w.heap.size, 0, none⟩)) ∧ ∃ vO LO, Rk w' w.heap.size w.heap.size vO room (-1) LO ∧ abs3 LO = abs3 L ∧ Below w.heap.size w w' := by
  have few := h.few
  have hv : ∃ ao cap, v = .slice ao L.length cap := by
    rcases h.shape with ⟨rfl, rfl⟩ | ⟨g, cap, rfl, _⟩
    · exact ⟨none, 0, rfl⟩
    · exact ⟨_, cap, rfl⟩
  obtain ⟨av, cv, rfl⟩ := hv
  have hcr := h.blk.cell 0
  simp at hcr
  have hwlt := h.lt
  have hr0 : Rk (w.alloc (.cells #[.int .i64 room, .slice none 0 0, .int .i64 (-1)] 65)) w.heap.size w.heap.size (.slice none 0 0) room (-1) [] :=
    ⟨Cw.new w _ 65, World.ownsRow_nil _ _ _ _, fun f hf => (by cases hf), by simp, Nat.le_refl _, by simp [Value.ownBlock]⟩
  have hB0 : Below w.heap.size w (w.alloc (.cells #[.int .i64 room, .slice none 0 0, .int .i64 (-1)] 65)) := (Below.refl _ _).alloc (Nat.le_refl _) _
  have HS : Hid (Cp3 w room L 0 (.slice none 0 0) [] (w.alloc (.cells #[.int .i64 room, .slice none 0 0, .int .i64 (-1)] 65))) := ⟨hr0, rfl, hB0⟩
  have HZ := hid_into hz
  have HH := hid_into h
  clear hr0 hB0 hz h
  go_enter Try.func14, Try.ntmps14
  go_wp2
  go_loopw [4, 5] (fun iv _ wr => ∃ k vO LO, k ≤ L.length ∧ iv = .int .i64 ((k : Nat) : Int) ∧ Cp3 w room L k vO LO wr) (fun iv _ _ => L.length - (intOf iv).toNat)
  case atStart => exact ⟨0, _, _, Nat.zero_le _, rfl, HS.out⟩
  case round =>
    clear HS
    obtain ⟨k, vO, LO, hk, rfl, hc⟩ := hrel
    have hrL := HH.out.below hc.bel
    have hcb := hrL.blk.cell 1
    simp at hcb
    by_cases hlt : k < L.length
    · obtain ⟨f, hf⟩ : ∃ f, L[k]? = some f := ⟨_, List.getElem?_eq_getElem hlt⟩
      have hzf := HZ.out f (List.mem_of_getElem? hf)
      have hfl := hrL.each f (List.mem_of_getElem? hf)
      obtain ⟨af, cf, ef, _⟩ := hfl.1.form
      obtain ⟨g, hg⟩ : ∃ g, av = some ⟨g, 0, none⟩ := by
        rcases hrL.shape with ⟨_, e⟩ | ⟨g, c5, e, _⟩
        · rw [e] at hlt; simp at hlt
        · simp only [Value.slice.injEq] at e
          exact ⟨g, e.1⟩
      subst hg
      have hat := hrL.at k f hf
      have hcn := hat.1
      have hcf := hat.2.1
      have hcl := hat.2.2
      have hof := hfl.1
      rw [ef] at hcf hof
      have f1 : (0 : Int) ≤ (k : Int) := by omega
      have f2 : (k : Int) < (L.length : Int) := by omega
      have hA5 : Below wr.heap.size wr (wr.alloc (.cells #[encStr f.nm, .slice af f.zs.length cf, .int .i64 (f.l : Int)] 71)) := (Below.refl _ _).alloc (Nat.le_refl _) _
      have hA6 : Below wr.heap.size wr ((wr.alloc (.cells #[encStr f.nm, .slice af f.zs.length cf, .int .i64 (f.l : Int)] 71)).alloc (.cells #[] 5)) := hA5.alloc (by simp) _
      have hO6 : Ow ((wr.alloc (.cells #[encStr f.nm, .slice af f.zs.length cf, .int .i64 (f.l : Int)] 71)).alloc (.cells #[] 5)) (wr.heap.size + 1) (.slice (some ⟨wr.heap.size + 1, 0, none⟩) 0 0) [] := by
        have := Ow_of_block (w := (wr.alloc (.cells #[encStr f.nm, .slice af f.zs.length cf, .int .i64 (f.l : Int)] 71)).alloc (.cells #[] 5)) (B := wr.heap.size + 1) (base := wr.heap.size + 1) (zs := []) (by have := heap_alloc_new (wr.alloc (.cells #[encStr f.nm, .slice af f.zs.length cf, .int .i64 (f.l : Int)] 71)) (.cells #[] 5); simpa [cellsOf] using this) (by simp) (Nat.le_refl _)
        exact this
      have hw5 : Cw ((wr.alloc (.cells #[encStr f.nm, .slice af f.zs.length cf, .int .i64 (f.l : Int)] 71)).alloc (.cells #[] 5)) wr.heap.size [encStr f.nm, .slice af f.zs.length cf, .int .i64 (f.l : Int)] 71 := (Cw.new wr [encStr f.nm, .slice af f.zs.length cf, .int .i64 (f.l : Int)] 71).alloc _
      have hbf : Bs ((wr.alloc (.cells #[encStr f.nm, .slice af f.zs.length cf, .int .i64 (f.l : Int)] 71)).alloc (.cells #[] 5)) (.slice af f.zs.length cf) f.zs := hof.bs.below hA6 (Nat.le_refl _)
      obtain ⟨nm, hnm⟩ : ∃ nm, f.nm = nm := ⟨_, rfl⟩
      rw [hnm] at hcn hA5 hA6 hO6 hw5 hbf
      have HNM := hid_into hnm
      clear hnm hat
      go_wp2_with (at_builtin; refine wpList_append_bs _ rfl (.tmp 28) (.tmp 30) rfl (wr.heap.size + 1) (.slice (some ⟨wr.heap.size + 1, 0, none⟩) 0 0) [] rfl hO6 (.slice af f.zs.length cf) f.zs rfl hbf (by simp; omega) (by simp) ?_; intro ao7 cap7 w7 ho7 hg7 _; have hB7 : Below (wr.heap.size + 1) ((wr.alloc (.cells #[encStr nm, .slice af f.zs.length cf, .int .i64 (f.l : Int)] 71)).alloc (.cells #[] 5)) w7 := grown_below hg7 hO6 (by simp); have hw7 := hw5.below hB7 (by omega); have d0 := hw7.cell 0; have d1 := hw7.cell 1; have d2 := hw7.cell 2; simp at d0 d1 d2; have e1 := hw7.frozen 1; simp only [List.nil_append, List.length_nil, Nat.zero_add] at ho7 ⊢; clear hg7)
      have hB87 : Below wr.heap.size wr w7 := hA6.trans (hB7.mono (by omega))
      have hB8 : Below wr.heap.size wr (w7.setCell ⟨wr.heap.size, 1, none⟩ (.slice ao7 f.zs.length cap7)) := hB87.setCell (p := ⟨wr.heap.size, 1, none⟩) (Nat.le_refl _) _
      have hw8 : Cw (w7.setCell ⟨wr.heap.size, 1, none⟩ (.slice ao7 f.zs.length cap7)) wr.heap.size [encStr nm, .slice ao7 f.zs.length cap7, .int .i64 (f.l : Int)] 71 := hw7.set 1 _
      have hv7 : ∀ b, (Value.slice ao7 f.zs.length cap7).ownBlock = some b → wr.heap.size + 1 ≤ b := fun b hb => (World.ownsRow.lt ho7 b hb).1
      have ho8 : Ow (w7.setCell ⟨wr.heap.size, 1, none⟩ (.slice ao7 f.zs.length cap7)) (wr.heap.size + 1) (.slice ao7 f.zs.length cap7) f.zs := ownsRow_other ho7 _ _ _ (fun e => by have := hv7 _ e; omega)
      have hrkO := hc.rk.below hB8
      have hBw : Below w.heap.size w (w7.setCell ⟨wr.heap.size, 1, none⟩ (.slice ao7 f.zs.length cap7)) := hc.bel.trans (hB8.mono hc.bel.size)
      have habO := hc.ab
      have hwr0 := hc.rk.lt
      have hOlt : ∀ q, vO.ownBlock = some q → q < wr.heap.size := fun q hq => (World.ownsRow.lt hc.rk.row q hq).2
      have hfby := hfl.2.1
      have hfll := hfl.2.2.1
      have hab1 : (abs3 L)[k]? = some (nm, f.zs, f.l) := by rw [abs3_get, hf, ← HNM.out]; rfl
      have hszr := hB8.size
      clear hc hcb hcn hcf hcl hof hrL hbf hO6 hw5 hw7 d0 d1 d2 e1 hA5 hA6 hB7 hB87 ho7 hfl hB8
      generalize hR : wr.heap.size = R at *
      generalize w7.setCell ⟨R, 1, none⟩ (.slice ao7 f.zs.length cap7) = W at *
      obtain ⟨aO, cO, rfl⟩ : ∃ ao cap, vO = .slice ao LO.length cap := by
        rcases hrkO.shape with ⟨rfl, rfl⟩ | ⟨g, cap, rfl, _⟩
        · exact ⟨none, 0, rfl⟩
        · exact ⟨_, cap, rfl⟩
      have hlO : LO.length = k := by
        have e1 := congrArg List.length habO
        rw [abs3_len, List.length_take, abs3_len] at e1
        omega
      have hcO := hrkO.blk.cell 1
      simp at hcO
      have b0 := hw8.cell 0
      have b1 := hw8.cell 1
      have b2 := hw8.cell 2
      simp at b0 b1 b2
      have hWR := hw8.lt
      have hob := hrkO.lt
      have hA9 : Below W.heap.size W (W.alloc (.cells #[encStr nm, .slice ao7 f.zs.length cap7, .int .i64 (f.l : Int)] 71)) := (Below.refl _ _).alloc (Nat.le_refl _) _
      have hS : W.drew.cell? ⟨w.heap.size, 1, none⟩ = some (.slice aO LO.length cO) ∧ W.drew.cell? ⟨R, 0, none⟩ = some (encStr nm) ∧ W.drew.cell? ⟨R, 1, none⟩ = some (.slice ao7 f.zs.length cap7) ∧ W.drew.cell? ⟨R, 2, none⟩ = some (.int .i64 (f.l : Int)) := ⟨hcO, b0, b1, b2⟩
      have HLO := hid_into hlO
      clear hlO
      refine wp_region_L 10 (fun w' => w'.cell? ⟨w.heap.size, 1, none⟩ = some (.slice aO LO.length cO) ∧ w'.cell? ⟨R, 0, none⟩ = some (encStr nm) ∧ w'.cell? ⟨R, 1, none⟩ = some (.slice ao7 f.zs.length cap7) ∧ w'.cell? ⟨R, 2, none⟩ = some (.int .i64 (f.l : Int))) (by kernel_rfl) ?_
      refine' wpL_take 0 33 rfl rfl (by kernel_rfl) (by kernel_rfl) (by kernel_rfl) (by kernel_rfl) (fun _ _ _ h => h) (by rfl) hS ?y33 ?r33
      case y33 => (intro u hSu; obtain ⟨hSu1, hSu2, hSu3, hSu4⟩ := hSu; go_simp; try with_reducible rfl)
      simp only [Act.put, List.setIfInBounds_toArray, List.set_cons_zero, List.set_cons_succ]
      refine' wpL_take 1 34 rfl rfl (by kernel_rfl) (by kernel_rfl) (by kernel_rfl) (by kernel_rfl) (fun _ _ _ h => h) (by rfl) hS ?y34 ?r34
      case y34 => (intro u hSu; obtain ⟨hSu1, hSu2, hSu3, hSu4⟩ := hSu; go_simp; try with_reducible rfl)
      simp only [Act.put, List.setIfInBounds_toArray, List.set_cons_zero, List.set_cons_succ]
      refine' wpL_take 2 35 rfl rfl (by kernel_rfl) (by kernel_rfl) (by kernel_rfl) (by kernel_rfl) (fun _ _ _ h => h) (by rfl) hS ?y35 ?r35
      case y35 => (intro u hSu; obtain ⟨hSu1, hSu2, hSu3, hSu4⟩ := hSu; go_simp; try with_reducible rfl)
      simp only [Act.put, List.setIfInBounds_toArray, List.set_cons_zero, List.set_cons_succ]
      refine' wpL_take 3 36 rfl rfl (by kernel_rfl) (by kernel_rfl) (by kernel_rfl) (by kernel_rfl) (fun _ _ _ h => h) (by rfl) hS ?y36 ?r36
      case y36 => (intro u hSu; obtain ⟨hSu1, hSu2, hSu3, hSu4⟩ := hSu; go_simp; try with_reducible rfl)
      simp only [Act.put, List.setIfInBounds_toArray, List.set_cons_zero, List.set_cons_succ]
      refine' wpL_take 4 37 rfl rfl (by kernel_rfl) (by kernel_rfl) (by kernel_rfl) (by kernel_rfl) (fun _ _ _ h => h) (by rfl) hS ?y37 ?r37
      case y37 => (intro u hSu; obtain ⟨hSu1, hSu2, hSu3, hSu4⟩ := hSu; go_simp; try with_reducible rfl)
      simp only [Act.put, List.setIfInBounds_toArray, List.set_cons_zero, List.set_cons_succ]
      refine' wpL_take 5 38 rfl rfl (by kernel_rfl) (by kernel_rfl) (by kernel_rfl) (by kernel_rfl) (fun _ _ _ h => h) (by rfl) hS ?y38 ?r38
      case y38 => (intro u hSu; obtain ⟨hSu1, hSu2, hSu3, hSu4⟩ := hSu; go_simp; try with_reducible rfl)
      simp only [Act.put, List.setIfInBounds_toArray, List.set_cons_zero, List.set_cons_succ]
      refine wpL_one (i := 6) (by kernel_rfl) rfl (fun K hK => ?_)
      rw [if_pos (by rfl)]
      refine wp_made_row3 (.tmp 38) rfl nm ao7 f.zs.length cap7 (f.l : Int) rfl ?_
      refine hK.out _ _ (fun _ => ⟨by exact (hrkO.below hA9).blk.cell 1, by exact (hw8.alloc _).cell 0, by exact (hw8.alloc _).cell 1, by exact (hw8.alloc _).cell 2⟩) ?_
      change wpL Try.prog _ _ _ _ _ _ _ (Act.put _ (some 39) _) _
      simp only [Act.put, List.setIfInBounds_toArray, List.set_cons_zero, List.set_cons_succ]
      clear hK K
      refine wpL_one (i := 7) (by kernel_rfl) rfl (fun K hK => ?_)
      refine step_append_3 rfl (.tmp 37) (.tmp 39) rfl w.heap.size (.slice aO LO.length cO) LO rfl (by exact ownsRow_below hrkO.row hA9.drew) (.slice (some ⟨W.heap.size, 0, none⟩) 1 1) [⟨nm, .slice ao7 f.zs.length cap7, f.zs, f.l⟩] rfl (by exact made_b3 W ⟨nm, .slice ao7 f.zs.length cap7, f.zs, f.l⟩ ao7 f.zs.length cap7 rfl) (fun q hq => ⟨ao7, cap7, by simp at hq; rw [hq]⟩) (by have := HLO.out; simp; omega) (by simp; have := hBw.size; omega) ?_
      intro ao9 cap9 w9 ho9 hg9 hat9
      have hne : ∀ b, b < W.heap.size → (Value.slice aO LO.length cO).ownBlock ≠ some b → w9.heap[b]? = W.heap[b]? := fun b hb hne => (hg9.block b (by simp; omega) (fun e => hne e.symm)).trans (hA9.block b hb)
      have hrow9 : ∀ q, (Value.slice ao9 (LO.length + 1) cap9).ownBlock = some q → (Value.slice aO LO.length cO).ownBlock = some q ∨ W.heap.size ≤ q := fun q hq => by
        simp only [List.length_cons, List.length_nil, Nat.zero_add] at hat9
        rcases hat9 with e | e
        · rw [e] at hq; exact Or.inl hq
        · rw [e] at hq
          simp at hq
          exact Or.inr (by omega)
      have hc9 : Cw w9 w.heap.size [.int .i64 room, .slice aO LO.length cO, .int .i64 (-1)] 65 := hrkO.blk.keep (hne _ hob hrkO.sep)
      have hw9 : Cw w9 R [encStr nm, .slice ao7 f.zs.length cap7, .int .i64 (f.l : Int)] 71 := hw8.keep (hne _ hWR (fun e => by have := hOlt _ e; omega))
      have hc91 := hc9.cell 1
      simp at hc91
      have hc9z := hc9.frozen 1
      have hS9 : w9.cell? ⟨w.heap.size, 1, none⟩ = some (.slice aO LO.length cO) ∧ w9.cell? ⟨R, 0, none⟩ = some (encStr nm) ∧ w9.cell? ⟨R, 1, none⟩ = some (.slice ao7 f.zs.length cap7) ∧ w9.cell? ⟨R, 2, none⟩ = some (.int .i64 (f.l : Int)) := ⟨hc91, hw9.cell 0, hw9.cell 1, hw9.cell 2⟩
      refine hK.out _ _ (fun _ => hS9) ?_
      change wpL Try.prog _ _ _ _ _ _ _ (Act.put _ (some 40) _) _
      simp only [Act.put, List.setIfInBounds_toArray, List.set_cons_zero, List.set_cons_succ, List.length_cons, List.length_nil, Nat.zero_add] at ho9 ⊢
      clear hK K
      refine wpL_one (i := 8) (by kernel_rfl) rfl (fun K hK => ?_)
      rw [if_pos (by rfl)]
      go_simp
      refine hK.out _ _ (fun _ => hS9) ?_
      clear hK K
      refine wpL_one (i := 9) (by kernel_rfl) rfl (fun K hK => ?_)
      rw [if_pos (by rfl)]
      go_simp
      refine hK.out _ _ (fun _ => hS9) ?_
      clear hK K
      refine wpL_one (i := 10) (by kernel_rfl) rfl (fun K hK => ?_)
      rw [if_pos (by rfl)]
      go_simp
      refine hK.out _ _ (fun e => absurd rfl e) ?_
      clear hK K
      refine wpL_done (by kernel_rfl) ?_ _
      have hB9 : Below w.heap.size w w9 := by
        have k1 : Below w.heap.size W w9 := ⟨hg9.os, hg9.tape, hg9.output, by have := hg9.size; simp at this; omega, fun q hq => hne q (by have := hBw.size; omega) (fun e => by have := (World.ownsRow.lt hrkO.row q e).1; omega)⟩
        exact hBw.trans k1
      have HN : Hid (Cp3 w room L (k + 1) (.slice ao9 (LO.length + 1) cap9) (LO ++ [⟨nm, .slice ao7 f.zs.length cap7, f.zs, f.l⟩]) (w9.setCell ⟨w.heap.size, 1, none⟩ (.slice ao9 (LO.length + 1) cap9))) := by
        refine ⟨?_, ?_, hB9.setCell (p := ⟨w.heap.size, 1, none⟩) (Nat.le_refl _) _⟩
        · refine Rk.make hc9 ho9 (fun q hq => ?_) (by simp; have := HLO.out; omega) (Nat.le_refl _) (fun e => ?_)
          · rcases List.mem_append.1 hq with hq | hq
            · obtain ⟨k1, k2, k3, k4⟩ := hrkO.each q hq
              have hql : ∀ b, q.v.ownBlock = some b → b < W.heap.size := fun b hb => (World.ownsRow.lt k1 b hb).2
              refine ⟨?_, k2, k3, fun b hb => ⟨(k4 b hb).1, fun e => ?_⟩⟩
              · refine ⟨k1.1, ?_⟩
                rcases k1.2 with k5 | ⟨g', c', cur, e1, e2, e3, e4⟩
                · exact Or.inl k5
                · exact Or.inr ⟨g', c', cur, e1, e2, (hne g' (hql g' (by rw [e1]; rfl)) (k4 g' (by rw [e1]; rfl)).2).trans e3, e4⟩
              · rcases hrow9 b e with e5 | e5
                · exact (k4 b hb).2 e5
                · have := hql b hb
                  omega
            · have hqe : q = ⟨nm, .slice ao7 f.zs.length cap7, f.zs, f.l⟩ := by simpa using hq
              rw [hqe]
              have hql : ∀ b, (Value.slice ao7 f.zs.length cap7).ownBlock = some b → b < W.heap.size := fun b hb => (World.ownsRow.lt ho8 b hb).2
              have hnO : ∀ b, (Value.slice ao7 f.zs.length cap7).ownBlock = some b → (Value.slice aO LO.length cO).ownBlock ≠ some b := fun b hb e => by
                have k1 := hv7 b hb
                have k2 := hOlt b e
                omega
              refine ⟨?_, hfby, hfll, fun b hb => ⟨fun e => ?_, fun e => ?_⟩⟩
              · refine ⟨ho8.1, ?_⟩
                rcases ho8.2 with k5 | ⟨g', c', cur, e1, e2, e3, e4⟩
                · exact Or.inl k5
                · exact Or.inr ⟨g', c', cur, e1, by omega, (hne g' (hql g' (by rw [e1]; rfl)) (hnO g' (by rw [e1]; rfl))).trans e3, e4⟩
              · have k1 := hv7 b hb
                omega
              · rcases hrow9 b e with e5 | e5
                · exact hnO b hb e5
                · have := hql b hb
                  omega
          · rcases hrow9 _ e with e5 | e5
            · exact hrkO.sep e5
            · omega
        · rw [show abs3 (LO ++ [⟨nm, .slice ao7 f.zs.length cap7, f.zs, f.l⟩]) = abs3 LO ++ [(nm, f.zs, f.l)] by simp [abs3], habO]
          obtain ⟨hi1, e1⟩ := List.getElem?_eq_some_iff.1 hab1
          rw [List.take_succ_eq_append_getElem hi1, e1]
      clear hc9 hw9 hS9 hS hc91 hc9z ho9 hg9 hat9 hrow9 hne hcO b0 b1 b2 hw8 ho8 hrkO hA9
      go_wp2_with fail
      go_roundw
      case rel => exact ⟨k + 1, _, _, by omega, by go_num, HN.out⟩
      case measure => simp [intOf]; omega
    · have hke : (abs3 L).take k = abs3 L := List.take_of_length_le (by rw [abs3_len]; omega)
      have HC : Hid (∃ vO LO, Rk wr w.heap.size w.heap.size vO room (-1) LO ∧ abs3 LO = abs3 L ∧ Below w.heap.size w wr) := ⟨vO, LO, hc.rk, hc.ab.trans hke, hc.bel⟩
      have f2 : ¬ ((k : Int) < (L.length : Int)) := by omega
      clear hc hrL hke
      go_wp2_with fail
      go_ret
      exact ⟨rfl, HC.out⟩
end Go.Proofs.Ythkgmnmdojmfgaa
