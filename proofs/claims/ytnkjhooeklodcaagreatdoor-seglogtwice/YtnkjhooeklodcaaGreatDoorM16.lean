/-
  Joined from: PlayRem, PlayRmv.
-/
import Derived.Test.YtnkjhooeklodcaaGreatDoorM14
import Derived.Test.YtnkjhooeklodcaaGreatDoorM15
section
/-
  DiskPlays: the document's remove and Remove, by contract.
-/
namespace Go.Proofs.YtnkjhooeklodcaaGreatDoor
open Go.RowKit Go.Maps Go.Sort

theorem Rk.make {w : World} {base wb : Nat} {v v' : Value} {room left : Int} {L : List Fl3} (hb : Cw w wb [.int .i64 room, v, .int .i64 left] 91) (ho : O3 w base v' L)
    (he : ∀ f ∈ L, Ow w base f.v f.zs ∧ (∀ z ∈ f.zs, 0 ≤ z ∧ z < 256) ∧ f.l ≤ f.zs.length ∧ ∀ k, f.v.ownBlock = some k → k ≠ wb ∧ v'.ownBlock ≠ some k) (hf : L.length ≤ 100000) (hw : base ≤ wb) (hs : v'.ownBlock ≠ some wb) :
    Rk (w.setCell ⟨wb, 1, none⟩ v') base wb v' room left L := by
  refine ⟨?_, ownsRow_other ho wb _ _ hs, fun f hm => ?_, hf, hw, hs⟩
  · exact hb.set 1 v'
  · obtain ⟨h1, h2, h3, h4⟩ := he f hm
    exact ⟨ownsRow_other h1 wb _ _ (fun e => (h4 wb e).1 rfl), h2, h3, h4⟩
theorem Rk.lt {w : World} {base wb : Nat} {v : Value} {room left : Int} {L : List Fl3} (h : Rk w base wb v room left L) : wb < w.heap.size := h.blk.lt
theorem Rk.sl {w : World} {base wb : Nat} {v : Value} {room left : Int} {L : List Fl3} (h : Rk w base wb v room left L) : Sl3 L := fun f hf => by
  obtain ⟨a, c, e, _⟩ := (h.each f hf).1.form
  exact ⟨a, c, e⟩
theorem Sl3.of {L L' : List Fl3} (h : Sl3 L) (hs : ∀ f ∈ L', f ∈ L) : Sl3 L' := fun f hf => h f (hs f hf)
theorem B3.take {w : World} {g cap : Nat} {L : List Fl3} (h : B3 w (.slice (some ⟨g, 0, none⟩) L.length cap) L) (k : Nat) (hk : k ≤ L.length) : B3 w (.slice (some ⟨g, 0, none⟩) k cap) (L.take k) := by
  rcases h with ⟨rfl, ao, c, e, _⟩ | ⟨g', off, c, e, hc⟩
  · simp at hk
    subst hk
    exact Or.inl ⟨rfl, _, cap, rfl, by intro h; cases h⟩
  · simp only [Value.slice.injEq, Option.some.injEq, Addr.mk.injEq, and_true, true_and] at e
    obtain ⟨⟨rfl, rfl⟩, rfl⟩ := e
    refine Or.inr ⟨g, 0, cap, by simp [hk], fun j u hu => hc j u ?_⟩
    have e : cells3 L = cells3 (L.take k) ++ cells3 (L.drop k) := by rw [← cells3_append, List.take_append_drop]
    rw [e, List.getElem?_append_left (List.getElem?_eq_some_iff.1 hu).1]
    exact hu
theorem B3.drop {w : World} {g cap : Nat} {L : List Fl3} (h : B3 w (.slice (some ⟨g, 0, none⟩) L.length cap) L) (k : Nat) (hk : k ≤ L.length) (off c2 : Nat) (ho : off = k * 3 ∨ k = L.length) : B3 w (.slice (some ⟨g, off, none⟩) (L.length - k) c2) (L.drop k) := by
  by_cases hkl : k = L.length
  · subst hkl
    simp only [Nat.sub_self, List.drop_length]
    exact Or.inl ⟨rfl, _, c2, rfl, by intro h; cases h⟩
  · have ho : off = k * 3 := by omega
    subst ho
    rcases h with ⟨rfl, ao, c, e, _⟩ | ⟨g', off, c, e, hc⟩
    · exact absurd (by simpa using hk) hkl
    · simp only [Value.slice.injEq, Option.some.injEq, Addr.mk.injEq, and_true, true_and] at e
      obtain ⟨⟨rfl, rfl⟩, rfl⟩ := e
      refine Or.inr ⟨g, k * 3, c2, by simp, fun j u hu => ?_⟩
      have e : cells3 L = cells3 (L.take k) ++ cells3 (L.drop k) := by rw [← cells3_append, List.take_append_drop]
      have hl : (cells3 (L.take k)).length = k * 3 := by rw [cells3_len]; simp [hk]
      have := hc (k * 3 + j) u (by rw [e, List.getElem?_append_right (by omega), hl, Nat.add_sub_cancel_left]; exact hu)
      simpa using this
theorem slice_lo3 (g n cap m : Nat) (lo : Int) (hlo : lo = (m : Int)) (h1 : m ≤ n) (h2 : n ≤ cap) : ∃ off, (off = m * 3 ∨ m = n) ∧ ∀ W : World, (Instr.slice 89 (.slice (some ⟨g, 0, none⟩) n cap) (some (.int .i64 lo)) none none).run Tryz.prog W = .ok (.slice (some ⟨g, off, none⟩) (n - m) (cap - m)) W := by
  subst hlo
  obtain ⟨i0, hi, hz0, hz1, hz2⟩ := info_parts Tryz.info71p
  have hsz : ∀ W : World, (sizeOf 110).run Tryz.prog W = .ok 3 W := fun W => by simp [sizeOf, typeInfo, hi, hz1]
  by_cases hcm : cap = m
  · refine ⟨0, Or.inr (by omega), fun W => ?_⟩
    simp [Instr.slice, run_underlying Tryz.underlying89, Instr.sliceBounds, Instr.sliceBound, asIntOf, hsz, hcm]
    intro h
    omega
  · refine ⟨m * 3, Or.inl rfl, fun W => ?_⟩
    simp [Instr.slice, run_underlying Tryz.underlying89, Instr.sliceBounds, Instr.sliceBound, asIntOf, hsz, hcm, Addr.add_lit]
    intro h
    omega
theorem yields_slice_lo {o : Oper} {a : Act} {P : Program} {u : World} {r : Value} (t e : TypeId) (hu : P.underlying t = some (.slice e)) (x lo : Operand) (ho : o.op = .slice t x (some lo) none none) (hr : (Instr.slice t (a.eval x) (some (a.eval lo)) none none).run P u = .ok r u) : (execOp a.eval o).run P u = .ok (.value r) u := by
  unfold execOp
  simp only [ho, Option.map_some, Option.map_none, Sem.run_bind, Instr.sliceAt, run_underlying hu, hr, Result.andThen_ok, Sem.run_pure]
theorem cell_grown {w w' : World} {r : Option Nat} (hg : w.grownBy w' r) {b i : Nat} {v : Value} (hc : w.cell? ⟨b, i, none⟩ = some v) (hr : r ≠ some b) : w'.cell? ⟨b, i, none⟩ = some v := by
  have hlt := World.block_lt_of_cell? w _ hc
  rw [World.cell?_of_block (w := w) (hg.block b hlt (fun e => hr e.symm))]
  exact hc
theorem Cw.grown {w w' : World} {r : Option Nat} (hg : w.grownBy w' r) {b : Nat} {cs : List Value} {t : TypeId} (h : Cw w b cs t) (hr : r ≠ some b) : Cw w' b cs t := h.keep (hg.block b h.lt (fun e => hr e.symm))
theorem O3.base {w : World} {base base' : Nat} {v : Value} {L : List Fl3} (h : O3 w base v L) (hb : base' ≤ base) : O3 w base' v L := by
  refine ⟨h.1, ?_⟩
  rcases h.2 with h2 | ⟨g, cap, cur, h1, h2, h3⟩
  · exact Or.inl h2
  · exact Or.inr ⟨g, cap, cur, h1, by omega, h3⟩
theorem O3.grown {w w' : World} {base : Nat} {v : Value} {L : List Fl3} (h : O3 w base v L) (hg : w.grownBy w' v.ownBlock) (hb : base ≤ w.heap.size) : Below base w w' :=
  ⟨hg.os, hg.tape, hg.output, hg.size, fun k hk => hg.block k (by omega) (fun e => by have := (World.ownsRow.lt h k e.symm).1; omega)⟩
theorem erase_eq {α : Type} (L : List α) (k : Nat) : L.eraseIdx k = L.take k ++ L.drop (k + 1) := List.eraseIdx_eq_take_drop_succ L k

set_option maxHeartbeats 3200000 in
set_option maxRecDepth 20000 in
theorem rem3_some (base wb g cap : Nat) (room left : Int) (L : List Fl3) (x : List UInt8) (f : Fl3) (w : World) (h : Rk w base wb (.slice (some ⟨g, 0, none⟩) L.length cap) room left L) (hf : L[spotN (names3 L) x]? = some f) (hx : f.nm = x) :
    Calls Tryz.prog 92 #[.pointer (some ⟨wb, 0, none⟩), encStr x] w fun e w' => e = .returned (.tuple #[]) ∧ ∃ v', Rk w' base wb v' room left (L.eraseIdx (spotN (names3 L) x)) ∧ (∀ q, v'.ownBlock = some q → w.heap.size ≤ q) ∧ Rg w wb (.slice none 0 0) w' := by
  have C2 := spot_any base wb _ room left L x _ h
  rw [decide_eq_true (show (names3 L)[spotN (names3 L) x]? = some x by simp [names3] at hf ⊢; exact ⟨f, hf, hx⟩)] at C2
  generalize spotN (names3 L) x = k at *
  have hk : k < L.length := (List.getElem?_eq_some_iff.1 hf).1
  have few := h.few
  go_enter Tryz.func92, Tryz.ntmps92
  go_wp2_with (go_at_call 69; refine C2.mono ?_; rintro e w2 ⟨rfl, hs⟩)
  have h2 := h.sm hs
  have hcb := h2.blk.cell 1
  simp at hcb
  have f1 : (0 : Int) ≤ (k : Int) := by omega
  have hcap : L.length ≤ cap := by
    rcases h2.shape with ⟨e, _⟩ | ⟨g', c', e, h3, _⟩
    · simp at e
    · simp only [Value.slice.injEq] at e
      rw [e.2.2]; exact h3
  have hcm : cap ≤ maxLen := by
    rcases h2.shape with ⟨e, _⟩ | ⟨g', c', e, _, h3, _⟩
    · simp at e
    · simp only [Value.slice.injEq] at e
      rw [e.2.2]; exact h3
  unfold maxLen at hcm
  have f2 : (k : Int) ≤ (cap : Int) := by omega
  obtain ⟨off, hoff, hrun⟩ := slice_lo3 g L.length cap (k + 1) (IntKind.i64.wrap ((k : Int) + 1)) (by rw [IntKind.wrap_i64]; omega) (by omega) hcap
  have hA : Below w2.heap.size w2 (w2.alloc (.cells #[] 110)) := (Below.refl _ _).alloc (Nat.le_refl _) _
  have hca := (h2.below hA).blk.cell 1
  simp at hca
  have hfa := (h2.below hA).blk.frozen 1
  have hB0 := O3.b3 h2.row
  have hsl := h2.sl
  have hS : w2.drew.cell? ⟨wb, 1, none⟩ = some (.slice (some ⟨g, 0, none⟩) L.length cap) := hcb
  refine wp_region_L 19 (fun w' => w'.cell? ⟨wb, 1, none⟩ = some (.slice (some ⟨g, 0, none⟩) L.length cap)) (by kernel_rfl) ?_
  refine' wpL_take 0 13 rfl rfl (by kernel_rfl) (by kernel_rfl) (by kernel_rfl) (by kernel_rfl) (fun _ _ _ h => h) (by rfl) hS ?y0 ?r0
  case y0 => (intro u hSu; (try dsimp only at hSu); go_simp; try with_reducible rfl)
  simp only [Act.put, List.setIfInBounds_toArray, List.set_cons_zero, List.set_cons_succ]
  refine' wpL_take 2 15 rfl rfl (by kernel_rfl) (by kernel_rfl) (by kernel_rfl) (by kernel_rfl) (fun _ _ _ h => h) (by rfl) hS ?y2 ?r2
  case y2 => (intro u hSu; (try dsimp only at hSu); go_simp; try with_reducible rfl)
  simp only [Act.put, List.setIfInBounds_toArray, List.set_cons_zero, List.set_cons_succ]
  refine' wpL_take 3 16 rfl rfl (by kernel_rfl) (by kernel_rfl) (by kernel_rfl) (by kernel_rfl) (fun _ _ _ h => h) (by rfl) hS ?y3 ?r3
  case y3 => (intro u hSu; (try dsimp only at hSu); go_simp; try with_reducible rfl)
  simp only [Act.put, List.setIfInBounds_toArray, List.set_cons_zero, List.set_cons_succ]
  refine' wpL_take 4 17 rfl rfl (by kernel_rfl) (by kernel_rfl) (by kernel_rfl) (by kernel_rfl) (fun _ _ _ h => h) (by rfl) hS ?y4 ?r4
  case y4 => (intro u hSu; (try dsimp only at hSu); go_simp; try with_reducible rfl)
  simp only [Act.put, List.setIfInBounds_toArray, List.set_cons_zero, List.set_cons_succ]
  refine' wpL_take 5 18 rfl rfl (by kernel_rfl) (by kernel_rfl) (by kernel_rfl) (by kernel_rfl) (fun _ _ _ h => h) (by rfl) hS ?y5 ?r5
  case y5 => (intro u hSu; (try dsimp only at hSu); go_simp; try with_reducible rfl)
  simp only [Act.put, List.setIfInBounds_toArray, List.set_cons_zero, List.set_cons_succ]
  refine' wpL_take 6 19 rfl rfl (by kernel_rfl) (by kernel_rfl) (by kernel_rfl) (by kernel_rfl) (fun _ _ _ h => h) (by rfl) hS ?y6 ?r6
  case y6 => (intro u hSu; (try dsimp only at hSu); go_simp; try with_reducible rfl)
  simp only [Act.put, List.setIfInBounds_toArray, List.set_cons_zero, List.set_cons_succ]
  refine' wpL_take 7 20 rfl rfl (by kernel_rfl) (by kernel_rfl) (by kernel_rfl) (by kernel_rfl) (fun _ _ _ h => h) (by rfl) hS ?y7 ?r7
  case y7 => (intro u hSu; (try dsimp only at hSu); go_simp; try with_reducible rfl)
  simp only [Act.put, List.setIfInBounds_toArray, List.set_cons_zero, List.set_cons_succ]
  refine' wpL_take 9 22 rfl rfl (by kernel_rfl) (by kernel_rfl) (by kernel_rfl) (by kernel_rfl) (fun _ _ _ h => h) (by rfl) hS ?y9 ?r9
  case y9 => (intro u hSu; (try dsimp only at hSu); go_simp; try with_reducible rfl)
  simp only [Act.put, List.setIfInBounds_toArray, List.set_cons_zero, List.set_cons_succ]
  refine' wpL_take 10 23 rfl rfl (by kernel_rfl) (by kernel_rfl) (by kernel_rfl) (by kernel_rfl) (fun _ _ _ h => h) (by rfl) hS ?y10 ?r10
  case y10 => (intro u hSu; (try dsimp only at hSu); go_simp; try with_reducible rfl)
  simp only [Act.put, List.setIfInBounds_toArray, List.set_cons_zero, List.set_cons_succ]
  refine' wpL_take 11 24 rfl rfl (by kernel_rfl) (by kernel_rfl) (by kernel_rfl) (by kernel_rfl) (fun _ _ _ h => h) (by rfl) hS ?y11 ?r11
  case y11 => (intro u hSu; (try dsimp only at hSu); go_simp; try with_reducible rfl)
  simp only [Act.put, List.setIfInBounds_toArray, List.set_cons_zero, List.set_cons_succ]
  refine' wpL_take 12 25 rfl rfl (by kernel_rfl) (by kernel_rfl) (by kernel_rfl) (by kernel_rfl) (fun _ _ _ h => h) (by rfl) hS ?y12 ?r12
  case y12 => (intro u hSu; (try dsimp only at hSu); go_simp; try with_reducible rfl)
  simp only [Act.put, List.setIfInBounds_toArray, List.set_cons_zero, List.set_cons_succ]
  refine' wpL_take 13 26 rfl rfl (by kernel_rfl) (by kernel_rfl) (by kernel_rfl) (by kernel_rfl) (fun _ _ _ h => h) (by rfl) hS ?y13 ?r13
  case y13 => (intro u hSu; (try dsimp only at hSu); go_simp; try with_reducible rfl)
  simp only [Act.put, List.setIfInBounds_toArray, List.set_cons_zero, List.set_cons_succ]
  refine' wpL_take 14 27 rfl rfl (by kernel_rfl) (by kernel_rfl) (by kernel_rfl) (by kernel_rfl) (fun _ _ _ h => h) (by rfl) hS ?y14 ?r14
  case y14 => (intro u hSu; (try dsimp only at hSu); go_simp; try with_reducible rfl)
  simp only [Act.put, List.setIfInBounds_toArray, List.set_cons_zero, List.set_cons_succ]
  refine' wpL_take 15 28 rfl rfl (by kernel_rfl) (by kernel_rfl) (by kernel_rfl) (by kernel_rfl) (fun _ _ _ h => h) (by rfl) hS ?y15 ?r15
  case y15 => (intro u hSu; exact yields_slice_lo 89 110 Tryz.underlying89 (.tmp 25) (.tmp 27) rfl (hrun u))
  simp only [Act.put, List.setIfInBounds_toArray, List.set_cons_zero, List.set_cons_succ]
  refine wpL_one (i := 1) (by kernel_rfl) rfl (fun K hK => ?_)
  rw [if_pos (by rfl)]
  go_simp
  refine hK.out _ _ (fun _ => hca) ?_
  clear hK K
  refine wpL_one (i := 8) (by kernel_rfl) rfl (fun K hK => ?_)
  refine step_append_3 rfl (.tmp 14) (.tmp 20) rfl w2.heap.size (.slice (some ⟨w2.heap.size, 0, none⟩) 0 0) [] rfl (by exact O3.new w2) (.slice (some ⟨g, 0, none⟩) k cap) (L.take k) rfl (by exact (hB0.take k (by omega)).below hA.drew) (hsl.of fun q hq => List.mem_of_mem_take hq) (by simp; omega) (by simp) ?_
  intro ao3 cap3 w3 ho3 hg3 _
  have hB3 : Below w2.heap.size w2 w3 := hA.drew.trans (O3.grown (by exact O3.new w2) hg3 (by simp))
  have hc3 := (h2.below hB3).blk
  refine hK.out _ _ (fun _ => hc3.cell 1) ?_
  change wpL Tryz.prog _ _ _ _ _ _ _ (Act.put _ (some 21) _) _
  simp only [List.nil_append, List.length_nil, Nat.zero_add] at ho3 ⊢
  simp only [Act.put, List.setIfInBounds_toArray, List.set_cons_zero, List.set_cons_succ]
  clear hK K hg3
  refine wpL_one (i := 16) (by kernel_rfl) rfl (fun K hK => ?_)
  refine step_append_3 rfl (.tmp 21) (.tmp 28) rfl w2.heap.size (.slice ao3 (L.take k).length cap3) (L.take k) rfl ho3 (.slice (some ⟨g, off, none⟩) (L.length - (k + 1)) (cap - (k + 1))) (L.drop (k + 1)) rfl (by exact (hB0.drop (k + 1) (by omega) off _ hoff).below hB3) (hsl.of fun q hq => List.mem_of_mem_drop hq) (by simp; omega) hB3.size ?_
  intro ao4 cap4 w4 ho4 hg4 _
  have hB4 : Below w2.heap.size w2 w4 := hB3.trans (O3.grown ho3 hg4 hB3.size)
  have hc4 := (h2.below hB4).blk
  refine hK.out _ _ (fun _ => hc4.cell 1) ?_
  change wpL Tryz.prog _ _ _ _ _ _ _ (Act.put _ (some 29) _) _
  simp only [Act.put, List.setIfInBounds_toArray, List.set_cons_zero, List.set_cons_succ]
  clear hK K hg4
  have hcell4 := hc4.cell 1
  simp at hcell4
  have hfz4 := hc4.frozen 1
  refine wpL_one (i := 17) (by kernel_rfl) rfl (fun K hK => ?_)
  rw [if_pos (by rfl)]
  go_simp
  refine hK.out _ _ (fun _ => hcell4) ?_
  clear hK K
  refine wpL_one (i := 18) (by kernel_rfl) rfl (fun K hK => ?_)
  rw [if_pos (by rfl)]
  go_simp
  refine hK.out _ _ (fun _ => hcell4) ?_
  clear hK K
  refine wpL_one (i := 19) (by kernel_rfl) rfl (fun K hK => ?_)
  rw [if_pos (by rfl)]
  go_simp
  refine hK.out _ _ (fun e => absurd rfl e) ?_
  clear hK K
  refine wpL_done (by kernel_rfl) ?_ _
  have ev : Value.slice ao4 (min k L.length + (L.length - (k + 1))) cap4 = Value.slice ao4 ((L.take k).length + (L.drop (k + 1)).length) cap4 := by simp
  rw [ev]
  rw [← erase_eq] at ho4
  generalize Value.slice ao4 ((L.take k).length + (L.drop (k + 1)).length) cap4 = v4 at ho4 ev ⊢
  have hbl : ∀ q, v4.ownBlock = some q → w2.heap.size ≤ q := fun q hq => (World.ownsRow.lt ho4 q hq).1
  have hw2 := h2.lt
  have hmk : Rk (w4.setCell ⟨wb, 1, none⟩ v4) base wb v4 room left (L.eraseIdx k) := by
    refine Rk.make hc4 (O3.base ho4 (Nat.le_trans h2.wbb (by omega))) (fun q hq => ?_) (Nat.le_trans (List.length_eraseIdx_le _ _) few) h2.wbb (fun e => by have := hbl _ e; omega)
    have hqL : q ∈ L := List.mem_of_mem_eraseIdx hq
    obtain ⟨h3, h4, h5, h6⟩ := (h2.below hB4).each q hqL
    exact ⟨h3, h4, h5, fun b hb => ⟨(h6 b hb).1, fun e => by
      have h7 := hbl b e
      have h8 := (World.ownsRow.lt (h2.each q hqL).1 b hb).2
      omega⟩⟩
  have hrg : Rg w wb (.slice none 0 0) (w4.setCell ⟨wb, 1, none⟩ v4) := (Rg.of_below ((hs.below _).trans (hB4.mono (Nat.le_of_eq hs.size.symm)))).set wb 1 _ (Or.inl rfl)
  have hsz := hs.size
  clear ev
  go_end0
  exact ⟨rfl, v4, hmk, fun q hq => by rw [← hsz]; exact hbl q hq, hrg⟩
end Go.Proofs.YtnkjhooeklodcaaGreatDoor
end

section
/-
  DiskPlays: the document's Remove, by contract.
-/
namespace Go.Proofs.YtnkjhooeklodcaaGreatDoor
open Go.RowKit Go.Maps Go.Sort

theorem one_str (w : World) (x : List UInt8) : ∀ i n, ([x] : List (List UInt8))[i]? = some n → (w.alloc (.cells #[encStr x] 9)).cell? ⟨w.heap.size, i, none⟩ = some (encStr n) := by
  intro i n hi
  cases i with
  | zero =>
    have e : x = n := by simpa using hi
    rw [← e, cell_of_row _ _ 0 _ _ _ (heap_alloc_new w _)]; rfl
  | succ i => simp at hi
set_option maxHeartbeats 3200000 in
set_option maxRecDepth 20000 in
theorem rem3_none (base wb : Nat) (v : Value) (room left : Int) (L : List Fl3) (x : List UInt8) (w : World) (h : Rk w base wb v room left L) (hx : (names3 L)[spotN (names3 L) x]? ≠ some x) :
    Calls Tryz.prog 92 #[.pointer (some ⟨wb, 0, none⟩), encStr x] w fun e w' => e = .returned (.tuple #[]) ∧ Sm w w' := by
  have C2 := spot_any base wb _ room left L x _ h
  rw [decide_eq_false hx] at C2
  generalize spotN (names3 L) x = k at *
  go_enter Tryz.func92, Tryz.ntmps92
  go_wp2_with (go_at_call 69; refine C2.mono ?_; rintro e w2 ⟨rfl, hs⟩)
  go_end0
  exact ⟨rfl, hs⟩
set_option maxHeartbeats 3200000 in
set_option maxRecDepth 20000 in
theorem remove3_may (base wb : Nat) (v : Value) (room left : Int) (L : List Fl3) (x : List UInt8) (w : World) (h : Rk w base wb v room left L) (hm : mayE left [x] ≠ 0) (hxl : x.length ≤ 140737488355328) :
    Calls Tryz.prog 64 #[.pointer (some ⟨wb, 0, none⟩), encStr x] w fun e w' => e = .returned (.int .i64 (mayE left [x])) ∧ Below w.heap.size w w' := by
  have hA : Below w.heap.size w (w.alloc (.cells #[encStr x] 9)) := (Below.refl _ _).alloc (Nat.le_refl _) _
  have hr := h.below hA
  have hxs : ∀ n ∈ [x], n.length ≤ 140737488355328 := by
    intro n hn
    have e : n = x := by simpa using hn
    rw [e]; exact hxl
  have hxc := one_str w x
  have C1 := may_any wb w.heap.size 1 room _ left [x] _ hr.blk (by simp) hxs hxc
  generalize mayE left [x] = er at *
  have hm' : (er != 0) = true := by simpa using hm
  go_enter Tryz.func64, Tryz.ntmps64
  go_wp2_with (first | (refine wpList_made_str _ rfl (.tmp 9) rfl x rfl ?_) | (go_at_call 68; refine C1.mono ?_; rintro e w1 ⟨rfl, rfl⟩))
  go_ret
  exact ⟨rfl, hA⟩
set_option maxHeartbeats 3200000 in
set_option maxRecDepth 20000 in
theorem remove3_none (base wb : Nat) (v : Value) (room left : Int) (L : List Fl3) (x : List UInt8) (w : World) (h : Rk w base wb v room left L) (hm : mayE left [x] = 0) (hx : (names3 L)[spotN (names3 L) x]? ≠ some x) (hxl : x.length ≤ 140737488355328) :
    Calls Tryz.prog 64 #[.pointer (some ⟨wb, 0, none⟩), encStr x] w fun e w' => e = .returned (.int .i64 7) ∧ Below w.heap.size w w' := by
  have hA : Below w.heap.size w (w.alloc (.cells #[encStr x] 9)) := (Below.refl _ _).alloc (Nat.le_refl _) _
  have hr := h.below hA
  have hxs : ∀ n ∈ [x], n.length ≤ 140737488355328 := by
    intro n hn
    have e : n = x := by simpa using hn
    rw [e]; exact hxl
  have hxc := one_str w x
  have C1 := may_any wb w.heap.size 1 room _ left [x] _ hr.blk (by simp) hxs hxc
  rw [hm] at C1
  have C2 := spot_any base wb _ room left L x _ hr
  rw [decide_eq_false hx] at C2
  generalize spotN (names3 L) x = k at *
  go_enter Tryz.func64, Tryz.ntmps64
  go_wp2_with (first | (refine wpList_made_str _ rfl (.tmp 9) rfl x rfl ?_) | (go_at_call 68; refine C1.mono ?_; rintro e w1 ⟨rfl, rfl⟩) | (go_at_call 69; refine C2.mono ?_; rintro e w2 ⟨rfl, hs⟩))
  go_ret
  exact ⟨rfl, hA.trans (hs.below _)⟩
set_option maxHeartbeats 3200000 in
set_option maxRecDepth 20000 in
theorem remove3_done (base wb g cap : Nat) (room left : Int) (L : List Fl3) (x : List UInt8) (f : Fl3) (w : World) (h : Rk w base wb (.slice (some ⟨g, 0, none⟩) L.length cap) room left L) (hm : mayE left [x] = 0) (hf : L[spotN (names3 L) x]? = some f) (hx : f.nm = x) (hxl : x.length ≤ 140737488355328) (h0 : -9223372036854775807 ≤ left) (h1 : left ≤ 9223372036854775807) :
    Calls Tryz.prog 64 #[.pointer (some ⟨wb, 0, none⟩), encStr x] w fun e w' => e = .returned (.int .i64 0) ∧ ∃ v', Rk w' base wb v' room (didL left) (L.eraseIdx (spotN (names3 L) x)) ∧ (∀ q, v'.ownBlock = some q → w.heap.size ≤ q) ∧ Rg w wb (.slice none 0 0) w' := by
  have hA : Below w.heap.size w (w.alloc (.cells #[encStr x] 9)) := (Below.refl _ _).alloc (Nat.le_refl _) _
  have hr := h.below hA
  have hxs : ∀ n ∈ [x], n.length ≤ 140737488355328 := by
    intro n hn
    have e : n = x := by simpa using hn
    rw [e]; exact hxl
  have hxc := one_str w x
  have C1 := may_any wb w.heap.size 1 room _ left [x] _ hr.blk (by simp) hxs hxc
  rw [hm] at C1
  have C2 := spot_any base wb _ room left L x _ hr
  rw [decide_eq_true (show (names3 L)[spotN (names3 L) x]? = some x by simp [names3] at hf ⊢; exact ⟨f, hf, hx⟩)] at C2
  have C3 : ∀ W, Sm (w.alloc (.cells #[encStr x] 9)) W → _ := fun W hs => rem3_some base wb g cap room left L x f W (hr.sm hs) hf hx
  generalize spotN (names3 L) x = k at *
  go_enter Tryz.func64, Tryz.ntmps64
  go_wp2_with (first | (refine wpList_made_str _ rfl (.tmp 9) rfl x rfl ?_) | (go_at_call 68; refine C1.mono ?_; rintro e w1 ⟨rfl, rfl⟩) | (go_at_call 69; refine C2.mono ?_; rintro e w2 ⟨rfl, hs⟩) | (go_at_call 92; refine (C3 _ hs).mono ?_; rintro e w3 ⟨rfl, v3, hk3, hq3, hg3⟩; have C4 := did_any wb room _ left _ hk3.blk h0 h1) | (go_at_call 71; refine C4.mono ?_; rintro e w4 ⟨rfl, rfl⟩))
  have hdid := hk3.did
  have hsz : w.heap.size ≤ w2.heap.size := by rw [hs.size]; exact hA.size
  have hrg : Rg w wb (.slice none 0 0) w3 := by
    have hB2 : Below w.heap.size w w2 := hA.trans (hs.below _)
    exact ⟨hg3.os.trans hB2.os, hg3.tape.trans hB2.tape, hg3.output.trans hB2.output, Nat.le_trans hB2.size hg3.size, fun q hq h1 h2 => (hg3.block q (by omega) h1 h2).trans (hB2.block q hq)⟩
  have hrg2 := hrg.did left
  go_ret
  exact ⟨rfl, v3, hdid, fun q hq => Nat.le_trans hsz (hq3 q hq), hrg2⟩
end Go.Proofs.YtnkjhooeklodcaaGreatDoor
end
