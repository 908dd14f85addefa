/-
  The document's Cancel, by contract.
-/
import Derived.Test.YtilaankipjcgaaaRefSet
import Derived.Test.YtilaankipjcgaaaHeldL
namespace Go.Proofs.Ytilaankipjcgaaa
open Go.RowKit Go.Maps
variable {w w' : World} {F : Nat → Prop} {rb : Nat} {v : Value} {L s : List Pr}
/-- A part of a row, from its beginning. -/
theorem B2.take {g cap : Nat} (h : B2 w (.slice (some ⟨g, 0, none⟩) L.length cap) L) (k : Nat) (hk : k ≤ L.length) : B2 w (.slice (some ⟨g, 0, none⟩) k cap) (L.take k) := by
  rcases h with ⟨rfl, ao, c, e, _⟩ | ⟨g', off, c, e, hc⟩
  · simp at hk
    subst hk
    exact Or.inl ⟨rfl, _, cap, rfl, by intro h; cases h⟩
  · simp only [Value.slice.injEq, Option.some.injEq, Addr.mk.injEq, and_true, true_and] at e
    obtain ⟨⟨rfl, rfl⟩, rfl⟩ := e
    refine Or.inr ⟨g, 0, cap, by simp [hk], fun j u hu => hc j u ?_⟩
    have e : cells2 L = cells2 (L.take k) ++ cells2 (L.drop k) := by rw [← cells2_append, List.take_append_drop]
    rw [e, List.getElem?_append_left (List.getElem?_eq_some_iff.1 hu).1]
    exact hu
/-- .. and to its end. -/
theorem B2.drop {g cap : Nat} (h : B2 w (.slice (some ⟨g, 0, none⟩) L.length cap) L) (k : Nat) (hk : k ≤ L.length) (off c2 : Nat) (ho : off = k * 2 ∨ k = L.length) : B2 w (.slice (some ⟨g, off, none⟩) (L.length - k) c2) (L.drop k) := by
  by_cases hkl : k = L.length
  · subst hkl
    simp only [Nat.sub_self, List.drop_length]
    exact Or.inl ⟨rfl, _, c2, rfl, by intro h; cases h⟩
  · have ho : off = k * 2 := by omega
    subst ho
    rcases h with ⟨rfl, ao, c, e, _⟩ | ⟨g', off, c, e, hc⟩
    · exact absurd (by simpa using hk) hkl
    · simp only [Value.slice.injEq, Option.some.injEq, Addr.mk.injEq, and_true, true_and] at e
      obtain ⟨⟨rfl, rfl⟩, rfl⟩ := e
      refine Or.inr ⟨g, k * 2, c2, by simp, fun j u hu => ?_⟩
      have e : cells2 L = cells2 (L.take k) ++ cells2 (L.drop k) := by rw [← cells2_append, List.take_append_drop]
      have hl : (cells2 (L.take k)).length = k * 2 := by rw [cells2_len]; simp [hk]
      have := hc (k * 2 + j) u (by rw [e, List.getElem?_append_right (by omega), hl, Nat.add_sub_cancel_left]; exact hu)
      simpa using this
theorem slice_lo2 (g n cap m : Nat) (lo : Int) (hlo : lo = (m : Int)) (h1 : m ≤ n) (h2 : n ≤ cap) : ∃ off, (off = m * 2 ∨ m = n) ∧ ∀ W : World, (Instr.slice 26 (.slice (some ⟨g, 0, none⟩) n cap) (some (.int .i64 lo)) none none).run Try.prog W = .ok (.slice (some ⟨g, off, none⟩) (n - m) (cap - m)) W := by
  subst hlo
  obtain ⟨i0, hi, hz0, hz1, hz2⟩ := info_parts Try.info58p
  have hsz : ∀ W : World, (sizeOf 58).run Try.prog W = .ok 2 W := fun W => by simp [sizeOf, typeInfo, hi, hz1]
  by_cases hcm : cap = m
  · refine ⟨0, Or.inr (by omega), fun W => ?_⟩
    simp [Instr.slice, run_underlying Try.underlying26, Instr.sliceBounds, Instr.sliceBound, asIntOf, hsz, hcm]
    intro h
    omega
  · refine ⟨m * 2, Or.inl rfl, fun W => ?_⟩
    simp [Instr.slice, run_underlying Try.underlying26, Instr.sliceBounds, Instr.sliceBound, asIntOf, hsz, hcm, Addr.add_lit]
    intro h
    omega
theorem yields_slice_lo {o : Oper} {a : Act} {P : Program} {u : World} {r : Value} (t e : TypeId) (hu : P.underlying t = some (.slice e)) (x lo : Operand) (ho : o.op = .slice t x (some lo) none none) (hr : (Instr.slice t (a.eval x) (some (a.eval lo)) none none).run P u = .ok r u) : (execOp a.eval o).run P u = .ok (.value r) u := by
  unfold execOp
  simp only [ho, Option.map_some, Option.map_none, Sem.run_bind, Instr.sliceAt, run_underlying hu, hr, Result.andThen_ok, Sem.run_pure]
theorem O2.base {base base' : Nat} (h : O2 w base v L) (hb : base' ≤ base) : O2 w base' v L := by
  refine ⟨h.1, ?_⟩
  rcases h.2 with h2 | ⟨g, cap, cur, h1, h2, h3⟩
  · exact Or.inl h2
  · exact Or.inr ⟨g, cap, cur, h1, by omega, h3⟩
theorem O2.grown {base : Nat} (h : O2 w base v L) (hg : w.grownBy w' v.ownBlock) (hb : base ≤ w.heap.size) : Below base w w' :=
  ⟨hg.os, hg.tape, hg.output, hg.size, fun k hk => hg.block k (by omega) (fun e => by have := (World.ownsRow.lt h k e.symm).1; omega)⟩
theorem Rt.below (h : Rt w F rb v L s) (hb : Below w.heap.size w w') : Rt w' F rb v L s := h.keep fun k _ hk => hb.block k hk
set_option maxHeartbeats 800000 in
theorem rcancel_none (h : Rm w F rb s) (id : Int) (hg : get s id = none) : Calls Try.prog 12 #[.pointer (some ⟨rb, 0, none⟩), .int .i64 id] w fun e w' => e = .returned (.tuple #[.int .i64 0, .bool false]) ∧ w' = w := by
  obtain ⟨v, L, h⟩ := h
  have hgp := get_perm h.perm (dis_perm h.dis h.perm.symm) id
  have C2 : Calls Try.prog 22 #[.pointer (some ⟨rb, 0, none⟩), .int .i64 id] w fun e w' => e = .returned (.int .i64 (-1)) ∧ w' = w := (find_any h id).mono (by
    rintro e w' ⟨⟨_, rfl⟩ | ⟨i, d, _, _, h1⟩, rfl⟩
    · exact ⟨rfl, rfl⟩
    · rw [hgp, hg] at h1; cases h1)
  clear hgp
  go_enter Try.func12, Try.ntmps12
  go_wp2_with (go_at_call 22; refine C2.mono ?_; rintro e w2 ⟨rfl, rfl⟩)
  go_ret2
  exact ⟨rfl, rfl⟩
set_option maxHeartbeats 3200000 in
set_option maxRecDepth 20000 in
theorem rcancel_some (h : Rm w F rb s) (id d : Int) (hg : get s id = some d) : Calls Try.prog 12 #[.pointer (some ⟨rb, 0, none⟩), .int .i64 id] w fun e w' => e = .returned (.tuple #[.int .i64 d, .bool true]) ∧ Rm w' (Pl F w.heap.size) rb (rm s id) ∧ Grows F w w' := by
  obtain ⟨v, L, h⟩ := h
  have hgp := get_perm h.perm (dis_perm h.dis h.perm.symm) id
  have C2 : Calls Try.prog 22 #[.pointer (some ⟨rb, 0, none⟩), .int .i64 id] w fun e w' => (∃ i : Nat, e = .returned (.int .i64 (i : Int)) ∧ L[i]? = some (id, d)) ∧ w' = w := (find_any h id).mono (by
    rintro e w' ⟨⟨h1, _⟩ | ⟨i, d2, rfl, h1, h2⟩, rfl⟩
    · rw [hgp, hg] at h1; cases h1
    · rw [hgp, hg] at h2
      obtain rfl := Option.some.inj h2
      exact ⟨⟨i, rfl, h1⟩, rfl⟩)
  have few := h.few
  clear hgp hg
  obtain ⟨ao, cap0, hv0⟩ := h.slot
  have c0 := h.cell
  rw [hv0] at c0
  have HV0 := hid_into hv0
  clear hv0
  go_enter Try.func12, Try.ntmps12
  go_wp2_with (go_at_call 22; refine C2.mono ?_; rintro e w2 ⟨⟨k, rfl, hi⟩, rfl⟩; have hk := (List.getElem?_eq_some_iff.1 hi).1; obtain ⟨g, cap, hv, hcap, hcm⟩ := h.form (by omega); have hv3 := HV0.out; rw [hv] at hv3; simp only [Value.slice.injEq] at hv3; obtain ⟨rfl, -, rfl⟩ := hv3; obtain ⟨a1, a2⟩ := h.cells hv hi; clear C2 HV0; replace hv := hid_into hv; replace hi := hid_into hi)
  rename World => w2
  have h2 := h
  unfold maxLen at hcm
  have f1 : (0 : Int) ≤ (k : Int) := by omega
  have f2 : (k : Int) ≤ (cap : Int) := by omega
  obtain ⟨off, hoff, hrun⟩ := slice_lo2 g L.length cap (k + 1) (IntKind.i64.wrap ((k : Int) + 1)) (by rw [IntKind.wrap_i64]; omega) (by omega) hcap
  have hA : Below w2.heap.size w2 (w2.alloc (.cells #[] 58)) := (Below.refl _ _).alloc (Nat.le_refl _) _
  have hca := (h2.below hA).cell
  rw [hv.out] at hca
  have hfa := (h2.below hA).blk.frozen 0
  have hB0 : B2 w2 (.slice (some ⟨g, 0, none⟩) L.length cap) L := by
    have := O2.b2 h2.row
    rw [hv.out] at this
    exact this
  have hS : w2.drew.cell? ⟨rb, 0, none⟩ = some (.slice (some ⟨g, 0, none⟩) L.length cap) := c0
  refine wp_region_L 19 (fun w' => w'.cell? ⟨rb, 0, none⟩ = some (.slice (some ⟨g, 0, none⟩) L.length cap)) (by kernel_rfl) ?_
  refine' wpL_take 0 21 rfl rfl (by kernel_rfl) (by kernel_rfl) (by kernel_rfl) (by kernel_rfl) (fun _ _ _ h => h) (by rfl) hS ?y0 ?r0
  case y0 => (intro u hSu; (try dsimp only at hSu); go_simp; try with_reducible rfl)
  simp only [Act.put, List.setIfInBounds_toArray, List.set_cons_zero, List.set_cons_succ]
  refine' wpL_take 2 23 rfl rfl (by kernel_rfl) (by kernel_rfl) (by kernel_rfl) (by kernel_rfl) (fun _ _ _ h => h) (by rfl) hS ?y2 ?r2
  case y2 => (intro u hSu; (try dsimp only at hSu); go_simp; try with_reducible rfl)
  simp only [Act.put, List.setIfInBounds_toArray, List.set_cons_zero, List.set_cons_succ]
  refine' wpL_take 3 24 rfl rfl (by kernel_rfl) (by kernel_rfl) (by kernel_rfl) (by kernel_rfl) (fun _ _ _ h => h) (by rfl) hS ?y3 ?r3
  case y3 => (intro u hSu; (try dsimp only at hSu); go_simp; try with_reducible rfl)
  simp only [Act.put, List.setIfInBounds_toArray, List.set_cons_zero, List.set_cons_succ]
  refine' wpL_take 4 25 rfl rfl (by kernel_rfl) (by kernel_rfl) (by kernel_rfl) (by kernel_rfl) (fun _ _ _ h => h) (by rfl) hS ?y4 ?r4
  case y4 => (intro u hSu; (try dsimp only at hSu); go_simp; try with_reducible rfl)
  simp only [Act.put, List.setIfInBounds_toArray, List.set_cons_zero, List.set_cons_succ]
  refine' wpL_take 5 26 rfl rfl (by kernel_rfl) (by kernel_rfl) (by kernel_rfl) (by kernel_rfl) (fun _ _ _ h => h) (by rfl) hS ?y5 ?r5
  case y5 => (intro u hSu; (try dsimp only at hSu); go_simp; try with_reducible rfl)
  simp only [Act.put, List.setIfInBounds_toArray, List.set_cons_zero, List.set_cons_succ]
  refine' wpL_take 6 27 rfl rfl (by kernel_rfl) (by kernel_rfl) (by kernel_rfl) (by kernel_rfl) (fun _ _ _ h => h) (by rfl) hS ?y6 ?r6
  case y6 => (intro u hSu; (try dsimp only at hSu); go_simp; try with_reducible rfl)
  simp only [Act.put, List.setIfInBounds_toArray, List.set_cons_zero, List.set_cons_succ]
  refine' wpL_take 7 28 rfl rfl (by kernel_rfl) (by kernel_rfl) (by kernel_rfl) (by kernel_rfl) (fun _ _ _ h => h) (by rfl) hS ?y7 ?r7
  case y7 => (intro u hSu; (try dsimp only at hSu); go_simp; try with_reducible rfl)
  simp only [Act.put, List.setIfInBounds_toArray, List.set_cons_zero, List.set_cons_succ]
  refine' wpL_take 9 30 rfl rfl (by kernel_rfl) (by kernel_rfl) (by kernel_rfl) (by kernel_rfl) (fun _ _ _ h => h) (by rfl) hS ?y9 ?r9
  case y9 => (intro u hSu; (try dsimp only at hSu); go_simp; try with_reducible rfl)
  simp only [Act.put, List.setIfInBounds_toArray, List.set_cons_zero, List.set_cons_succ]
  refine' wpL_take 10 31 rfl rfl (by kernel_rfl) (by kernel_rfl) (by kernel_rfl) (by kernel_rfl) (fun _ _ _ h => h) (by rfl) hS ?y10 ?r10
  case y10 => (intro u hSu; (try dsimp only at hSu); go_simp; try with_reducible rfl)
  simp only [Act.put, List.setIfInBounds_toArray, List.set_cons_zero, List.set_cons_succ]
  refine' wpL_take 11 32 rfl rfl (by kernel_rfl) (by kernel_rfl) (by kernel_rfl) (by kernel_rfl) (fun _ _ _ h => h) (by rfl) hS ?y11 ?r11
  case y11 => (intro u hSu; (try dsimp only at hSu); go_simp; try with_reducible rfl)
  simp only [Act.put, List.setIfInBounds_toArray, List.set_cons_zero, List.set_cons_succ]
  refine' wpL_take 12 33 rfl rfl (by kernel_rfl) (by kernel_rfl) (by kernel_rfl) (by kernel_rfl) (fun _ _ _ h => h) (by rfl) hS ?y12 ?r12
  case y12 => (intro u hSu; (try dsimp only at hSu); go_simp; try with_reducible rfl)
  simp only [Act.put, List.setIfInBounds_toArray, List.set_cons_zero, List.set_cons_succ]
  refine' wpL_take 13 34 rfl rfl (by kernel_rfl) (by kernel_rfl) (by kernel_rfl) (by kernel_rfl) (fun _ _ _ h => h) (by rfl) hS ?y13 ?r13
  case y13 => (intro u hSu; (try dsimp only at hSu); go_simp; try with_reducible rfl)
  simp only [Act.put, List.setIfInBounds_toArray, List.set_cons_zero, List.set_cons_succ]
  refine' wpL_take 14 35 rfl rfl (by kernel_rfl) (by kernel_rfl) (by kernel_rfl) (by kernel_rfl) (fun _ _ _ h => h) (by rfl) hS ?y14 ?r14
  case y14 => (intro u hSu; (try dsimp only at hSu); go_simp; try with_reducible rfl)
  simp only [Act.put, List.setIfInBounds_toArray, List.set_cons_zero, List.set_cons_succ]
  refine' wpL_take 15 36 rfl rfl (by kernel_rfl) (by kernel_rfl) (by kernel_rfl) (by kernel_rfl) (fun _ _ _ h => h) (by rfl) hS ?y15 ?r15
  case y15 => (intro u hSu; exact yields_slice_lo 26 58 Try.underlying26 (.tmp 33) (.tmp 35) rfl (hrun u))
  simp only [Act.put, List.setIfInBounds_toArray, List.set_cons_zero, List.set_cons_succ]
  refine wpL_one (i := 1) (by kernel_rfl) rfl (fun K hK => ?_)
  rw [if_pos (by rfl)]
  go_simp
  refine hK.out _ _ (fun _ => hca) ?_
  clear hK K
  refine wpL_one (i := 8) (by kernel_rfl) rfl (fun K hK => ?_)
  refine step_append_2 rfl (.tmp 22) (.tmp 28) rfl w2.heap.size (.slice (some ⟨w2.heap.size, 0, none⟩) 0 0) [] rfl (by exact O2.new w2) (.slice (some ⟨g, 0, none⟩) k cap) (L.take k) rfl (by exact (hB0.take k (by omega)).below hA.drew) (by simp; omega) (by simp) ?_
  intro ao3 cap3 w3 ho3 hg3 _
  have hB3 : Below w2.heap.size w2 w3 := hA.drew.trans (O2.grown (by exact O2.new w2) hg3 (by simp))
  have hc3 := (h2.below hB3).cell
  rw [hv.out] at hc3
  refine hK.out _ _ (fun _ => hc3) ?_
  change wpL Try.prog _ _ _ _ _ _ _ (Act.put _ (some 29) _) _
  simp only [List.nil_append, List.length_nil, Nat.zero_add] at ho3 ⊢
  simp only [Act.put, List.setIfInBounds_toArray, List.set_cons_zero, List.set_cons_succ]
  clear hK K hg3
  refine wpL_one (i := 16) (by kernel_rfl) rfl (fun K hK => ?_)
  refine step_append_2 rfl (.tmp 29) (.tmp 36) rfl w2.heap.size (.slice ao3 (L.take k).length cap3) (L.take k) rfl ho3 (.slice (some ⟨g, off, none⟩) (L.length - (k + 1)) (cap - (k + 1))) (L.drop (k + 1)) rfl (by exact (hB0.drop (k + 1) (by omega) off _ hoff).below hB3) (by simp; omega) hB3.size ?_
  intro ao4 cap4 w4 ho4 hg4 _
  have hB4 : Below w2.heap.size w2 w4 := hB3.trans (O2.grown ho3 hg4 hB3.size)
  have hc4 := (h2.below hB4).blk
  have hcell4 := (h2.below hB4).cell
  rw [hv.out] at hcell4
  refine hK.out _ _ (fun _ => hcell4) ?_
  change wpL Try.prog _ _ _ _ _ _ _ (Act.put _ (some 37) _) _
  simp only [Act.put, List.setIfInBounds_toArray, List.set_cons_zero, List.set_cons_succ]
  clear hK K hg4
  have hfz4 := hc4.frozen 0
  refine wpL_one (i := 17) (by kernel_rfl) rfl (fun K hK => ?_)
  rw [if_pos (by rfl)]
  go_simp
  refine hK.out _ _ (fun _ => hcell4) ?_
  clear hK K
  refine wpL_one (i := 18) (by kernel_rfl) rfl (fun K hK => ?_)
  rw [if_pos (by rfl)]
  go_simp
  refine hK.out _ _ (fun _ => hcell4) ?_
  clear hK K
  refine wpL_one (i := 19) (by kernel_rfl) rfl (fun K hK => ?_)
  rw [if_pos (by rfl)]
  go_simp
  refine hK.out _ _ (fun e => absurd rfl e) ?_
  clear hK K
  refine wpL_done (by kernel_rfl) ?_ _
  have ev : Value.slice ao4 (min k L.length + (L.length - (k + 1))) cap4 = Value.slice ao4 ((L.take k).length + (L.drop (k + 1)).length) cap4 := by simp
  rw [ev]
  rw [← List.eraseIdx_eq_take_drop_succ] at ho4
  generalize Value.slice ao4 ((L.take k).length + (L.drop (k + 1)).length) cap4 = v4 at ho4 ev ⊢
  have hbl : ∀ q, v4.ownBlock = some q → w2.heap.size ≤ q := fun q hq => (World.ownsRow.lt ho4 q hq).1
  have hw2 := h2.blk.lt
  have hmk : Rt (w4.setCell ⟨rb, 0, none⟩ v4) (Pl F w2.heap.size) rb v4 (L.eraseIdx k) (rm s id) :=
    Rt.make hc4 (O2.base ho4 (Nat.zero_le _)) (fun e => by have := hbl _ e; omega) (Nat.le_trans (List.length_eraseIdx_le _ _) few) (erase_rm h2.perm h2.dis hi.out) (rm_srt h2.srt _) (rm_dis h2.dis _) (Or.inl h2.fs) (fun k hk => Or.inr (hbl k hk))
  have hgr : Grows F w2 (w4.setCell ⟨rb, 0, none⟩ v4) := (Grows.of_below hB4 F fun k h1 h2 => by omega).trans (Grows.setCell (F := F) _ ⟨rb, 0, none⟩ _ h2.fs) fun k hk => Or.inl hk
  have HM := hid_into hmk
  have HGr := hid_into hgr
  clear ev hmk hgr
  go_wp2_with fail
  go_ret2
  exact ⟨rfl, ⟨v4, _, HM.out⟩, HGr.out⟩
end Go.Proofs.Ytilaankipjcgaaa
