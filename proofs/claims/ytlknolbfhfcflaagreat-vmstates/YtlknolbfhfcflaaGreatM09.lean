/-
  Joined from: VmEnd.
-/
import Derived.Test.YtlknolbfhfcflaaGreatM08
import Derived.Laws.ResultCell
section
/-
  Step: mayStep, ended, Start and Step itself, by contracts.
-/
namespace Go.Proofs.YtlknolbfhfcflaaGreat
open Go.RowKit
variable {w w' : World} {g : Nat}
set_option maxRecDepth 20000 in
set_option maxHeartbeats 2000000 in
theorem mayStep_c (cs : List Value) (s : Sp) (h : StC cs s) (cv : Value) (l : List Ii) (cap fuel : Int) (w : World) (hl : Ls w cv l) : Calls Tryz.prog 47 #[gameV cv cap fuel, .agg cs.toArray] w fun e w' => e = .returned (.int .i64 (stepE l cap fuel s)) ∧ Below w.heap.size w w' := by
  have k0 := hid_into h.frame
  have k17 := hid_into h.seed
  have k18 := hid_into h.over
  have HSz : Hid ((Tryz.prog.info? 25).map (·.size) = some cs.length) := by rw [h.len]; exact Tryz.size25
  have CH : Hid (∀ W, Below w.heap.size w W → Calls Tryz.prog 56 #[.agg #[cv, .int .i64 cap, .int .i64 fuel]] W fun e w' => e = .returned (.int .i64 (chkG l cap fuel)) ∧ Below W.heap.size W w') := fun W hW => Check_any cv l cap fuel W (hl.below hW)
  have CI : ∀ W, Calls Tryz.prog 27 #[.agg cs.toArray] W fun e w' => e = .returned (.bool (isS s)) ∧ Below W.heap.size W w' := fun W => isState_c cs s h W
  have AB := hid_into ((Below.refl w.heap.size w).alloc (Nat.le_refl _) (.cells #[cv, .int .i64 cap, .int .i64 fuel] 59))
  have hlt : ∀ W, Below (w.alloc (.cells #[cv, .int .i64 cap, .int .i64 fuel] 59)).heap.size (w.alloc (.cells #[cv, .int .i64 cap, .int .i64 fuel] 59)) W → Cw W w.heap.size [cv, .int .i64 cap, .int .i64 fuel] 59 := fun W hW => (Cw.new w [cv, .int .i64 cap, .int .i64 fuel] 59).below hW (by rw [World.size_alloc]; omega)
  have HX := hid_into hlt
  have HR : Hid (stepE l cap fuel s = if chkG l cap fuel ≠ 0 then chkG l cap fuel else if isS s = false ∨ s.seed = 0 then 1 else if s.over = true ∨ cap ≤ s.frame then 12 else 0) := rfl
  clear hl hlt h
  unfold gameV
  generalize chkG l cap fuel = ck at CH HR
  generalize isS s = is at CI HR
  generalize stepE l cap fuel s = cg at HR ⊢
  obtain ⟨fr, cells, seed, over, win⟩ := s
  simp only at k0 k17 k18 HR
  by_cases hc : ck = 0
  · subst hc
    cases is with
    | false =>
      have HR2 : Hid (cg = 1) := by show _ = _; rw [HR.out, if_neg (by omega), if_pos (Or.inl rfl)]
      go_enter Tryz.func47, Tryz.ntmps47
      go_wp2_with (first
      | (refine wpList_box_row rfl 25 (.tmp 1) rfl cs rfl ?_; intro W1 hc1 B1 HS1; rw [World.size_alloc] at hc1; have r0 := (HX.out _ B1).cell 0; have r1 := (HX.out _ B1).cell 1; have r2 := (HX.out _ B1).cell 2; simp only [List.getElem?_cons_zero, List.getElem?_cons_succ] at r0 r1 r2)
      | (go_at_call 56; refine (CH.out _ (AB.out.trans (B1.mono AB.out.size))).mono ?_; rintro e w2 ⟨rfl, B2⟩; have hc2 := hc1.below B2 hc1.lt; have hx2 := (HX.out _ B1).below B2 (HX.out _ B1).lt; have q1 := hx2.cell 1; have p0 := (hc2.cell 0).trans k0.out; have p2 := (hc2.cell 17).trans k17.out; have p3 := (hc2.cell 18).trans k18.out; simp only [List.getElem?_cons_zero, List.getElem?_cons_succ] at q1)
      | (refine wpList_load_rw rfl 25 (.tmp 3) rfl _ cs 25 _ rfl hc2 Tryz.underlying25 rfl HSz ?_)
      | (go_at_call 27; refine (CI _).mono ?_; rintro e w3 ⟨rfl, B3⟩; have hc3 := hc2.below B3 hc2.lt; have hx3 := hx2.below B3 hx2.lt; have q1' := hx3.cell 1; have p0' := (hc3.cell 0).trans k0.out; have p2' := (hc3.cell 17).trans k17.out; have p3' := (hc3.cell 18).trans k18.out; simp only [List.getElem?_cons_zero, List.getElem?_cons_succ] at q1'))
      go_ret
      exact ⟨by rw [HR2.out]; rfl, ((AB.out.trans (B1.mono AB.out.size)).trans (B2.mono (Nat.le_trans AB.out.size B1.size))).trans (B3.mono (Nat.le_trans AB.out.size (Nat.le_trans B1.size B2.size)))⟩
    | true =>
      by_cases h1 : seed = 0
      · subst h1
        have HR2 : Hid (cg = 1) := by show _ = _; rw [HR.out, if_neg (by omega), if_pos (Or.inr rfl)]
        go_enter Tryz.func47, Tryz.ntmps47
        go_wp2_with (first
      | (refine wpList_box_row rfl 25 (.tmp 1) rfl cs rfl ?_; intro W1 hc1 B1 HS1; rw [World.size_alloc] at hc1; have r0 := (HX.out _ B1).cell 0; have r1 := (HX.out _ B1).cell 1; have r2 := (HX.out _ B1).cell 2; simp only [List.getElem?_cons_zero, List.getElem?_cons_succ] at r0 r1 r2)
      | (go_at_call 56; refine (CH.out _ (AB.out.trans (B1.mono AB.out.size))).mono ?_; rintro e w2 ⟨rfl, B2⟩; have hc2 := hc1.below B2 hc1.lt; have hx2 := (HX.out _ B1).below B2 (HX.out _ B1).lt; have q1 := hx2.cell 1; have p0 := (hc2.cell 0).trans k0.out; have p2 := (hc2.cell 17).trans k17.out; have p3 := (hc2.cell 18).trans k18.out; simp only [List.getElem?_cons_zero, List.getElem?_cons_succ] at q1)
      | (refine wpList_load_rw rfl 25 (.tmp 3) rfl _ cs 25 _ rfl hc2 Tryz.underlying25 rfl HSz ?_)
      | (go_at_call 27; refine (CI _).mono ?_; rintro e w3 ⟨rfl, B3⟩; have hc3 := hc2.below B3 hc2.lt; have hx3 := hx2.below B3 hx2.lt; have q1' := hx3.cell 1; have p0' := (hc3.cell 0).trans k0.out; have p2' := (hc3.cell 17).trans k17.out; have p3' := (hc3.cell 18).trans k18.out; simp only [List.getElem?_cons_zero, List.getElem?_cons_succ] at q1'))
        go_ret
        exact ⟨by rw [HR2.out]; rfl, ((AB.out.trans (B1.mono AB.out.size)).trans (B2.mono (Nat.le_trans AB.out.size B1.size))).trans (B3.mono (Nat.le_trans AB.out.size (Nat.le_trans B1.size B2.size)))⟩
      · have h1' : (seed == 0) = false := by simp [h1]
        cases over with
        | true =>
          have HR2 : Hid (cg = 12) := by show _ = _; rw [HR.out, if_neg (by omega), if_neg (by simp [h1]), if_pos (Or.inl rfl)]
          go_enter Tryz.func47, Tryz.ntmps47
          go_wp2_with (first
      | (refine wpList_box_row rfl 25 (.tmp 1) rfl cs rfl ?_; intro W1 hc1 B1 HS1; rw [World.size_alloc] at hc1; have r0 := (HX.out _ B1).cell 0; have r1 := (HX.out _ B1).cell 1; have r2 := (HX.out _ B1).cell 2; simp only [List.getElem?_cons_zero, List.getElem?_cons_succ] at r0 r1 r2)
      | (go_at_call 56; refine (CH.out _ (AB.out.trans (B1.mono AB.out.size))).mono ?_; rintro e w2 ⟨rfl, B2⟩; have hc2 := hc1.below B2 hc1.lt; have hx2 := (HX.out _ B1).below B2 (HX.out _ B1).lt; have q1 := hx2.cell 1; have p0 := (hc2.cell 0).trans k0.out; have p2 := (hc2.cell 17).trans k17.out; have p3 := (hc2.cell 18).trans k18.out; simp only [List.getElem?_cons_zero, List.getElem?_cons_succ] at q1)
      | (refine wpList_load_rw rfl 25 (.tmp 3) rfl _ cs 25 _ rfl hc2 Tryz.underlying25 rfl HSz ?_)
      | (go_at_call 27; refine (CI _).mono ?_; rintro e w3 ⟨rfl, B3⟩; have hc3 := hc2.below B3 hc2.lt; have hx3 := hx2.below B3 hx2.lt; have q1' := hx3.cell 1; have p0' := (hc3.cell 0).trans k0.out; have p2' := (hc3.cell 17).trans k17.out; have p3' := (hc3.cell 18).trans k18.out; simp only [List.getElem?_cons_zero, List.getElem?_cons_succ] at q1'))
          go_ret
          exact ⟨by rw [HR2.out]; rfl, ((AB.out.trans (B1.mono AB.out.size)).trans (B2.mono (Nat.le_trans AB.out.size B1.size))).trans (B3.mono (Nat.le_trans AB.out.size (Nat.le_trans B1.size B2.size)))⟩
        | false =>
          by_cases h2 : cap ≤ fr
          · have HR2 : Hid (cg = 12) := by show _ = _; rw [HR.out, if_neg (by omega), if_neg (by simp [h1]), if_pos (Or.inr h2)]
            go_enter Tryz.func47, Tryz.ntmps47
            go_wp2_with (first
      | (refine wpList_box_row rfl 25 (.tmp 1) rfl cs rfl ?_; intro W1 hc1 B1 HS1; rw [World.size_alloc] at hc1; have r0 := (HX.out _ B1).cell 0; have r1 := (HX.out _ B1).cell 1; have r2 := (HX.out _ B1).cell 2; simp only [List.getElem?_cons_zero, List.getElem?_cons_succ] at r0 r1 r2)
      | (go_at_call 56; refine (CH.out _ (AB.out.trans (B1.mono AB.out.size))).mono ?_; rintro e w2 ⟨rfl, B2⟩; have hc2 := hc1.below B2 hc1.lt; have hx2 := (HX.out _ B1).below B2 (HX.out _ B1).lt; have q1 := hx2.cell 1; have p0 := (hc2.cell 0).trans k0.out; have p2 := (hc2.cell 17).trans k17.out; have p3 := (hc2.cell 18).trans k18.out; simp only [List.getElem?_cons_zero, List.getElem?_cons_succ] at q1)
      | (refine wpList_load_rw rfl 25 (.tmp 3) rfl _ cs 25 _ rfl hc2 Tryz.underlying25 rfl HSz ?_)
      | (go_at_call 27; refine (CI _).mono ?_; rintro e w3 ⟨rfl, B3⟩; have hc3 := hc2.below B3 hc2.lt; have hx3 := hx2.below B3 hx2.lt; have q1' := hx3.cell 1; have p0' := (hc3.cell 0).trans k0.out; have p2' := (hc3.cell 17).trans k17.out; have p3' := (hc3.cell 18).trans k18.out; simp only [List.getElem?_cons_zero, List.getElem?_cons_succ] at q1'))
            go_ret
            exact ⟨by rw [HR2.out]; rfl, ((AB.out.trans (B1.mono AB.out.size)).trans (B2.mono (Nat.le_trans AB.out.size B1.size))).trans (B3.mono (Nat.le_trans AB.out.size (Nat.le_trans B1.size B2.size)))⟩
          · have HR2 : Hid (cg = 0) := by show _ = _; rw [HR.out, if_neg (by omega), if_neg (by simp [h1]), if_neg (by simp; omega)]
            go_enter Tryz.func47, Tryz.ntmps47
            go_wp2_with (first
      | (refine wpList_box_row rfl 25 (.tmp 1) rfl cs rfl ?_; intro W1 hc1 B1 HS1; rw [World.size_alloc] at hc1; have r0 := (HX.out _ B1).cell 0; have r1 := (HX.out _ B1).cell 1; have r2 := (HX.out _ B1).cell 2; simp only [List.getElem?_cons_zero, List.getElem?_cons_succ] at r0 r1 r2)
      | (go_at_call 56; refine (CH.out _ (AB.out.trans (B1.mono AB.out.size))).mono ?_; rintro e w2 ⟨rfl, B2⟩; have hc2 := hc1.below B2 hc1.lt; have hx2 := (HX.out _ B1).below B2 (HX.out _ B1).lt; have q1 := hx2.cell 1; have p0 := (hc2.cell 0).trans k0.out; have p2 := (hc2.cell 17).trans k17.out; have p3 := (hc2.cell 18).trans k18.out; simp only [List.getElem?_cons_zero, List.getElem?_cons_succ] at q1)
      | (refine wpList_load_rw rfl 25 (.tmp 3) rfl _ cs 25 _ rfl hc2 Tryz.underlying25 rfl HSz ?_)
      | (go_at_call 27; refine (CI _).mono ?_; rintro e w3 ⟨rfl, B3⟩; have hc3 := hc2.below B3 hc2.lt; have hx3 := hx2.below B3 hx2.lt; have q1' := hx3.cell 1; have p0' := (hc3.cell 0).trans k0.out; have p2' := (hc3.cell 17).trans k17.out; have p3' := (hc3.cell 18).trans k18.out; simp only [List.getElem?_cons_zero, List.getElem?_cons_succ] at q1'))
            go_ret
            exact ⟨by rw [HR2.out]; rfl, ((AB.out.trans (B1.mono AB.out.size)).trans (B2.mono (Nat.le_trans AB.out.size B1.size))).trans (B3.mono (Nat.le_trans AB.out.size (Nat.le_trans B1.size B2.size)))⟩
  · have hc' : (ck != 0) = true := by simp [hc]
    have HR2 : Hid (cg = ck) := by show _ = _; rw [HR.out, if_pos hc]
    go_enter Tryz.func47, Tryz.ntmps47
    go_wp2_with (first
      | (refine wpList_box_row rfl 25 (.tmp 1) rfl cs rfl ?_; intro W1 hc1 B1 HS1; rw [World.size_alloc] at hc1; have r0 := (HX.out _ B1).cell 0; have r1 := (HX.out _ B1).cell 1; have r2 := (HX.out _ B1).cell 2; simp only [List.getElem?_cons_zero, List.getElem?_cons_succ] at r0 r1 r2)
      | (go_at_call 56; refine (CH.out _ (AB.out.trans (B1.mono AB.out.size))).mono ?_; rintro e w2 ⟨rfl, B2⟩; have hc2 := hc1.below B2 hc1.lt; have hx2 := (HX.out _ B1).below B2 (HX.out _ B1).lt; have q1 := hx2.cell 1; have p0 := (hc2.cell 0).trans k0.out; have p2 := (hc2.cell 17).trans k17.out; have p3 := (hc2.cell 18).trans k18.out; simp only [List.getElem?_cons_zero, List.getElem?_cons_succ] at q1)
      | (refine wpList_load_rw rfl 25 (.tmp 3) rfl _ cs 25 _ rfl hc2 Tryz.underlying25 rfl HSz ?_)
      | (go_at_call 27; refine (CI _).mono ?_; rintro e w3 ⟨rfl, B3⟩; have hc3 := hc2.below B3 hc2.lt; have hx3 := hx2.below B3 hx2.lt; have q1' := hx3.cell 1; have p0' := (hc3.cell 0).trans k0.out; have p2' := (hc3.cell 17).trans k17.out; have p3' := (hc3.cell 18).trans k18.out; simp only [List.getElem?_cons_zero, List.getElem?_cons_succ] at q1'))
    go_ret
    exact ⟨by rw [HR2.out]; rfl, (AB.out.trans (B1.mono AB.out.size)).trans (B2.mono (Nat.le_trans AB.out.size B1.size))⟩
theorem setS_frame {s : Sp} (v : Int) : (stV s).set 0 (.int .i64 v) = stV { s with frame := v } := rfl
theorem setS_last {s : Sp} (h : s.Wf) (j : Nat) (v : Value) : (stV s).set (17 + j) v = .int .i64 s.frame :: (s.cells.map (Value.int .i32) ++ ([.int .u32 s.seed, .bool s.over, .int .i64 s.win] : List Value).set j v) := by
  have hl := h.cells
  rw [stV, show 17 + j = (16 + j) + 1 by omega, List.set_cons_succ, List.set_append_right _ _ (by simp [hl])]
  simp [hl]
theorem setS_over {s : Sp} (h : s.Wf) (v : Bool) : (stV s).set 18 (.bool v) = stV { s with over := v } := setS_last h 1 _
theorem setS_win {s : Sp} (h : s.Wf) (v : Int) : (stV s).set 19 (.int .i64 v) = stV { s with win := v } := setS_last h 2 _
theorem two_blocks {w : World} {a b : Nat} {cs : List Value} {t : TypeId} (h : Cw w a cs t) (hn : a ≠ b) (i : Nat) (v : Value) : Cw (w.setCell ⟨b, i, none⟩ v) a cs t := h.keep (Below.heap_setCell _ _ _ _ hn)
set_option maxRecDepth 20000 in
set_option maxHeartbeats 2000000 in
theorem ended_any (s : Sp) (h : s.Wf) (cap : Int) (hf : 0 ≤ s.frame ∧ s.frame < 600) (w : World) : Calls Tryz.prog 49 #[.agg (stV s).toArray, .int .i64 cap] w fun e w' => e = .returned (.agg (stV (endS cap s)).toArray) ∧ Below w.heap.size w w' := by
  have hC := stV_c h
  have k0 := hid_into hC.frame
  have k18 := hid_into hC.over
  have k19 := hid_into hC.win
  have c0 := hid_into (hC.cell 0 (by omega))
  have c1 := hid_into (hC.cell 1 (by omega))
  have CM := fun W => more_any (s.cells.getD 0 0) (s.cells.getD 1 0) W
  obtain ⟨os, hos⟩ : ∃ os, os = zeroS := ⟨_, rfl⟩
  have HZ : Hid ((Tryz.prog.info? 25).bind (·.zero) = some (.agg os.toArray)) := by rw [hos]; exact Tryz.zero25
  have hol : os.length = 20 := by rw [hos]; rfl
  have HSo : Hid ((Tryz.prog.info? 25).map (·.size) = some os.length) := by rw [hol]; exact Tryz.size25
  have hend : (endS cap s).Wf := by unfold endS; split <;> exact ⟨h.cells, h.cin, h.seed⟩
  have hD := stV_c hend
  obtain ⟨ds, hds0⟩ : ∃ ds, ds = stV (endS cap s) := ⟨_, rfl⟩
  rw [← hds0] at hD ⊢
  have HSd : Hid ((Tryz.prog.info? 25).map (·.size) = some ds.length) := by rw [hD.len]; exact Tryz.size25
  have HSl : Hid (os.length = ds.length) := by rw [hol, hD.len]; exact hid_into rfl
  have HDo := hid_into hD.one
  have e1 : (if s.frame + 1 = cap ∧ s.over = false then ds = (((stV s).set 0 (.int .i64 (s.frame + 1))).set 18 (.bool true)).set 19 (.int .i64 (moreI (s.cells.getD 0 0) (s.cells.getD 1 0))) else ds = (stV s).set 0 (.int .i64 (s.frame + 1))) := by
    rw [hds0]
    unfold endS
    split
    · rw [setS_frame, setS_over (s := { s with frame := s.frame + 1 }) ⟨h.cells, h.cin, h.seed⟩, setS_win (s := { s with frame := s.frame + 1, over := true }) ⟨h.cells, h.cin, h.seed⟩]
    · rw [setS_frame]
  clear hC hD hend hds0 hos hol
  generalize stV s = cs at k0 k18 k19 c0 c1 e1 ⊢
  generalize s.cells.getD 0 0 = a0 at c0 CM e1
  generalize s.cells.getD 1 0 = a1 at c1 CM e1
  generalize moreI a0 a1 = mo at CM e1
  obtain ⟨fr, cells, seed, over, win⟩ := s
  simp only at k0 k18 k19 e1 hf
  clear h
  by_cases hcap : fr + 1 = cap
  · cases over with
    | false =>
      rw [if_pos ⟨hcap, rfl⟩] at e1
      have hds := e1
      clear e1
      have HLD : Hid (∀ W, Cw W w.heap.size cs 25 → Cw (((W.setCell ⟨w.heap.size, 0, none⟩ (.int .i64 (fr + 1))).setCell ⟨w.heap.size, 18, none⟩ (.bool true)).setCell ⟨w.heap.size, 19, none⟩ (.int .i64 mo)) w.heap.size ds 25) := fun W hW => hds ▸ ((hW.set 0 _).set 18 _).set 19 _
      have HRS : Hid (∀ W b, w.heap.size < b → Cw W b os 25 → Cw (((W.setCell ⟨w.heap.size, 0, none⟩ (.int .i64 (fr + 1))).setCell ⟨w.heap.size, 18, none⟩ (.bool true)).setCell ⟨w.heap.size, 19, none⟩ (.int .i64 mo)) b os 25) := fun W b hb hW => two_blocks (two_blocks (two_blocks hW (by omega) _ _) (by omega) _ _) (by omega) _ _
      have HBB : Hid (∀ W W4 b, w.heap.size < b → Below w.heap.size w W → Only b (((W.setCell ⟨w.heap.size, 0, none⟩ (.int .i64 (fr + 1))).setCell ⟨w.heap.size, 18, none⟩ (.bool true)).setCell ⟨w.heap.size, 19, none⟩ (.int .i64 mo)) W4 → Below w.heap.size w W4) := fun W W4 b hb hW O4 => (((hW.trans ((Only.set _ _ _ _).below (Nat.le_refl _))).trans ((Only.set _ _ _ _).below (Nat.le_refl _))).trans ((Only.set _ _ _ _).below (Nat.le_refl _))).trans (O4.below (by omega))
      clear hds
      subst hcap
      go_enter Tryz.func49, Tryz.ntmps49
      go_wp2_with (first
      | (refine wpList_box_row rfl 25 (.tmp 0) rfl cs rfl ?_; intro W1 hc1 B1 HS1)
      | (refine wpList_alloc_row rfl 25 rfl os HZ.out ?_; intro W2 hr2 B2 HS2; have hlt2 : Hid (w.heap.size < W1.heap.size) := hc1.lt; have hc2 := hid_into (hc1.below B2 hc1.lt); have hr2' := hid_into hr2; have BB := hid_into (B1.trans (B2.mono B1.size)); have f0 := hc2.out.frozen 0; have f18 := hc2.out.frozen 18; have f19 := hc2.out.frozen 19; have q0 := (hc2.out.cell 0).trans k0.out; have q1 := (hc2.out.cell 1).trans c0.out; have q2 := (hc2.out.cell 2).trans c1.out; have q18 := (hc2.out.cell 18).trans k18.out; have q19 := (hc2.out.cell 19).trans k19.out; clear hc1 hr2 B1 B2 HS1 HS2)
      | (go_at_call 58; refine (CM _).mono ?_; rintro e w3 ⟨rfl, rfl⟩)
      | (refine wpList_load_rw rfl 25 (.tmp 2) rfl w.heap.size ds 25 _ rfl ?_ Tryz.underlying25 rfl HSd ?_; exact HLD.out _ hc2.out)
      | (refine wpList_store_rw rfl 25 (.tmp 4) (.tmp 27) rfl W1.heap.size os ds 25 rfl rfl ?_ HSo HSl HDo.out ?_; exact HRS.out _ _ hlt2.out hr2'.out; intro W4 hr4 O4))
      refine ret_row rfl rfl rfl hr4 Tryz.underlying25 rfl HSd ⟨rfl, ?_⟩
      exact HBB.out _ _ _ hlt2.out BB.out O4
    | true =>
      rw [if_neg (by simp)] at e1
      have hds := e1
      clear e1
      have HLD : Hid (∀ W, Cw W w.heap.size cs 25 → Cw (W.setCell ⟨w.heap.size, 0, none⟩ (.int .i64 (fr + 1))) w.heap.size ds 25) := fun W hW => hds ▸ hW.set 0 _
      have HRS : Hid (∀ W b, w.heap.size < b → Cw W b os 25 → Cw (W.setCell ⟨w.heap.size, 0, none⟩ (.int .i64 (fr + 1))) b os 25) := fun W b hb hW => two_blocks hW (by omega) _ _
      have HBB : Hid (∀ W W4 b, w.heap.size < b → Below w.heap.size w W → Only b (W.setCell ⟨w.heap.size, 0, none⟩ (.int .i64 (fr + 1))) W4 → Below w.heap.size w W4) := fun W W4 b hb hW O4 => (hW.trans ((Only.set _ _ _ _).below (Nat.le_refl _))).trans (O4.below (by omega))
      clear hds
      subst hcap
      go_enter Tryz.func49, Tryz.ntmps49
      go_wp2_with (first
      | (refine wpList_box_row rfl 25 (.tmp 0) rfl cs rfl ?_; intro W1 hc1 B1 HS1)
      | (refine wpList_alloc_row rfl 25 rfl os HZ.out ?_; intro W2 hr2 B2 HS2; have hlt2 : Hid (w.heap.size < W1.heap.size) := hc1.lt; have hc2 := hid_into (hc1.below B2 hc1.lt); have hr2' := hid_into hr2; have BB := hid_into (B1.trans (B2.mono B1.size)); have f0 := hc2.out.frozen 0; have f18 := hc2.out.frozen 18; have f19 := hc2.out.frozen 19; have q0 := (hc2.out.cell 0).trans k0.out; have q1 := (hc2.out.cell 1).trans c0.out; have q2 := (hc2.out.cell 2).trans c1.out; have q18 := (hc2.out.cell 18).trans k18.out; have q19 := (hc2.out.cell 19).trans k19.out; clear hc1 hr2 B1 B2 HS1 HS2)
      | (go_at_call 58; refine (CM _).mono ?_; rintro e w3 ⟨rfl, rfl⟩)
      | (refine wpList_load_rw rfl 25 (.tmp 2) rfl w.heap.size ds 25 _ rfl ?_ Tryz.underlying25 rfl HSd ?_; exact HLD.out _ hc2.out)
      | (refine wpList_store_rw rfl 25 (.tmp 4) (.tmp 27) rfl W1.heap.size os ds 25 rfl rfl ?_ HSo HSl HDo.out ?_; exact HRS.out _ _ hlt2.out hr2'.out; intro W4 hr4 O4))
      refine ret_row rfl rfl rfl hr4 Tryz.underlying25 rfl HSd ⟨rfl, ?_⟩
      exact HBB.out _ _ _ hlt2.out BB.out O4
  · rw [if_neg (by simp [hcap])] at e1
    have hds := e1
    clear e1
    have HLD : Hid (∀ W, Cw W w.heap.size cs 25 → Cw (W.setCell ⟨w.heap.size, 0, none⟩ (.int .i64 (fr + 1))) w.heap.size ds 25) := fun W hW => hds ▸ hW.set 0 _
    have HRS : Hid (∀ W b, w.heap.size < b → Cw W b os 25 → Cw (W.setCell ⟨w.heap.size, 0, none⟩ (.int .i64 (fr + 1))) b os 25) := fun W b hb hW => two_blocks hW (by omega) _ _
    have HBB : Hid (∀ W W4 b, w.heap.size < b → Below w.heap.size w W → Only b (W.setCell ⟨w.heap.size, 0, none⟩ (.int .i64 (fr + 1))) W4 → Below w.heap.size w W4) := fun W W4 b hb hW O4 => (hW.trans ((Only.set _ _ _ _).below (Nat.le_refl _))).trans (O4.below (by omega))
    clear hds
    have hb : (fr + 1 == cap) = false := by simp [hcap]
    go_enter Tryz.func49, Tryz.ntmps49
    go_wp2_with (first
      | (refine wpList_box_row rfl 25 (.tmp 0) rfl cs rfl ?_; intro W1 hc1 B1 HS1)
      | (refine wpList_alloc_row rfl 25 rfl os HZ.out ?_; intro W2 hr2 B2 HS2; have hlt2 : Hid (w.heap.size < W1.heap.size) := hc1.lt; have hc2 := hid_into (hc1.below B2 hc1.lt); have hr2' := hid_into hr2; have BB := hid_into (B1.trans (B2.mono B1.size)); have f0 := hc2.out.frozen 0; have f18 := hc2.out.frozen 18; have f19 := hc2.out.frozen 19; have q0 := (hc2.out.cell 0).trans k0.out; have q1 := (hc2.out.cell 1).trans c0.out; have q2 := (hc2.out.cell 2).trans c1.out; have q18 := (hc2.out.cell 18).trans k18.out; have q19 := (hc2.out.cell 19).trans k19.out; clear hc1 hr2 B1 B2 HS1 HS2)
      | (go_at_call 58; refine (CM _).mono ?_; rintro e w3 ⟨rfl, rfl⟩)
      | (refine wpList_load_rw rfl 25 (.tmp 2) rfl w.heap.size ds 25 _ rfl ?_ Tryz.underlying25 rfl HSd ?_; exact HLD.out _ hc2.out)
      | (refine wpList_store_rw rfl 25 (.tmp 4) (.tmp 27) rfl W1.heap.size os ds 25 rfl rfl ?_ HSo HSl HDo.out ?_; exact HRS.out _ _ hlt2.out hr2'.out; intro W4 hr4 O4))
    refine ret_row rfl rfl rfl hr4 Tryz.underlying25 rfl HSd ⟨rfl, ?_⟩
    exact HBB.out _ _ _ hlt2.out BB.out O4
end Go.Proofs.YtlknolbfhfcflaaGreat
end
