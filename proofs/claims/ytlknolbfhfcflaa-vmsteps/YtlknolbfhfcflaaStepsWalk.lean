/-
  VmSteps, its walk.
-/
import Derived.Test.YtlknolbfhfcflaaRStepC
import Derived.Test.YtlknolbfhfcflaaStepWf
import Derived.Deep.RegionHeld3
import Derived.Test.YtlknolbfhfcflaaKnown
import Derived.Test.YtlknolbfhfcflaaStEq
namespace Go.Proofs.Ytlknolbfhfcflaa
open Go.RowKit
/-- The variables of the law: the game, the state, what the players do. -/
structure St3 (w W : World) (b : Nat) (cv : Value) (cap fuel : Int) (cs : List Value) (i0 i1 : Int) : Prop where
  g : Cw W w.heap.size [cv, .int .i64 cap, .int .i64 fuel] 24
  s : Cw W (w.heap.size + 1) cs 28
  i : Cw W b [.int .u16 i0, .int .u16 i1] 31
  below : Below w.heap.size w W
  hb : w.heap.size + 2 = b
theorem St3.next {w W W' : World} {b : Nat} {cv : Value} {cap fuel i0 i1 : Int} {cs : List Value} (h : St3 w W b cv cap fuel cs i0 i1) (hb : Below W.heap.size W W') : St3 w W' b cv cap fuel cs i0 i1 :=
  ⟨h.g.below hb h.g.lt, h.s.below hb h.s.lt, h.i.below hb h.i.lt, h.below.trans (hb.mono h.below.size), h.hb⟩
theorem St3.only {w W W' : World} {b M : Nat} {cv : Value} {cap fuel i0 i1 : Int} {cs : List Value} (h : St3 w W b cv cap fuel cs i0 i1) (hO : Only M W W') (hM : b < M) : St3 w W' b cv cap fuel cs i0 i1 :=
  ⟨hO.cw h.g (by have := h.hb; omega), hO.cw h.s (by have := h.hb; omega), hO.cw h.i (by omega), h.below.trans (hO.below (by have := h.hb; omega)), h.hb⟩
theorem St3.make {w W1 : World} {cv : Value} {cap fuel i0 i1 : Int} {cs : List Value} (hc1 : Cw W1 (w.alloc (.cells #[cv, .int .i64 cap, .int .i64 fuel] 24)).heap.size cs 28)
    (B1 : Below (w.alloc (.cells #[cv, .int .i64 cap, .int .i64 fuel] 24)).heap.size (w.alloc (.cells #[cv, .int .i64 cap, .int .i64 fuel] 24)) W1) (HS1 : W1.heap.size = (w.alloc (.cells #[cv, .int .i64 cap, .int .i64 fuel] 24)).heap.size + 1) : St3 w (W1.alloc (.cells #[.int .u16 i0, .int .u16 i1] 31)) W1.heap.size cv cap fuel cs i0 i1 := by
  have hsz := HS1
  rw [World.size_alloc] at hsz
  have g1 : Cw W1 w.heap.size [cv, .int .i64 cap, .int .i64 fuel] 24 := (Cw.new w [cv, .int .i64 cap, .int .i64 fuel] 24).below B1 (by rw [World.size_alloc]; omega)
  have s1 : Cw W1 (w.heap.size + 1) cs 28 := by rw [World.size_alloc] at hc1; exact hc1
  refine ⟨g1.alloc _, s1.alloc _, Cw.new W1 [.int .u16 i0, .int .u16 i1] 31, ?_, by omega⟩
  have b0 : Below w.heap.size w (w.alloc (.cells #[cv, .int .i64 cap, .int .i64 fuel] 24)) := (Below.refl _ _).alloc (Nat.le_refl _) _
  exact (b0.trans (B1.mono b0.size)).alloc (by omega) _
theorem yieldsIf_eql28 {ops : Array Oper} {S : World → Prop} {op : Oper} {a : Act} (hw : Region.wanted op (yielded ops a.tmps) = true) (x y : Operand) (ho : op.op = .binOp .eql 28 x y 28) (cs ds : List Value) (q : Bool) (hq : Hid (∀ w, (Op.equalIn 10000 28 (.agg cs.toArray) (.agg ds.toArray)).run Try.prog w = .ok q w)) (hx : a.eval x = .agg cs.toArray) (hy : a.eval y = .agg ds.toArray) : YieldsIf Try.prog ops S op (.bool q) a :=
  .inl ⟨hw, fun w _ => by
    unfold execOp
    simp only [ho, hx, hy, Sem.run_bind, run_eqGuard_agg w .eql 28 x y cs.toArray ds.toArray guard28, Result.andThen_ok, run_eql_struct, hq.out w, Sem.run_pure]⟩
set_option maxRecDepth 20000 in
set_option maxHeartbeats 4000000 in
theorem steps_walk (cv : Value) (l : List Ii) (cap fuel : Int) (s : Sp) (i0 i1 : Int) (w : World) (hl : Ls w cv l) (hs : s.Wf) (hi0 : 0 ≤ i0 ∧ i0 < 65536) (hi1 : 0 ≤ i1 ∧ i1 < 65536) :
    Calls Try.prog 3 #[gameV cv cap fuel, .agg (stV s).toArray, .agg #[.int .u16 i0, .int .u16 i1]] w fun e w' => e = .returned (.bool true) ∧ Below w.heap.size w w' := by
  have hC := stV_c hs
  obtain ⟨ao, cp, rfl, hm⟩ := hl.len
  have HSz : Hid ((Try.prog.info? 28).map (·.size) = some (stV s).length) := by rw [hC.len]; exact Try.size28
  have C8 : Hid (∀ W, Below w.heap.size w W → Calls Try.prog 8 #[.agg #[.slice ao l.length cp, .int .i64 cap, .int .i64 fuel], .agg (stV s).toArray, .agg #[.int .u16 i0, .int .u16 i1]] W fun e w' => e = .returned (.tuple #[.agg (stV (stepF l cap fuel s i0 i1).1).toArray, .int .i64 (stepF l cap fuel s i0 i1).2]) ∧ Below W.heap.size W w') := fun W hW => Step_any _ l cap fuel s i0 i1 W (hl.below hW) hs hi0 hi1
  have C9 : Hid (∀ W, Below w.heap.size w W → Calls Try.prog 9 #[.agg #[.slice ao l.length cp, .int .i64 cap, .int .i64 fuel], .agg (stV s).toArray, .agg #[.int .u16 i0, .int .u16 i1]] W fun e w' => e = .returned (.tuple #[.agg (stV (stepF l cap fuel s i0 i1).1).toArray, .int .i64 (stepF l cap fuel s i0 i1).2]) ∧ Below W.heap.size W w') := fun W hW => rStep_any _ l cap fuel s i0 i1 W (hl.below hW) hs hi0 hi1
  have C10 : Hid (∀ W, Below w.heap.size w W → Calls Try.prog 10 #[.agg #[.slice ao l.length cp, .int .i64 cap, .int .i64 fuel]] W fun e w' => e = .returned (.int .i64 (chkG l cap fuel)) ∧ Below W.heap.size W w') := fun W hW => Check_any _ l cap fuel W (hl.below hW)
  have C11 : Hid (∀ W, Below w.heap.size w W → Calls Try.prog 11 #[.agg #[.slice ao l.length cp, .int .i64 cap, .int .i64 fuel]] W fun e w' => e = .returned (.int .i64 (chkG l cap fuel)) ∧ Below W.heap.size W w') := fun W hW => rChk_any _ l cap fuel W (hl.below hW)
  unfold gameV
  by_cases h3 : 300 < l.length
  · have h3' : (300 : Int) < (l.length : Int) := by omega
    generalize stV s = cs at HSz ⊢
    go_enter Try.func3, Try.ntmps3
    go_wp2_with (first
      | (refine wpList_box_row rfl 28 (.tmp 1) rfl cs rfl ?_; intro W1 hc1 B1 HS1; have H3 := hid_into (St3.make (i0 := i0) (i1 := i1) hc1 B1 HS1.out); have k0 := H3.out.g.cell 0; have k1 := H3.out.g.cell 1; have k2 := H3.out.g.cell 2; have j0 := H3.out.i.cell 0; have j1 := H3.out.i.cell 1; simp only [List.getElem?_cons_zero, List.getElem?_cons_succ] at k0 k1 k2 j0 j1; clear hc1 B1 HS1))
    go_ret
    exact ⟨rfl, H3.out.below⟩
  · have h3' : (l.length : Int) ≤ 300 := by omega
    have htw : (stepF l cap fuel s i0 i1).1.Wf := stepF_wf l cap fuel s i0 i1 hs hi0 hi1
    have HEq := hid_into (run_eqS _ _ htw htw)
    rw [eqS_same] at HEq
    have HN2 : Hid ((Try.prog.info? 28).map (·.size) = some (stV (stepF l cap fuel s i0 i1).1).length) := by rw [(stV_c htw).len]; exact Try.size28
    have HD2 := hid_into (stV_c htw).one
    obtain ⟨os, hos⟩ : ∃ os, os = zeroS := ⟨_, rfl⟩
    have HZ : Hid ((Try.prog.info? 28).bind (·.zero) = some (.agg os.toArray)) := by rw [hos]; exact Try.zero28
    have HSo : Hid ((Try.prog.info? 28).map (·.size) = some os.length) := by rw [hos]; exact Try.size28
    have HL2 : Hid (os.length = (stV (stepF l cap fuel s i0 i1).1).length) := by rw [(stV_c htw).len, hos]; exact hid_into rfl
    generalize stV (stepF l cap fuel s i0 i1).1 = es at C8 C9 HEq HN2 HD2 HL2
    generalize (stepF l cap fuel s i0 i1).2 = er at C8 C9
    generalize chkG l cap fuel = ck at C10 C11
    generalize stV s = cs at HSz C8 C9 ⊢
    clear hC hl hs hm hi0 hi1 htw hos
    go_enter Try.func3, Try.ntmps3
    go_upto_region 5 with (go_big_may; first
      | (refine wpList_box_row rfl 28 (.tmp 1) rfl cs rfl ?_; intro W1 hc1 B1 HS1; have H3 := hid_into (St3.make (i0 := i0) (i1 := i1) hc1 B1 HS1.out); have k0 := H3.out.g.cell 0; have k1 := H3.out.g.cell 1; have k2 := H3.out.g.cell 2; have j0 := H3.out.i.cell 0; have j1 := H3.out.i.cell 1; simp only [List.getElem?_cons_zero, List.getElem?_cons_succ] at k0 k1 k2 j0 j1; clear hc1 B1 HS1)
      | (refine wpList_load_rw rfl 28 (.tmp 4) rfl (w.heap.size + 1) cs 28 _ rfl ?_ Try.underlying28 rfl HSz ?_; exact H3.out.s)
      | (go_at_call 8; refine (C8.out _ H3.out.below).mono ?_; rintro e w3 ⟨rfl, B3⟩; replace H3 := hid_into (H3.out.next B3); have hlt3 : Hid (W1.heap.size < w3.heap.size) := H3.out.i.lt; clear B3 k0 k1 k2 j0 j1 C8)
      | (refine wpList_alloc_row rfl 28 rfl os HZ.out ?_; intro W4 ha4 B4 HS4; first | (replace H3 := hid_into (H3.out.next B4)) | (replace H6 := hid_into (H6.out.next B4); replace HA6 := hid_into (HA6.out.below B4 HA6.out.lt)))
      | (refine wpList_store_rw rfl 28 (.tmp 7) (.tmp 20) rfl w3.heap.size os es 28 rfl rfl ?_ HSo HL2 HD2.out ?_; exact ha4; intro W5 ha5 O5; have HA := hid_into ha5; have H5 := hid_into (H3.out.only O5 hlt3.out); have k0 := H5.out.g.cell 0; have k1 := H5.out.g.cell 1; have k2 := H5.out.g.cell 2; have j0 := H5.out.i.cell 0; have j1 := H5.out.i.cell 1; simp only [List.getElem?_cons_zero, List.getElem?_cons_succ] at k0 k1 k2 j0 j1; clear O5 ha5 ha4 B4 HS4 H3)
      | (refine wpList_load_rw rfl 28 (.tmp 4) rfl (w.heap.size + 1) cs 28 _ rfl ?_ Try.underlying28 rfl HSz ?_; exact H5.out.s)
      | (go_at_call 9; refine (C9.out _ H5.out.below).mono ?_; rintro e w6 ⟨rfl, B6⟩; have H6 := hid_into (H5.out.next B6); have HA6 := hid_into (HA.out.below B6 HA.out.lt); have hlt6 : Hid (W1.heap.size < w6.heap.size ∧ w3.heap.size < w6.heap.size) := ⟨H6.out.i.lt, HA6.out.lt⟩; clear B6 k0 k1 k2 j0 j1 C9 HA H5)
      | (refine wpList_store_rw rfl 28 (.tmp 9) (.tmp 27) rfl w6.heap.size os es 28 rfl rfl ?_ HSo HL2 HD2.out ?_; exact ha4; intro W7 hb7 O7; have H7 := hid_into (H6.out.only O7 hlt6.out.1); have HA7 := hid_into (O7.cw HA6.out (by have := hlt6.out.2; omega)); have HB7 := hid_into hb7; clear O7 hb7 ha4 B4 HS4 H6 HA6))
    have HSk : Hid (∀ V, Below W7.heap.size W7 V → (V.cell? ⟨w.heap.size, 0, none⟩ = some (.slice ao l.length cp) ∧ V.cell? ⟨w.heap.size, 1, none⟩ = some (.int .i64 cap) ∧ V.cell? ⟨w.heap.size, 2, none⟩ = some (.int .i64 fuel)) ∧ V.rangeAt w3.heap.size 0 es ∧ V.rangeAt w6.heap.size 0 es) := fun V hV => ⟨⟨(H7.out.g.below hV H7.out.g.lt).cell 0, (H7.out.g.below hV H7.out.g.lt).cell 1, (H7.out.g.below hV H7.out.g.lt).cell 2⟩, (HA7.out.below hV HA7.out.lt).range, (HB7.out.below hV HB7.out.lt).range⟩
    have S1 := HSk.out W7.drew (Below.refl _ _).drew
    have HB0 : Hid (Below W7.heap.size W7 W7.drew) := (Below.refl _ _).drew
    refine wp_region_held (S := fun V => (V.cell? ⟨w.heap.size, 0, none⟩ = some (.slice ao l.length cp) ∧ V.cell? ⟨w.heap.size, 1, none⟩ = some (.int .i64 cap) ∧ V.cell? ⟨w.heap.size, 2, none⟩ = some (.int .i64 fuel)) ∧ V.rangeAt w3.heap.size 0 es ∧ V.rangeAt w6.heap.size 0 es) (by kernel_rfl) ?_
    change wpAnyH _ _ _ _ _ _ _ _ (World.drew _)
    refine wpAnyH_take (i := 0) (v := .agg es.toArray) rfl (by kernel_rfl) (by kernel_rfl) (by kernel_rfl) (fun _ _ _ h => h) (yieldsIf_load_mid (by kernel_rfl) 28 (.tmp 7) rfl w3.heap.size 0 rfl es _ (fun V h => h.2.1) Try.underlying28 rfl HN2.out) S1 ?_
    refine wpAnyH_take (i := 1) (v := .agg es.toArray) rfl (by kernel_rfl) (by kernel_rfl) (by kernel_rfl) (fun _ _ _ h => h) (yieldsIf_load_mid (by kernel_rfl) 28 (.tmp 9) rfl w6.heap.size 0 rfl es _ (fun V h => h.2.2) Try.underlying28 rfl HN2.out) S1 ?_
    refine wpAnyH_take (i := 2) (v := .bool true) rfl (by kernel_rfl) (by kernel_rfl) (by kernel_rfl) (fun _ _ _ h => h) (yieldsIf_eql28 (by kernel_rfl) (.tmp 29) (.tmp 30) rfl es es true HEq rfl rfl) S1 ?_
    refine wpAnyH_take (i := 3) (v := .bool true) rfl (by kernel_rfl) (by kernel_rfl) (by kernel_rfl) (fun _ _ _ h => h) (Or.inl ⟨by kernel_rfl, by intro V _; go_simp⟩) S1 ?_
    refine wpAnyH_take (i := 4) (v := .int .i64 er) rfl (by kernel_rfl) (by kernel_rfl) (by kernel_rfl) (fun _ _ _ h => h) (Or.inl ⟨by kernel_rfl, by intro V _; go_simp⟩) S1 ?_
    refine wpAnyH_take (i := 5) (v := .int .i64 er) rfl (by kernel_rfl) (by kernel_rfl) (by kernel_rfl) (fun _ _ _ h => h) (Or.inl ⟨by kernel_rfl, by intro V _; go_simp⟩) S1 ?_
    refine wpAnyH_take (i := 6) (v := .bool true) rfl (by kernel_rfl) (by kernel_rfl) (by kernel_rfl) (fun _ _ _ h => h) (Or.inl ⟨by kernel_rfl, by intro V _; go_simp⟩) S1 ?_
    refine wpAnyH_take (i := 7) (v := .bool true) rfl (by kernel_rfl) (by kernel_rfl) (by kernel_rfl) (fun _ _ _ h => h) (Or.inl ⟨by kernel_rfl, by intro V _; go_simp⟩) S1 ?_
    refine wpAnyH_take (i := 8) (v := .bool true) rfl (by kernel_rfl) (by kernel_rfl) (by kernel_rfl) (fun _ _ _ h => h) (Or.inl ⟨by kernel_rfl, by intro V _; go_simp⟩) S1 ?_
    refine wpAnyH_take (i := 9) (v := .agg #[.slice ao l.length cp, .int .i64 cap, .int .i64 fuel]) rfl (by kernel_rfl) (by kernel_rfl) (by kernel_rfl) (fun _ _ _ h => h) (Or.inl ⟨by kernel_rfl, by intro V hV; obtain ⟨⟨y0, y1, y2⟩, _, _⟩ := hV; go_simp⟩) S1 ?_
    refine wpAnyH_take (i := 11) (v := .agg #[.slice ao l.length cp, .int .i64 cap, .int .i64 fuel]) rfl (by kernel_rfl) (by kernel_rfl) (by kernel_rfl) (fun _ _ _ h => h) (Or.inl ⟨by kernel_rfl, by intro V hV; obtain ⟨⟨y0, y1, y2⟩, _, _⟩ := hV; go_simp⟩) S1 ?_
    refine wpAnyH_ready (rs := [10]) (by kernel_rfl) (by simp) ?_
    refine AllReadyH.cons rfl (fun KK hK => ?_) AllReadyH.nil
    go_simp
    refine (C10.out _ (H7.out.below.trans (HB0.out.mono H7.out.below.size))).mono ?_
    rintro e w8 ⟨rfl, Bx⟩
    have HB8 := hid_into (HB0.out.trans (Bx.mono HB0.out.size))
    have S2 := HSk.out w8 HB8.out
    dsimp only
    refine hK.out _ _ (by exact S2) (fun _ => ?_)
    clear hK KK Bx
    refine wpAnyH_ready (rs := [12]) (by kernel_rfl) (by simp) ?_
    refine AllReadyH.cons rfl (fun KK hK => ?_) AllReadyH.nil
    go_simp
    refine (C11.out _ (H7.out.below.trans (HB8.out.mono H7.out.below.size))).mono ?_
    rintro e w9 ⟨rfl, Bx⟩
    have HB9 := hid_into (HB8.out.trans (Bx.mono HB8.out.size))
    have S3 := HSk.out w9 HB9.out
    dsimp only
    refine hK.out _ _ (by exact S3) (fun _ => ?_)
    clear hK KK Bx
    refine wpAnyH_take (i := 13) (v := .bool true) rfl (by kernel_rfl) (by kernel_rfl) (by kernel_rfl) (fun _ _ _ h => h) (Or.inl ⟨by kernel_rfl, by intro V _; go_simp⟩) S3 ?_
    refine wpAnyH_take (i := 14) (v := .bool true) rfl (by kernel_rfl) (by kernel_rfl) (by kernel_rfl) (fun _ _ _ h => h) (Or.inl ⟨by kernel_rfl, by intro V _; go_simp⟩) S3 ?_
    refine wpAnyH_take (i := 15) (v := .bool true) rfl (by kernel_rfl) (by kernel_rfl) (by kernel_rfl) (fun _ _ _ h => h) (Or.inl ⟨by kernel_rfl, by intro V _; go_simp⟩) S3 ?_
    refine wpAnyH_ready (rs := [16]) (by kernel_rfl) (by simp) ?_
    refine AllReadyH.cons rfl (fun KK hK => ?_) AllReadyH.nil
    go_simp
    refine (known_any _).mono ?_
    rintro e w10 ⟨rfl, Bx⟩
    have HB10 := hid_into (HB9.out.trans (Bx.mono HB9.out.size))
    have S4 := HSk.out w10 HB10.out
    dsimp only
    refine hK.out _ _ (by exact S4) (fun _ => ?_)
    clear hK KK Bx
    refine wpAnyH_take (i := 17) (v := .bool true) rfl (by kernel_rfl) (by kernel_rfl) (by kernel_rfl) (fun _ _ _ h => h) (Or.inl ⟨by kernel_rfl, by intro V _; go_simp⟩) S4 ?_
    refine wpAnyH_take (i := 18) (v := .bool true) rfl (by kernel_rfl) (by kernel_rfl) (by kernel_rfl) (fun _ _ _ h => h) (Or.inl ⟨by kernel_rfl, by intro V _; go_simp⟩) S4 ?_
    refine wpAnyH_done (by kernel_rfl) ?_ _
    go_wp2_with fail
    go_ret
    exact ⟨rfl, H7.out.below.trans (HB10.out.mono H7.out.below.size)⟩
end Go.Proofs.Ytlknolbfhfcflaa
