/-
  Joined from: HashW, StatesWalk.
-/
import Derived.Test.YtlknolbfhfcflaaGreatM24
import Derived.Test.YtlknolbfhfcflaaGreatM34
import Derived.Test.YtlknolbfhfcflaaGreatM25
import Derived.Test.YtlknolbfhfcflaaGreatM22
import Derived.Deep.RegionHeld3
import Derived.Deep.CutBlock
section
/-
  Hash, on both sides.
-/
namespace Go.Proofs.YtlknolbfhfcflaaGreat
open Go.RowKit
theorem shaB (bs : List Int) : Hid ((Tryz.prog.info? 30).map (·.size) = some (Dg.cellsOf (Dg.shaN bs)).length) := by
  refine hid_into ?_
  rw [Dg.cellsOf_length, Dg.shaN_length]
  exact Dg.Tryz.size30
theorem one8 (bs : List Int) : ∀ v ∈ Dg.cellsOf bs, v.oneCell' = true := by
  intro v hv
  simp only [Dg.cellsOf, List.mem_map] at hv
  obtain ⟨z, _, rfl⟩ := hv
  rfl
set_option maxRecDepth 20000 in
set_option maxHeartbeats 4000000 in
theorem hash_any (s : Sp) (hs : s.Wf) (h0 : -9223372036854775808 ≤ s.frame) (h1 : s.frame ≤ 9223372036854775807) (w : World) :
    Calls Tryz.prog 7 #[.agg (stV s).toArray] w fun e w' => e = .returned (.agg (Dg.cellsOf (Dg.shaN (encS s))).toArray) ∧ Below w.heap.size w w' := by
  have HE : Hid (∀ W, Calls Tryz.prog 4 #[.agg (stV s).toArray] W fun e w' => ∃ ao cap, e = .returned (.slice ao (encS s).length cap) ∧ Oc.Ow w' W.heap.size (.slice ao (encS s).length cap) (encS s) ∧ Below W.heap.size W w') := fun W => Encode_any s hs h0 h1 W
  have HB := hid_into (encS_byt h0 h1)
  have HL := hid_into (encS_len s hs)
  have HN := st_size hs
  generalize stV s = cs at HE HN ⊢
  have ZL : Hid ((Tryz.prog.info? 30).bind (·.zero) = some (.agg (Dg.cellsOf (Dg.zeroB 32)).toArray)) := Dg.Tryz.zero30
  have ZS : Hid ((Tryz.prog.info? 30).map (·.size) = some (Dg.cellsOf (Dg.zeroB 32)).length) := by
    refine hid_into ?_
    rw [Dg.cellsOf_length, Dg.zeroB_len]
    exact Dg.Tryz.size30
  have HZL : Hid ((Dg.cellsOf (Dg.zeroB 32)).length = (Dg.cellsOf (Dg.shaN (encS s))).length) := by
    refine hid_into ?_
    rw [Dg.cellsOf_length, Dg.zeroB_len, Dg.cellsOf_length, Dg.shaN_length]
  have HF := shaB (encS s)
  have H1 := hid_into (one8 (Dg.shaN (encS s)))
  have HS : Hid (∀ W v, Oc.Bs W v (encS s) → Calls Tryz.prog 20 #[v] W fun e w' => e = .returned (.agg (Dg.cellsOf (Dg.shaN (encS s))).toArray) ∧ Below W.heap.size W w') := fun W v hb => Dg.sum_any v _ W hb HB.out (by have := HL.out; omega)
  generalize Dg.cellsOf (Dg.shaN (encS s)) = fl at *
  generalize Dg.cellsOf (Dg.zeroB 32) = zl at *
  generalize encS s = R at *
  clear h0 h1 hs HB HL
  go_enter Tryz.func7, Tryz.ntmps7
  go_wp2_with (first
    | (refine wpList_box_row rfl 25 (.tmp 0) rfl cs rfl ?_; intro W1 hc1 B1 HS1)
    | (refine wpList_alloc_row rfl 30 rfl zl ZL.out ?_; intro W2 hc2 B2 HS2; have hc12 := hc1.below B2 hc1.lt)
    | (refine wpList_load_rw rfl 25 (.tmp 1) rfl w.heap.size cs 25 _ rfl ?_ Tryz.underlying25 rfl HN ?_; exact hc12)
    | (go_at_call 4; refine (HE.out _).mono ?_; rintro e w3 ⟨ao, cap, rfl, ho3, B3⟩; have CS := hid_into (HS.out _ _ ho3.bs))
    | (go_at_call 20; refine CS.out.mono ?_; rintro e w4 ⟨rfl, B4⟩; have hc4 := (hc2.below B3 hc2.lt).below B4 (Nat.lt_of_lt_of_le hc2.lt B3.size))
    | (refine wpList_store_rw rfl 30 (.tmp 2) (.tmp 5) rfl W1.heap.size zl fl 30 rfl rfl ?_ ZS HZL H1.out ?_; exact hc4; intro WA hcA OA))
  exact ret_row rfl rfl rfl hcA Tryz.underlying30 rfl HF ⟨rfl, ((((B1.trans (B2.mono B1.size)).trans (B3.mono (Nat.le_trans B1.size B2.size))).trans (B4.mono (Nat.le_trans (Nat.le_trans B1.size B2.size) B3.size))).trans (OA.below B1.size))⟩
set_option maxRecDepth 20000 in
set_option maxHeartbeats 4000000 in
theorem rhash_any (s : Sp) (hs : s.Wf) (h0 : -9223372036854775808 ≤ s.frame) (h1 : s.frame ≤ 9223372036854775807) (w : World) :
    Calls Tryz.prog 8 #[.agg (stV s).toArray] w fun e w' => e = .returned (.agg (Dg.cellsOf (Dg.shaN (encS s))).toArray) ∧ Below w.heap.size w w' := by
  have HE : Hid (∀ W, Calls Tryz.prog 6 #[.agg (stV s).toArray] W fun e w' => ∃ ao cap, e = .returned (.slice ao (encS s).length cap) ∧ Oc.Ow w' W.heap.size (.slice ao (encS s).length cap) (encS s) ∧ Below W.heap.size W w') := fun W => rEncode_any s hs h0 h1 W
  have HB := hid_into (encS_byt h0 h1)
  have HL := hid_into (encS_len s hs)
  have HN := st_size hs
  generalize stV s = cs at HE HN ⊢
  have ZL : Hid ((Tryz.prog.info? 30).bind (·.zero) = some (.agg (Dg.cellsOf (Dg.zeroB 32)).toArray)) := Dg.Tryz.zero30
  have ZS : Hid ((Tryz.prog.info? 30).map (·.size) = some (Dg.cellsOf (Dg.zeroB 32)).length) := by
    refine hid_into ?_
    rw [Dg.cellsOf_length, Dg.zeroB_len]
    exact Dg.Tryz.size30
  have HZL : Hid ((Dg.cellsOf (Dg.zeroB 32)).length = (Dg.cellsOf (Dg.shaN (encS s))).length) := by
    refine hid_into ?_
    rw [Dg.cellsOf_length, Dg.zeroB_len, Dg.cellsOf_length, Dg.shaN_length]
  have HF := shaB (encS s)
  have H1 := hid_into (one8 (Dg.shaN (encS s)))
  have HS : Hid (∀ W v, Oc.Bs W v (encS s) → Calls Tryz.prog 21 #[v] W fun e w' => e = .returned (.agg (Dg.cellsOf (Dg.shaN (encS s))).toArray) ∧ Below W.heap.size W w') := fun W v hb => Dg.rsum_any v _ W hb HB.out (by have := HL.out; omega)
  generalize Dg.cellsOf (Dg.shaN (encS s)) = fl at *
  generalize Dg.cellsOf (Dg.zeroB 32) = zl at *
  generalize encS s = R at *
  clear h0 h1 hs HB HL
  go_enter Tryz.func8, Tryz.ntmps8
  go_wp2_with (first
    | (refine wpList_box_row rfl 25 (.tmp 0) rfl cs rfl ?_; intro W1 hc1 B1 HS1)
    | (refine wpList_alloc_row rfl 30 rfl zl ZL.out ?_; intro W2 hc2 B2 HS2; have hc12 := hc1.below B2 hc1.lt)
    | (refine wpList_load_rw rfl 25 (.tmp 1) rfl w.heap.size cs 25 _ rfl ?_ Tryz.underlying25 rfl HN ?_; exact hc12)
    | (go_at_call 6; refine (HE.out _).mono ?_; rintro e w3 ⟨ao, cap, rfl, ho3, B3⟩; have CS := hid_into (HS.out _ _ ho3.bs))
    | (go_at_call 21; refine CS.out.mono ?_; rintro e w4 ⟨rfl, B4⟩; have hc4 := (hc2.below B3 hc2.lt).below B4 (Nat.lt_of_lt_of_le hc2.lt B3.size))
    | (refine wpList_store_rw rfl 30 (.tmp 2) (.tmp 5) rfl W1.heap.size zl fl 30 rfl rfl ?_ ZS HZL H1.out ?_; exact hc4; intro WA hcA OA))
  exact ret_row rfl rfl rfl hcA Tryz.underlying30 rfl HF ⟨rfl, ((((B1.trans (B2.mono B1.size)).trans (B3.mono (Nat.le_trans B1.size B2.size))).trans (B4.mono (Nat.le_trans (Nat.le_trans B1.size B2.size) B3.size))).trans (OA.below B1.size))⟩
end Go.Proofs.YtlknolbfhfcflaaGreat
end

section
/-
  VmStates' own walk.
-/
namespace Go.Proofs.YtlknolbfhfcflaaGreat
open Go.RowKit
theorem guard30 : Tryz.prog.eqGuardType Tryz.prog.depth 30 = false := by kernel_rfl
theorem yieldsIf_neq30 {ops : Array Oper} {S : World → Prop} {op : Oper} {a : Act} (hw : Region.wanted op (yielded ops a.tmps) = true) (x y : Operand) (ho : op.op = .binOp .neq 30 x y 30) (cs : List Value) (hq : Hid (∀ w, (Op.equalIn 10000 30 (.agg cs.toArray) (.agg cs.toArray)).run Tryz.prog w = .ok true w)) (hx : a.eval x = .agg cs.toArray) (hy : a.eval y = .agg cs.toArray) : YieldsIf Tryz.prog ops S op (.bool false) a :=
  .inl ⟨hw, fun w _ => by
    unfold execOp
    simp only [ho, hx, hy, Sem.run_bind, run_eqGuard_agg w .neq 30 x y cs.toArray cs.toArray guard30, Result.andThen_ok, run_neq_struct, hq.out w, Sem.run_pure]
    rfl⟩
set_option maxRecDepth 20000 in
set_option maxHeartbeats 4000000 in
theorem states_walk (s : Sp) (hs : s.Wf) (h0 : -9223372036854775808 ≤ s.frame) (h1 : s.frame ≤ 9223372036854775807) (w : World) :
    Calls Tryz.prog 3 #[.agg (stV s).toArray] w fun e w' => e = .returned (.bool true) ∧ Below w.heap.size w w' := by
  have hby := encS_byt h0 h1
  have hln := encS_len s hs
  have HE4 : Hid (∀ W, Calls Tryz.prog 4 #[.agg (stV s).toArray] W fun e w' => ∃ ao cap, e = .returned (.slice ao (encS s).length cap) ∧ Oc.Ow w' W.heap.size (.slice ao (encS s).length cap) (encS s) ∧ Below W.heap.size W w') := fun W => Encode_any s hs h0 h1 W
  have HE6 : Hid (∀ W, Calls Tryz.prog 6 #[.agg (stV s).toArray] W fun e w' => ∃ ao cap, e = .returned (.slice ao (encS s).length cap) ∧ Oc.Ow w' W.heap.size (.slice ao (encS s).length cap) (encS s) ∧ Below W.heap.size W w') := fun W => rEncode_any s hs h0 h1 W
  have HH7 : Hid (∀ W, Calls Tryz.prog 7 #[.agg (stV s).toArray] W fun e w' => e = .returned (.agg (Dg.cellsOf (Dg.shaN (encS s))).toArray) ∧ Below W.heap.size W w') := fun W => hash_any s hs h0 h1 W
  have HH8 : Hid (∀ W, Calls Tryz.prog 8 #[.agg (stV s).toArray] W fun e w' => e = .returned (.agg (Dg.cellsOf (Dg.shaN (encS s))).toArray) ∧ Below W.heap.size W w') := fun W => rhash_any s hs h0 h1 W
  have HEh : Hid (∀ W, (Op.equalIn 10000 30 (.agg (Dg.cellsOf (Dg.shaN (encS s))).toArray) (.agg (Dg.cellsOf (Dg.shaN (encS s))).toArray)).run Tryz.prog W = .ok true W) := fun W => by
    rw [Dg.run_equal_hash _ _ (Dg.shaN_length _) (Dg.shaN_length _), show Dg.eqB (Dg.shaN (encS s)) (Dg.shaN (encS s)) = true by simp [Dg.eqB]]
  have HD9 : Hid (∀ W v, Oc.Bs W v (encS s) → Calls Tryz.prog 9 #[v] W fun e w' => e = .returned (.tuple #[.agg (stV (decP (encS s)).1).toArray, .int .i64 (decP (encS s)).2]) ∧ Below W.heap.size W w') := fun W v hb => Decode_any v _ W hb hby (by omega)
  have HD12 : Hid (∀ W v, Oc.Bs W v (encS s) → (∀ k, v.ownBlock = some k → k < W.heap.size) → Calls Tryz.prog 12 #[v] W fun e w' => e = .returned (.tuple #[.agg (stV (decP (encS s)).1).toArray, .int .i64 (decP (encS s)).2]) ∧ Below W.heap.size W w') := fun W v hb ho => rDecode_any v _ W hb hby ho
  have HI10 : Hid (∀ W, Calls Tryz.prog 10 #[.agg (stV s).toArray] W fun e w' => e = .returned (.bool (isS s)) ∧ Below W.heap.size W w') := fun W => rIs_c _ s (stV_c hs) W
  have HN := st_size hs
  have hwx := decP_wf hby
  have HNx := st_size hwx
  have HLx := st_len hwx
  have HOx := st_one hwx
  have HEx := hid_into (run_eqS _ _ hwx hwx)
  rw [eqS_same] at HEx
  have HZ : Hid ((Tryz.prog.info? 25).bind (·.zero) = some (.agg zeroS.toArray)) := Tryz.zero25
  have ZS := zeroS_size
  have HBK : Hid (isS s = true → stV (decP (encS s)).1 = stV s ∧ (decP (encS s)).2 = 0) := fun h => by rw [enc_back hs h]; exact ⟨rfl, rfl⟩
  have CK := hid_into known_any
  generalize stV (decP (encS s)).1 = xs at *
  generalize (decP (encS s)).2 = er at *
  generalize Dg.cellsOf (Dg.shaN (encS s)) = fl at *
  generalize stV s = cs at *
  generalize isS s = q at *
  generalize encS s = R at *
  clear hs h0 h1 hwx hby hln
  go_enter Tryz.func3, Tryz.ntmps3
  go_upto_region 2 with (go_big_may; first
    | (refine wpList_box_row rfl 25 (.tmp 0) rfl cs rfl ?_; intro W1 hc1 B1 HS1)
    | (refine wpList_load_rw rfl 25 (.tmp 1) rfl w.heap.size cs 25 _ rfl ?_ Tryz.underlying25 rfl HN ?_; exact hc1)
    | (go_at_call 4; refine (HE4.out _).mono ?_; rintro e w2 ⟨ao, cap, rfl, ho2, B2⟩))
  have hc2 : Cw w2 w.heap.size cs 25 := hc1.below B2 hc1.lt
  have HB2 := hid_into (B1.trans (B2.mono B1.size))
  have HX : Hid (∀ W, Below w2.heap.size w2 W → W.rangeAt w.heap.size 0 cs) := fun W hW => (hc2.below hW hc2.lt).range
  have HCx : Hid (∀ W, Below w2.heap.size w2 W → Cw W w.heap.size cs 25) := fun W hW => hc2.below hW hc2.lt
  have HBs : Hid (∀ W, Below w2.heap.size w2 W → Oc.Bs W (.slice ao R.length cap) R) := fun W hW => ho2.bs.below hW (Nat.le_refl _)
  have HOw : Hid (∀ k, (Value.slice ao R.length cap).ownBlock = some k → k < w2.heap.size) := fun k hk => (World.ownsRow.lt ho2 k hk).2
  have HSame : Hid (∀ W, Below w2.heap.size w2 W → ∀ v, Oc.Bs W v R → Calls Tryz.prog 5 #[.slice ao R.length cap, v] W fun e w' => e = .returned (.bool true) ∧ Oc.Sm W w') := fun W hW v hv => by
    have h9 := Oc.same_any _ v R R W (HBs.out W hW) hv
    rw [show Oc.eqB R R = true by simp [Oc.eqB]] at h9
    exact h9
  have S1 := HX.out w2.drew (Below.refl _ _).drew
  clear hc1 hc2 B1 B2 ho2 HS1
  refine wp_region_held (S := fun V => V.rangeAt w.heap.size 0 cs) (by kernel_rfl) ?_
  change wpAnyH _ _ _ _ _ _ _ _ (World.drew _)
  refine wpAnyH_take (i := 0) (v := .slice ao R.length cap) rfl (by kernel_rfl) (by kernel_rfl) (by kernel_rfl) (fun _ _ _ h => h) (Or.inl ⟨by kernel_rfl, by intro V _; go_simp⟩) S1 ?_
  refine wpAnyH_take (i := 1) (v := .agg cs.toArray) rfl (by kernel_rfl) (by kernel_rfl) (by kernel_rfl) (fun _ _ _ h => h) (yieldsIf_load_mid (by kernel_rfl) 25 (.tmp 1) rfl w.heap.size 0 rfl cs _ (fun V h => h) Tryz.underlying25 rfl HN.out) S1 ?_
  refine wpAnyH_ready (rs := [2]) (by kernel_rfl) (by simp) ?_
  refine AllReadyH.cons rfl (fun KK hK => ?_) AllReadyH.nil
  go_simp
  refine (HE6.out w2.drew).mono ?_
  rintro e w5 ⟨ao5, cap5, rfl, ho5, B5'⟩
  have B5 : Hid (Below w2.heap.size w2 w5) := ⟨B5'.os, B5'.tape, B5'.output, B5'.size, B5'.block⟩
  have S5 := HX.out w5 B5.out
  have C5 := hid_into (HSame.out w5 B5.out _ ho5.bs)
  clear ho5 B5'
  dsimp only
  refine hK.out _ _ (by exact S5) (fun _ => ?_)
  clear hK KK
  refine wpAnyH_ready (rs := [3]) (by kernel_rfl) (by simp) ?_
  refine AllReadyH.cons rfl (fun KK hK => ?_) AllReadyH.nil
  go_simp
  refine (C5.out).mono ?_
  rintro e w6 ⟨rfl, hm6⟩
  have B6 : Hid (Below w2.heap.size w2 w6) := B5.out.trans ((hm6.below w5.heap.size).mono B5.out.size)
  have S6 := HX.out w6 B6.out
  dsimp only
  refine hK.out _ _ (by exact S6) (fun _ => ?_)
  clear hK KK
  refine wpAnyH_take (i := 4) (v := .bool false) rfl (by kernel_rfl) (by kernel_rfl) (by kernel_rfl) (fun _ _ _ h => h) (Or.inl ⟨by kernel_rfl, by intro V _; go_simp⟩) S6 ?_
  refine wpAnyH_take (i := 5) (v := .bool false) rfl (by kernel_rfl) (by kernel_rfl) (by kernel_rfl) (fun _ _ _ h => h) (Or.inl ⟨by kernel_rfl, by intro V _; go_simp⟩) S6 ?_
  refine wpAnyH_take (i := 6) (v := .agg cs.toArray) rfl (by kernel_rfl) (by kernel_rfl) (by kernel_rfl) (fun _ _ _ h => h) (yieldsIf_load_mid (by kernel_rfl) 25 (.tmp 1) rfl w.heap.size 0 rfl cs _ (fun V h => h) Tryz.underlying25 rfl HN.out) S6 ?_
  refine wpAnyH_take (i := 8) (v := .agg cs.toArray) rfl (by kernel_rfl) (by kernel_rfl) (by kernel_rfl) (fun _ _ _ h => h) (yieldsIf_load_mid (by kernel_rfl) 25 (.tmp 1) rfl w.heap.size 0 rfl cs _ (fun V h => h) Tryz.underlying25 rfl HN.out) S6 ?_
  refine wpAnyH_ready (rs := [7]) (by kernel_rfl) (by simp) ?_
  refine AllReadyH.cons rfl (fun KK hK => ?_) AllReadyH.nil
  go_simp
  refine (HH7.out w6).mono ?_
  rintro e w7 ⟨rfl, B7'⟩
  have B7 : Hid (Below w2.heap.size w2 w7) := B6.out.trans (B7'.mono B6.out.size)
  have S7 := HX.out w7 B7.out
  clear B7'
  dsimp only
  refine hK.out _ _ (by exact S7) (fun _ => ?_)
  clear hK KK
  refine wpAnyH_ready (rs := [9]) (by kernel_rfl) (by simp) ?_
  refine AllReadyH.cons rfl (fun KK hK => ?_) AllReadyH.nil
  go_simp
  refine (HH8.out w7).mono ?_
  rintro e w8 ⟨rfl, B8'⟩
  have B8 : Hid (Below w2.heap.size w2 w8) := B7.out.trans (B8'.mono B7.out.size)
  have S8 := HX.out w8 B8.out
  clear B8'
  dsimp only
  refine hK.out _ _ (by exact S8) (fun _ => ?_)
  clear hK KK
  refine wpAnyH_take (i := 10) (v := .bool false) rfl (by kernel_rfl) (by kernel_rfl) (by kernel_rfl) (fun _ _ _ h => h) (yieldsIf_neq30 (by kernel_rfl) (.tmp 17) (.tmp 19) rfl fl HEh (by kernel_rfl) (by kernel_rfl)) S8 ?_
  refine wpAnyH_take (i := 11) (v := .bool false) rfl (by kernel_rfl) (by kernel_rfl) (by kernel_rfl) (fun _ _ _ h => h) (Or.inl ⟨by kernel_rfl, by intro V _; go_simp⟩) S8 ?_
  simp only [List.getElem_toArray, List.getElem_cons_zero, List.getElem_cons_succ, Act.put, List.setIfInBounds_toArray, List.set_cons_zero, List.set_cons_succ]
  refine wpAnyH_done (by kernel_rfl) ?_ _
  cases q with
  | true =>
    obtain ⟨hx, he⟩ := HBK.out rfl
    subst hx
    subst he
    go_wp2_with (first
      | (go_at_call 9; refine (HD9.out _ _ (HBs.out _ B8.out)).mono ?_; rintro e w9 ⟨rfl, B9'⟩; have B9 : Hid (Below w2.heap.size w2 w9) := B8.out.trans (B9'.mono B8.out.size); clear B9')
      | (have _k := B9; refine wpList_alloc_row rfl 25 rfl zeroS HZ.out ?_; intro W10 hc10 Ba HSa; have B10 : Hid (Below w2.heap.size w2 W10) := B9.out.trans (Ba.mono B9.out.size); have HS9 : Hid (w2.heap.size ≤ w9.heap.size) := B9.out.size; clear Ba B9)
      | (refine wpList_store_rw rfl 25 (.tmp 4) (.tmp 25) rfl w9.heap.size zeroS xs 25 rfl rfl ?_ ZS HLx HOx.out ?_; exact hc10; intro W11 hc11 O11; have B11 : Hid (Below w2.heap.size w2 W11) := B10.out.trans (O11.below HS9.out); have hb11 := HCx.out _ B11.out)
      | (have _k := hb11; refine wpList_load_rw rfl 25 (.tmp 1) rfl w.heap.size xs 25 _ rfl ?_ Tryz.underlying25 rfl HNx ?_; exact hb11)
      | (go_at_call 10; refine (HI10.out _).mono ?_; rintro e w12 ⟨rfl, B12'⟩; have B12 : Hid (Below w2.heap.size w2 w12) := B11.out.trans (B12'.mono B11.out.size); have hc12 := hc11.below B12' hc11.lt; have hb12 := HCx.out _ B12.out; clear B12' hb11 hc11)
      | (refine wpList_load_rwG (by kernel_rfl) 25 (.tmp 4) rfl w9.heap.size xs 25 _ rfl ?_ Tryz.underlying25 rfl HNx ?_; exact hc12)
      | (refine wpList_load_rwG (by kernel_rfl) 25 (.tmp 1) rfl w.heap.size xs 25 _ rfl ?_ Tryz.underlying25 rfl HNx ?_; exact hb12)
      | (refine wpList_eql28 (by kernel_rfl) (.tmp 32) (.tmp 33) rfl xs xs true HEx rfl rfl ?_)
      | (go_at_call 11; refine (CK.out _).mono ?_; rintro e w13 ⟨rfl, B13⟩))
    go_ret
    exact ⟨rfl, (HB2.out.trans (B12.out.mono HB2.out.size)).trans (B13.mono (Nat.le_trans HB2.out.size B12.out.size))⟩
  | false =>
    clear HBK
    go_wp2_with (first
      | (go_at_call 9; refine (HD9.out _ _ (HBs.out _ B8.out)).mono ?_; rintro e w9 ⟨rfl, B9'⟩; have B9 : Hid (Below w2.heap.size w2 w9) := B8.out.trans (B9'.mono B8.out.size); clear B9')
      | (have _k := B9; refine wpList_alloc_row rfl 25 rfl zeroS HZ.out ?_; intro W10 hc10 Ba HSa; have B10 : Hid (Below w2.heap.size w2 W10) := B9.out.trans (Ba.mono B9.out.size); have HS9 : Hid (w2.heap.size ≤ w9.heap.size) := B9.out.size; clear Ba B9)
      | (refine wpList_store_rw rfl 25 (.tmp 4) (.tmp 25) rfl w9.heap.size zeroS xs 25 rfl rfl ?_ ZS HLx HOx.out ?_; exact hc10; intro W11 hc11 O11; have B11 : Hid (Below w2.heap.size w2 W11) := B10.out.trans (O11.below HS9.out); have hb11 := HCx.out _ B11.out)
      | (have _k := hb11; refine wpList_load_rw rfl 25 (.tmp 1) rfl w.heap.size cs 25 _ rfl ?_ Tryz.underlying25 rfl HN ?_; exact hb11)
      | (go_at_call 10; refine (HI10.out _).mono ?_; rintro e w12 ⟨rfl, B12'⟩; have B12 : Hid (Below w2.heap.size w2 w12) := B11.out.trans (B12'.mono B11.out.size); have hc12 := hc11.below B12' hc11.lt; have hb12 := HCx.out _ B12.out; clear B12' hb11 hc11)
      | (go_at_call 12; refine (HD12.out _ _ (HBs.out _ B12.out) fun k hk => Nat.lt_of_lt_of_le (HOw.out k hk) B12.out.size).mono ?_; rintro e w13 ⟨rfl, B13'⟩; have B13 : Hid (Below w2.heap.size w2 w13) := B12.out.trans (B13'.mono B12.out.size); have hc13 := hc12.below B13' hc12.lt; clear B13')
      | (have _k := B13; refine wpList_alloc_row rfl 25 rfl zeroS HZ.out ?_; intro W14 hc14 Bb HSb; have B14 : Hid (Below w2.heap.size w2 W14) := B13.out.trans (Bb.mono B13.out.size); have HS13 : Hid (w2.heap.size ≤ w13.heap.size) := B13.out.size; have hc13' := hc13.below Bb hc13.lt; have hne := hid_into (Nat.ne_of_lt hc13.lt); clear Bb B13)
      | (refine wpList_store_rw rfl 25 (.tmp 6) (.tmp 42) rfl w13.heap.size zeroS xs 25 rfl rfl ?_ ZS HLx HOx.out ?_; exact hc14; intro W15 hc15 O15; have B15 : Hid (Below w2.heap.size w2 W15) := B14.out.trans (O15.below HS13.out); have hd15 := O15.cw hc13' hne.out)
      | (refine wpList_load_rw rfl 25 (.tmp 4) rfl w9.heap.size xs 25 _ rfl ?_ Tryz.underlying25 rfl HNx ?_; exact hd15)
      | (refine wpList_load_rw rfl 25 (.tmp 6) rfl w13.heap.size xs 25 _ rfl ?_ Tryz.underlying25 rfl HNx ?_; exact hc15)
      | (refine wpList_eql28 (by kernel_rfl) (.tmp 44) (.tmp 45) rfl xs xs true HEx rfl rfl ?_)
      | (go_at_call 11; refine (CK.out _).mono ?_; rintro e w16 ⟨rfl, B16⟩))
    go_ret
    exact ⟨rfl, (HB2.out.trans (B15.out.mono HB2.out.size)).trans (B16.mono (Nat.le_trans HB2.out.size B15.out.size))⟩
end Go.Proofs.YtlknolbfhfcflaaGreat
end
