/-
  DuelBeyond, its walk.
-/
import Derived.Test.YtgnbcalfojifnaaLawD
import Derived.Deep.RegionHeld3
namespace Go.Proofs.Ytgnbcalfojifnaa
open Go.RowKit
section
variable {ops : Array Oper} {o : Oper} {a : Act} {w : World} {K : Act → World → Prop} {Q : Exit → Act → World → Prop} {E : Prop}
theorem run_made_nil (w : World) : (Instr.buildSlice 26 0 #[]).run Try.prog w = .ok (.slice (some ⟨w.heap.size, 0, none⟩) 0 0) (w.alloc (.cells #[] 43)) := by kernel_rfl
theorem step_made_nil (hgd : o.guard = none) (ho : o.op = .buildSlice 26 0 #[]) (h : K (a.put o.dst (.slice (some ⟨w.heap.size, 0, none⟩) 0 0)) (w.alloc (.cells #[] 43))) : if Region.wanted o (yielded ops a.tmps) = true then Oper.wp Try.prog o a w K Q else E := by
  have hw : Region.wanted o (yielded ops a.tmps) = true := by simp [Region.wanted, hgd]
  rw [if_pos hw]
  unfold Oper.wp execOp
  simp only [ho, Sem.run_bind, List.map_toArray, List.map_nil, run_made_nil, Result.andThen_ok]
  exact h
theorem Po.keep30 {w w' : World} {base : Nat} {v : Value} {xs : List (Int × Int)} (h : Po w base v xs) (hg : w.grownBy w' v.ownBlock) {nb : Nat} {cs : List Value} (hc : Cw w nb cs 30) : Cw w' nb cs 30 := by
  refine hc.keep (hg.block nb hc.lt fun e => ?_)
  rcases h.2 with ⟨rfl, _⟩ | ⟨g, cap, cur, rfl, _, hh, _⟩
  · cases e
  · have e2 : g = nb := by simpa [Value.ownBlock] using e.symm
    rw [e2, show w.heap[nb]? = _ from hc] at hh
    simp at hh
theorem step_append_ps (hgd : o.guard = none) (s x : Operand) (ho : o.op = .call { callee := .builtin .append, args := #[s, x], argTypes := #[26, 26] })
    (base : Nat) (v : Value) (xs : List (Int × Int)) (hs : a.eval s = v) (hown : Po w base v xs) (vx : Value) (zs : List (Int × Int)) (hx : a.eval x = vx) (hb : Ps w vx zs) (h63 : xs.length + zs.length ≤ 1000000) (hbase : base ≤ w.heap.size)
    (h : ∀ ao cap w', Po w' base (.slice ao (xs.length + zs.length) cap) (xs ++ zs) → Below base w w' → (∀ nb cs, Cw w nb cs 30 → Cw w' nb cs 30) → K (a.put o.dst (.slice ao (xs.length + zs.length) cap)) w') : if Region.wanted o (yielded ops a.tmps) = true then Oper.wp Try.prog o a w K Q else E := by
  have hw : Region.wanted o (yielded ops a.tmps) = true := by simp [Region.wanted, hgd]
  rw [if_pos hw]
  obtain ⟨ao, cap, w', hr, h2, h3, h4⟩ := run_append_ps w base o.type v xs hown vx zs hb h63 hbase
  unfold Oper.wp execOp
  simp only [ho, resolve, invoke, builtin, Sem.run_bind, Sem.run_pure, Result.andThen_ok, List.map_toArray, List.map_cons, List.map_nil, hs, hx, hr]
  exact h ao cap w' h2 (Grows.below (Grows.grownBy (F := fun k => v.ownBlock = some k) h3 fun k hk => hk) hbase fun k hk => (hown.lt k hk).1) fun nb cs hc => hown.keep30 h3 hc
end
set_option maxRecDepth 20000 in
set_option maxHeartbeats 8000000 in
theorem beyond_walk (cv : Value) (l : List Ii) (cap fuel seed : Int) (iv : Value) (ps : List (Int × Int)) (mv : Value) (qs : List (Int × Int)) (w : World) (hl : Ls w cv l) (hseed : 0 ≤ seed ∧ seed < 4294967296) (hp : Ps w iv ps) (hin : InP ps) (hq : Ps w mv qs) (hinq : InP qs) :
    Calls Try.prog 7 #[gameV cv cap fuel, .int .u32 seed, iv, mv] w fun e w' => e = .returned (.bool true) ∧ Below w.heap.size w w' := by
  obtain ⟨ao, cp, rfl, hm⟩ := hl.len
  obtain ⟨ai, ci, rfl, hmi⟩ := hp.len
  obtain ⟨am, cm, rfl, hmm⟩ := hq.len
  have C9 := hid_into fun W => heavy_any ao ai l.length cp ps.length ci cap fuel W
  have C17 : Hid (∀ W, Below w.heap.size w W → Calls Try.prog 17 #[.agg #[.slice ao l.length cp, .int .i64 cap, .int .i64 fuel]] W fun e w' => e = .returned (.int .i64 (chkG l cap fuel)) ∧ Below W.heap.size W w') := fun W hW => rChk_any _ l cap fuel W (hl.below hW)
  have P1 := hid_into (Pw.make w (.slice ao l.length cp) cap fuel)
  unfold gameV
  cases hhv : hvy l.length ps.length with
  | true =>
    rw [hhv] at C9
    go_enter Try.func7, Try.ntmps7
    go_wp2_with (go_at_call 9; refine (C9.out _).mono ?_; rintro e w2 ⟨rfl, B2⟩; have P2 := hid_into (P1.out.next B2))
    go_ret
    exact ⟨rfl, P2.out.below⟩
  | false =>
    rw [hhv] at C9
    have hlen : ps.length ≤ 100 := by
      simp only [hvy, decide_eq_false_iff_not] at hhv
      omega
    by_cases hq50 : 50 < qs.length
    · have hq50' : (50 : Int) < qs.length := by omega
      go_enter Try.func7, Try.ntmps7
      go_wp2_with (go_at_call 9; refine (C9.out _).mono ?_; rintro e w2 ⟨rfl, B2⟩; have P2 := hid_into (P1.out.next B2))
      go_ret
      exact ⟨rfl, P2.out.below⟩
    have hq50' : (qs.length : Int) ≤ 50 := by omega
    by_cases hc : chkG l cap fuel = 0
    · rw [hc] at C17
      have hg0 := startS_gs seed cap hseed (chkG_cap hc).2.1
      have hinpq : InP (ps ++ qs) := fun q hq => by
        rcases List.mem_append.1 hq with h1 | h1
        · exact hin q h1
        · exact hinq q h1
      have hge := endG_gs hc ps _ hin hg0
      have hgt := endG_gs hc (ps ++ qs) _ hinpq hg0
      have happ := endG_append l cap fuel ps qs (startS seed)
      have hfr := endG_frame l cap fuel qs (endG l cap fuel (startS seed) ps)
      rw [← happ] at hfr
      have hovr : (endG l cap fuel (startS seed) ps).over = true → endG l cap fuel (startS seed) (ps ++ qs) = endG l cap fuel (startS seed) ps := fun h => by rw [happ]; exact endG_over qs h
      have C10 : Hid (∀ W, Below w.heap.size w W → Calls Try.prog 10 #[.agg #[.slice ao l.length cp, .int .i64 cap, .int .i64 fuel], .int .u32 seed, .slice ai ps.length ci] W fun e w' => e = .returned (.tuple #[.agg (stV (endG l cap fuel (startS seed) ps)).toArray, .int .i64 0]) ∧ Below W.heap.size W w') := fun W hW => by
        have h := Play_any _ l cap fuel seed _ ps W (hl.below hW) (hp.below hW) hin hseed
        rw [show playE l cap fuel seed ps = (endG l cap fuel (startS seed) ps, 0) from if_pos hc] at h
        exact h
      have C10t : Hid (∀ W xv, Below w.heap.size w W → Ps W xv (ps ++ qs) → Calls Try.prog 10 #[.agg #[.slice ao l.length cp, .int .i64 cap, .int .i64 fuel], .int .u32 seed, xv] W fun e w' => e = .returned (.tuple #[.agg (stV (endG l cap fuel (startS seed) (ps ++ qs))).toArray, .int .i64 0]) ∧ Below W.heap.size W w') := fun W xv hW hx => by
        have h := Play_any _ l cap fuel seed xv (ps ++ qs) W (hl.below hW) hx hinpq hseed
        rw [show playE l cap fuel seed (ps ++ qs) = (endG l cap fuel (startS seed) (ps ++ qs), 0) from if_pos hc] at h
        exact h
      generalize endG l cap fuel (startS seed) ps = E at hge hfr hovr C10
      generalize endG l cap fuel (startS seed) (ps ++ qs) = F at hgt hfr hovr C10t
      have HP := hid_into hp
      have HQ := hid_into hq
      have HCE := hid_into (stV_c hge.wf)
      have HCF := hid_into (stV_c hgt.wf)
      have HLE := st_len hge.wf
      have HOE := st_one hge.wf
      have HNE := st_size hge.wf
      have HLe := st_len hgt.wf
      have HOe := st_one hgt.wf
      have HNF := st_size hgt.wf
      have HEE : Hid (E.over = true → F = E) := hovr
      have HEq := hid_into (run_eqS E E hge.wf hge.wf)
      rw [eqS_same] at HEq
      have hf1 := hgt.f1
      have HZ : Hid ((Try.prog.info? 30).bind (·.zero) = some (.agg zeroS.toArray)) := Try.zero30
      have ZS := zeroS_size
      have CK := hid_into known_any
      obtain ⟨ee, hee⟩ : ∃ ee, ee = stV E := ⟨_, rfl⟩
      obtain ⟨et, het⟩ : ∃ et, et = stV F := ⟨_, rfl⟩
      rw [← hee] at C10 HLE HOE HNE HCE HEq
      rw [← het] at C10t HLe HOe HNF HCF
      have HEe := hid_into hee
      have HEt := hid_into het
      have Hlen := hid_into hlen
      have Hlq : Hid (qs.length ≤ 50) := by exact hid_into (by omega)
      clear hee het hge hgt hg0 hl hp hin hm hseed hhv hc happ hovr hinpq hq hinq hmi hmm
      go_enter Try.func7, Try.ntmps7
      go_upto_region 4 with (go_big_may; first
        | (go_at_call 9; refine (C9.out _).mono ?_; rintro e w2 ⟨rfl, B2⟩; have P2 := hid_into (P1.out.next B2); obtain ⟨k0, k1, k2⟩ := P2.out.cells; clear B2 P1 C9)
        | (go_at_call 17; refine (C17.out _ P2.out.below).mono ?_; rintro e w3 ⟨rfl, B3⟩; have P3 := hid_into (P2.out.next B3); clear B3 P2 k0 k1 k2 C17; obtain ⟨k0, k1, k2⟩ := P3.out.cells)
        | (go_at_call 10; refine (C10.out _ P3.out.below).mono ?_; rintro e w4 ⟨rfl, B4⟩; have P4 := hid_into (P3.out.next B4); clear P3 B4 k0 k1 k2 C10)
        | (have _p := P4; refine wpList_alloc_row rfl 30 rfl zeroS HZ.out ?_; intro W5 hn5 B5 _)
        | (refine wpList_store_rw rfl 30 (.tmp 9) (.tmp 31) rfl w4.heap.size zeroS ee 30 rfl rfl ?_ ZS HLE HOE.out ?_; exact hn5; intro W6 hn6 O6; have P6 := hid_into (P4.out.fresh B5 O6 hn6); clear P4 B5 O6 hn6 hn5))
      go_cut [11, 12] (fun pv ev wx => ∃ nb, pv = .pointer (some ⟨nb, 0, none⟩) ∧ ev = .int .i64 0 ∧ W6.heap.size ≤ nb ∧ Cw wx nb et 30 ∧ Below W6.heap.size W6 wx)
      case first =>
        have HSk : Hid (∀ V, Below W6.heap.size W6 V → (fun V => V.cell? ⟨w.heap.size, 0, none⟩ = some (.slice ao l.length cp) ∧ V.cell? ⟨w.heap.size, 1, none⟩ = some (.int .i64 cap) ∧ V.cell? ⟨w.heap.size, 2, none⟩ = some (.int .i64 fuel)) V) := fun V hV => (P6.out.next hV).cells
        have S1 := HSk.out W6.drew (Below.refl _ _).drew
        have HB0 : Hid (Below W6.heap.size W6 W6.drew) := (Below.refl _ _).drew
        dsimp only at S1
        refine wp_region_held (S := fun V => V.cell? ⟨w.heap.size, 0, none⟩ = some (.slice ao l.length cp) ∧ V.cell? ⟨w.heap.size, 1, none⟩ = some (.int .i64 cap) ∧ V.cell? ⟨w.heap.size, 2, none⟩ = some (.int .i64 fuel)) (by kernel_rfl) ?_
        change wpAnyH _ _ _ _ _ _ _ _ (World.drew _)
        refine wpAnyH_take (i := 0) (v := .agg #[.slice ao l.length cp, .int .i64 cap, .int .i64 fuel]) rfl (by kernel_rfl) (by kernel_rfl) (by kernel_rfl) (fun _ _ _ h => h) (Or.inl ⟨by kernel_rfl, by intro V hV; obtain ⟨y0, y1, y2⟩ := hV; go_simp⟩) S1 ?_
        refine wpAnyH_take (i := 1) (v := .int .u32 seed) rfl (by kernel_rfl) (by kernel_rfl) (by kernel_rfl) (fun _ _ _ h => h) (Or.inl ⟨by kernel_rfl, by intro V _; go_simp⟩) S1 ?_
        refine wpAnyH_take (i := 3) (v := .slice ai ps.length ci) rfl (by kernel_rfl) (by kernel_rfl) (by kernel_rfl) (fun _ _ _ h => h) (Or.inl ⟨by kernel_rfl, by intro V _; go_simp⟩) S1 ?_
        refine wpAnyH_take (i := 5) (v := .slice am qs.length cm) rfl (by kernel_rfl) (by kernel_rfl) (by kernel_rfl) (fun _ _ _ h => h) (Or.inl ⟨by kernel_rfl, by intro V _; go_simp⟩) S1 ?_
        refine wpAnyH_ready (rs := [2, 11]) (by kernel_rfl) (by simp) ?_
        refine AllReadyH.cons rfl (fun KK hK => ?_) (AllReadyH.cons rfl (fun KK hK => ?_) AllReadyH.nil)
        · refine step_made_nil rfl rfl ?_
          have Bx : Below W6.drew.heap.size W6.drew (W6.drew.alloc (.cells #[] 43)) := (Below.refl _ _).alloc (Nat.le_refl _) _
          have hPm : Po (W6.drew.alloc (.cells #[] 43)) W6.drew.heap.size (.slice (some ⟨W6.drew.heap.size, 0, none⟩) 0 0) [] := Po.empty W6.drew (Nat.le_refl _)
          obtain ⟨wm, hwm⟩ : ∃ wm, wm = W6.drew.alloc (.cells #[] 43) := ⟨_, rfl⟩
          rw [← hwm] at Bx hPm ⊢
          have HBm := hid_into (HB0.out.trans (Bx.mono HB0.out.size))
          have HPm := hid_into hPm
          have HNm : Hid (W6.heap.size ≤ W6.drew.heap.size ∧ W6.drew.heap.size ≤ wm.heap.size) := ⟨HB0.out.size, Bx.size⟩
          clear hwm hPm Bx
          have Swm := HSk.out wm HBm.out
          dsimp only at Swm
          refine hK.out _ _ (by exact Swm) (fun _ => ?_)
          clear hK KK
          refine wpAnyH_ready (rs := [4, 11]) (by kernel_rfl) (by simp) ?_
          refine AllReadyH.cons rfl (fun KK hK => ?_) (AllReadyH.cons rfl (fun KK hK => ?_) AllReadyH.nil)
          · have hnb1 : W6.drew.heap.size ≤ wm.heap.size := by have := HNm.out; have := (rfl : (0 : Nat) = 0); omega
            refine step_append_ps rfl (.tmp 36) (.tmp 37) rfl (W6.drew.heap.size) (.slice (some ⟨W6.drew.heap.size, 0, none⟩) 0 0) [] (by kernel_rfl) (HPm.out) (.slice ai ps.length ci) ps (by kernel_rfl) (HP.out.below (P6.out.below.trans (HBm.out.mono P6.out.below.size))) (by have := Hlen.out; simp only [List.length_nil]; omega) hnb1 ?_
            intro ax cx wa hPa Ba hKa
            simp only [List.length_nil, Nat.zero_add, List.nil_append] at hPa ⊢
            have hza : Hid (W6.drew.heap.size ≤ wa.heap.size) := Nat.le_trans hnb1 Ba.size
            have HBa := hid_into (HBm.out.trans (Ba.mono HNm.out.1))
            have HPa := hid_into hPa
            clear hPa Ba hKa
            have Swa := HSk.out wa HBa.out
            dsimp only at Swa
            refine hK.out _ _ (by exact Swa) (fun _ => ?_)
            clear hK KK
            refine wpAnyH_ready (rs := [6, 11]) (by kernel_rfl) (by simp) ?_
            refine AllReadyH.cons rfl (fun KK hK => ?_) (AllReadyH.cons rfl (fun KK hK => ?_) AllReadyH.nil)
            · refine step_append_ps rfl (.tmp 38) (.tmp 39) rfl (W6.drew.heap.size) (.slice ax ps.length cx) ps (by kernel_rfl) (HPa.out) (.slice am qs.length cm) qs (by kernel_rfl) (HQ.out.below (P6.out.below.trans (HBa.out.mono P6.out.below.size))) (by have := Hlen.out; have := Hlq.out; omega) (by have := hza.out; have := (rfl : (0 : Nat) = 0); omega) ?_
              intro ay cy wb hPb Bb hKb
              have HBb := hid_into (HBa.out.trans (Bb.mono HNm.out.1))
              have HPb := hid_into hPb
              clear hPb Bb hKb
              have Swb := HSk.out wb HBb.out
              dsimp only at Swb
              refine hK.out _ _ (by exact Swb) (fun _ => ?_)
              clear hK KK
              refine wpAnyH_ready (rs := [7, 11]) (by kernel_rfl) (by simp) ?_
              refine AllReadyH.cons rfl (fun KK hK => ?_) (AllReadyH.cons rfl (fun KK hK => ?_) AllReadyH.nil)
              · go_simp
                refine (C10t.out _ _ (P6.out.below.trans (HBb.out.mono P6.out.below.size)) (HPb.out).ls).mono ?_
                rintro e wc ⟨rfl, Bc⟩
                have HBc := hid_into (HBb.out.trans (Bc.mono HBb.out.size))
                clear Bc
                dsimp only
                have Swc := HSk.out wc HBc.out
                dsimp only at Swc
                refine hK.out _ _ (by exact Swc) (fun _ => ?_)
                clear hK KK
                refine wpAnyH_take (i := 8) (v := .tuple #[.agg et.toArray, .int .i64 0]) rfl (by kernel_rfl) (by kernel_rfl) (by kernel_rfl) (fun _ _ _ h => h) (Or.inl ⟨by kernel_rfl, by intro V _; go_simp⟩) Swc ?_
                refine wpAnyH_take (i := 9) (v := .agg et.toArray) rfl (by kernel_rfl) (by kernel_rfl) (by kernel_rfl) (fun _ _ _ h => h) (Or.inl ⟨by kernel_rfl, by intro V _; go_simp⟩) Swc ?_
                refine wpAnyH_take (i := 10) (v := .int .i64 0) rfl (by kernel_rfl) (by kernel_rfl) (by kernel_rfl) (fun _ _ _ h => h) (Or.inl ⟨by kernel_rfl, by intro V _; go_simp⟩) Swc ?_
                refine wpAnyH_ready (rs := [11]) (by kernel_rfl) (by simp) ?_
                refine AllReadyH.cons rfl (fun KK hK => ?_) AllReadyH.nil
                refine step_alloc_row rfl 30 rfl zeroS HZ.out ?_
                intro wl hnl Bl _
                have HBl := hid_into (HBc.out.trans (Bl.mono HBc.out.size))
                have hBl := hid_into Bl
                have hzl : Hid (wc.heap.size ≤ wl.heap.size) := Bl.size
                have hzn : Hid (W6.heap.size ≤ wc.heap.size) := HBc.out.size
                clear Bl
                have Swl := HSk.out wl HBl.out
                dsimp only at Swl
                refine hK.out _ _ (by exact Swl) (fun _ => ?_)
                clear hK KK
                refine wpAnyH_ready (rs := [12]) (by kernel_rfl) (by simp) ?_
                refine AllReadyH.cons rfl (fun KK hK => ?_) AllReadyH.nil
                refine step_store_rw rfl 30 (.tmp 11) (.tmp 42) rfl (wc.heap.size) zeroS et 30 (by kernel_rfl) (by kernel_rfl) hnl ZS HLe HOe ?_
                intro wz NC Oz
                have HBz := hid_into (HBl.out.trans (Oz.below hzn.out))
                have NB := hzn.out
                have Swz := HSk.out wz HBz.out
                dsimp only at Swz
                refine hK.out _ _ (by exact Swz) (fun _ => ?_)
                clear hK KK
                refine wpAnyH_take (i := 13) (v := .int .i64 0) rfl (by kernel_rfl) (by kernel_rfl) (by kernel_rfl) (fun _ _ _ h => h) (Or.inl ⟨by kernel_rfl, by intro V _; go_simp⟩) Swz ?_
                simp only [List.getElem_toArray, List.getElem_cons_zero, List.getElem_cons_succ, Act.put, List.setIfInBounds_toArray, List.set_cons_zero, List.set_cons_succ]
                refine wpAnyH_done (by kernel_rfl) ?_ _
                go_wp2_with fail
                go_meet
                exact ⟨_, rfl, rfl, NB, NC, HBz.out⟩
              · refine step_alloc_row rfl 30 rfl zeroS HZ.out ?_
                intro wl hnl Bl _
                have HBl := hid_into (HBb.out.trans (Bl.mono HBb.out.size))
                have hBl := hid_into Bl
                have hzl : Hid (wb.heap.size ≤ wl.heap.size) := Bl.size
                have hzn : Hid (W6.heap.size ≤ wb.heap.size) := HBb.out.size
                clear Bl
                have Swl := HSk.out wl HBl.out
                dsimp only at Swl
                refine hK.out _ _ (by exact Swl) (fun _ => ?_)
                clear hK KK
                refine wpAnyH_ready (rs := [7]) (by kernel_rfl) (by simp) ?_
                refine AllReadyH.cons rfl (fun KK hK => ?_) AllReadyH.nil
                go_simp
                refine (C10t.out _ _ (P6.out.below.trans (HBl.out.mono P6.out.below.size)) (HPb.out.below hBl.out).ls).mono ?_
                rintro e wc ⟨rfl, Bc⟩
                have hac := hnl.below Bc hnl.lt
                have HBc := hid_into (HBl.out.trans (Bc.mono HBl.out.size))
                clear Bc
                dsimp only
                have Swc := HSk.out wc HBc.out
                dsimp only at Swc
                refine hK.out _ _ (by exact Swc) (fun _ => ?_)
                clear hK KK
                refine wpAnyH_take (i := 8) (v := .tuple #[.agg et.toArray, .int .i64 0]) rfl (by kernel_rfl) (by kernel_rfl) (by kernel_rfl) (fun _ _ _ h => h) (Or.inl ⟨by kernel_rfl, by intro V _; go_simp⟩) Swc ?_
                refine wpAnyH_take (i := 9) (v := .agg et.toArray) rfl (by kernel_rfl) (by kernel_rfl) (by kernel_rfl) (fun _ _ _ h => h) (Or.inl ⟨by kernel_rfl, by intro V _; go_simp⟩) Swc ?_
                refine wpAnyH_take (i := 10) (v := .int .i64 0) rfl (by kernel_rfl) (by kernel_rfl) (by kernel_rfl) (fun _ _ _ h => h) (Or.inl ⟨by kernel_rfl, by intro V _; go_simp⟩) Swc ?_
                refine wpAnyH_ready (rs := [12]) (by kernel_rfl) (by simp) ?_
                refine AllReadyH.cons rfl (fun KK hK => ?_) AllReadyH.nil
                refine step_store_rw rfl 30 (.tmp 11) (.tmp 42) rfl (wb.heap.size) zeroS et 30 (by kernel_rfl) (by kernel_rfl) hac ZS HLe HOe ?_
                intro wz NC Oz
                have HBz := hid_into (HBc.out.trans (Oz.below hzn.out))
                have NB := hzn.out
                have Swz := HSk.out wz HBz.out
                dsimp only at Swz
                refine hK.out _ _ (by exact Swz) (fun _ => ?_)
                clear hK KK
                refine wpAnyH_take (i := 13) (v := .int .i64 0) rfl (by kernel_rfl) (by kernel_rfl) (by kernel_rfl) (fun _ _ _ h => h) (Or.inl ⟨by kernel_rfl, by intro V _; go_simp⟩) Swz ?_
                simp only [List.getElem_toArray, List.getElem_cons_zero, List.getElem_cons_succ, Act.put, List.setIfInBounds_toArray, List.set_cons_zero, List.set_cons_succ]
                refine wpAnyH_done (by kernel_rfl) ?_ _
                go_wp2_with fail
                go_meet
                exact ⟨_, rfl, rfl, NB, NC, HBz.out⟩
            · refine step_alloc_row rfl 30 rfl zeroS HZ.out ?_
              intro wl hnl Bl _
              have HBl := hid_into (HBa.out.trans (Bl.mono HBa.out.size))
              have hBl := hid_into Bl
              have hzl : Hid (wa.heap.size ≤ wl.heap.size) := Bl.size
              have hzn : Hid (W6.heap.size ≤ wa.heap.size) := HBa.out.size
              clear Bl
              have Swl := HSk.out wl HBl.out
              dsimp only at Swl
              refine hK.out _ _ (by exact Swl) (fun _ => ?_)
              clear hK KK
              refine wpAnyH_ready (rs := [6]) (by kernel_rfl) (by simp) ?_
              refine AllReadyH.cons rfl (fun KK hK => ?_) AllReadyH.nil
              refine step_append_ps rfl (.tmp 38) (.tmp 39) rfl (W6.drew.heap.size) (.slice ax ps.length cx) ps (by kernel_rfl) (HPa.out.below hBl.out) (.slice am qs.length cm) qs (by kernel_rfl) (HQ.out.below (P6.out.below.trans (HBl.out.mono P6.out.below.size))) (by have := Hlen.out; have := Hlq.out; omega) (by have := hza.out; have := hzl.out; omega) ?_
              intro ay cy wb hPb Bb hKb
              have hab := hKb _ _ hnl
              have HBb := hid_into (HBl.out.trans (Bb.mono HNm.out.1))
              have HPb := hid_into hPb
              clear hPb Bb hKb
              have Swb := HSk.out wb HBb.out
              dsimp only at Swb
              refine hK.out _ _ (by exact Swb) (fun _ => ?_)
              clear hK KK
              refine wpAnyH_ready (rs := [7]) (by kernel_rfl) (by simp) ?_
              refine AllReadyH.cons rfl (fun KK hK => ?_) AllReadyH.nil
              go_simp
              refine (C10t.out _ _ (P6.out.below.trans (HBb.out.mono P6.out.below.size)) (HPb.out).ls).mono ?_
              rintro e wc ⟨rfl, Bc⟩
              have hac := hab.below Bc hab.lt
              have HBc := hid_into (HBb.out.trans (Bc.mono HBb.out.size))
              clear Bc
              dsimp only
              have Swc := HSk.out wc HBc.out
              dsimp only at Swc
              refine hK.out _ _ (by exact Swc) (fun _ => ?_)
              clear hK KK
              refine wpAnyH_take (i := 8) (v := .tuple #[.agg et.toArray, .int .i64 0]) rfl (by kernel_rfl) (by kernel_rfl) (by kernel_rfl) (fun _ _ _ h => h) (Or.inl ⟨by kernel_rfl, by intro V _; go_simp⟩) Swc ?_
              refine wpAnyH_take (i := 9) (v := .agg et.toArray) rfl (by kernel_rfl) (by kernel_rfl) (by kernel_rfl) (fun _ _ _ h => h) (Or.inl ⟨by kernel_rfl, by intro V _; go_simp⟩) Swc ?_
              refine wpAnyH_take (i := 10) (v := .int .i64 0) rfl (by kernel_rfl) (by kernel_rfl) (by kernel_rfl) (fun _ _ _ h => h) (Or.inl ⟨by kernel_rfl, by intro V _; go_simp⟩) Swc ?_
              refine wpAnyH_ready (rs := [12]) (by kernel_rfl) (by simp) ?_
              refine AllReadyH.cons rfl (fun KK hK => ?_) AllReadyH.nil
              refine step_store_rw rfl 30 (.tmp 11) (.tmp 42) rfl (wa.heap.size) zeroS et 30 (by kernel_rfl) (by kernel_rfl) hac ZS HLe HOe ?_
              intro wz NC Oz
              have HBz := hid_into (HBc.out.trans (Oz.below hzn.out))
              have NB := hzn.out
              have Swz := HSk.out wz HBz.out
              dsimp only at Swz
              refine hK.out _ _ (by exact Swz) (fun _ => ?_)
              clear hK KK
              refine wpAnyH_take (i := 13) (v := .int .i64 0) rfl (by kernel_rfl) (by kernel_rfl) (by kernel_rfl) (fun _ _ _ h => h) (Or.inl ⟨by kernel_rfl, by intro V _; go_simp⟩) Swz ?_
              simp only [List.getElem_toArray, List.getElem_cons_zero, List.getElem_cons_succ, Act.put, List.setIfInBounds_toArray, List.set_cons_zero, List.set_cons_succ]
              refine wpAnyH_done (by kernel_rfl) ?_ _
              go_wp2_with fail
              go_meet
              exact ⟨_, rfl, rfl, NB, NC, HBz.out⟩
          · refine step_alloc_row rfl 30 rfl zeroS HZ.out ?_
            intro wl hnl Bl _
            have HBl := hid_into (HBm.out.trans (Bl.mono HBm.out.size))
            have hBl := hid_into Bl
            have hzl : Hid (wm.heap.size ≤ wl.heap.size) := Bl.size
            have hzn : Hid (W6.heap.size ≤ wm.heap.size) := HBm.out.size
            clear Bl
            have Swl := HSk.out wl HBl.out
            dsimp only at Swl
            refine hK.out _ _ (by exact Swl) (fun _ => ?_)
            clear hK KK
            refine wpAnyH_ready (rs := [4]) (by kernel_rfl) (by simp) ?_
            refine AllReadyH.cons rfl (fun KK hK => ?_) AllReadyH.nil
            have hnb1 : W6.drew.heap.size ≤ wl.heap.size := by have := HNm.out; have := hzl.out; omega
            refine step_append_ps rfl (.tmp 36) (.tmp 37) rfl (W6.drew.heap.size) (.slice (some ⟨W6.drew.heap.size, 0, none⟩) 0 0) [] (by kernel_rfl) (HPm.out.below hBl.out) (.slice ai ps.length ci) ps (by kernel_rfl) (HP.out.below (P6.out.below.trans (HBl.out.mono P6.out.below.size))) (by have := Hlen.out; simp only [List.length_nil]; omega) hnb1 ?_
            intro ax cx wa hPa Ba hKa
            simp only [List.length_nil, Nat.zero_add, List.nil_append] at hPa ⊢
            have haa := hKa _ _ hnl
            have hza : Hid (W6.drew.heap.size ≤ wa.heap.size) := Nat.le_trans hnb1 Ba.size
            have HBa := hid_into (HBl.out.trans (Ba.mono HNm.out.1))
            have HPa := hid_into hPa
            clear hPa Ba hKa
            have Swa := HSk.out wa HBa.out
            dsimp only at Swa
            refine hK.out _ _ (by exact Swa) (fun _ => ?_)
            clear hK KK
            refine wpAnyH_ready (rs := [6]) (by kernel_rfl) (by simp) ?_
            refine AllReadyH.cons rfl (fun KK hK => ?_) AllReadyH.nil
            refine step_append_ps rfl (.tmp 38) (.tmp 39) rfl (W6.drew.heap.size) (.slice ax ps.length cx) ps (by kernel_rfl) (HPa.out) (.slice am qs.length cm) qs (by kernel_rfl) (HQ.out.below (P6.out.below.trans (HBa.out.mono P6.out.below.size))) (by have := Hlen.out; have := Hlq.out; omega) (by have := hza.out; have := (rfl : (0 : Nat) = 0); omega) ?_
            intro ay cy wb hPb Bb hKb
            have hab := hKb _ _ haa
            have HBb := hid_into (HBa.out.trans (Bb.mono HNm.out.1))
            have HPb := hid_into hPb
            clear hPb Bb hKb
            have Swb := HSk.out wb HBb.out
            dsimp only at Swb
            refine hK.out _ _ (by exact Swb) (fun _ => ?_)
            clear hK KK
            refine wpAnyH_ready (rs := [7]) (by kernel_rfl) (by simp) ?_
            refine AllReadyH.cons rfl (fun KK hK => ?_) AllReadyH.nil
            go_simp
            refine (C10t.out _ _ (P6.out.below.trans (HBb.out.mono P6.out.below.size)) (HPb.out).ls).mono ?_
            rintro e wc ⟨rfl, Bc⟩
            have hac := hab.below Bc hab.lt
            have HBc := hid_into (HBb.out.trans (Bc.mono HBb.out.size))
            clear Bc
            dsimp only
            have Swc := HSk.out wc HBc.out
            dsimp only at Swc
            refine hK.out _ _ (by exact Swc) (fun _ => ?_)
            clear hK KK
            refine wpAnyH_take (i := 8) (v := .tuple #[.agg et.toArray, .int .i64 0]) rfl (by kernel_rfl) (by kernel_rfl) (by kernel_rfl) (fun _ _ _ h => h) (Or.inl ⟨by kernel_rfl, by intro V _; go_simp⟩) Swc ?_
            refine wpAnyH_take (i := 9) (v := .agg et.toArray) rfl (by kernel_rfl) (by kernel_rfl) (by kernel_rfl) (fun _ _ _ h => h) (Or.inl ⟨by kernel_rfl, by intro V _; go_simp⟩) Swc ?_
            refine wpAnyH_take (i := 10) (v := .int .i64 0) rfl (by kernel_rfl) (by kernel_rfl) (by kernel_rfl) (fun _ _ _ h => h) (Or.inl ⟨by kernel_rfl, by intro V _; go_simp⟩) Swc ?_
            refine wpAnyH_ready (rs := [12]) (by kernel_rfl) (by simp) ?_
            refine AllReadyH.cons rfl (fun KK hK => ?_) AllReadyH.nil
            refine step_store_rw rfl 30 (.tmp 11) (.tmp 42) rfl (wm.heap.size) zeroS et 30 (by kernel_rfl) (by kernel_rfl) hac ZS HLe HOe ?_
            intro wz NC Oz
            have HBz := hid_into (HBc.out.trans (Oz.below hzn.out))
            have NB := hzn.out
            have Swz := HSk.out wz HBz.out
            dsimp only at Swz
            refine hK.out _ _ (by exact Swz) (fun _ => ?_)
            clear hK KK
            refine wpAnyH_take (i := 13) (v := .int .i64 0) rfl (by kernel_rfl) (by kernel_rfl) (by kernel_rfl) (fun _ _ _ h => h) (Or.inl ⟨by kernel_rfl, by intro V _; go_simp⟩) Swz ?_
            simp only [List.getElem_toArray, List.getElem_cons_zero, List.getElem_cons_succ, Act.put, List.setIfInBounds_toArray, List.set_cons_zero, List.set_cons_succ]
            refine wpAnyH_done (by kernel_rfl) ?_ _
            go_wp2_with fail
            go_meet
            exact ⟨_, rfl, rfl, NB, NC, HBz.out⟩
        · refine step_alloc_row rfl 30 rfl zeroS HZ.out ?_
          intro wl hnl Bl _
          have HBl := hid_into (HB0.out.trans (Bl.mono HB0.out.size))
          have hBl := hid_into Bl
          have hzl : Hid (W6.drew.heap.size ≤ wl.heap.size) := Bl.size
          have hzn : Hid (W6.heap.size ≤ W6.drew.heap.size) := HB0.out.size
          clear Bl
          have Swl := HSk.out wl HBl.out
          dsimp only at Swl
          refine hK.out _ _ (by exact Swl) (fun _ => ?_)
          clear hK KK
          refine wpAnyH_ready (rs := [2]) (by kernel_rfl) (by simp) ?_
          refine AllReadyH.cons rfl (fun KK hK => ?_) AllReadyH.nil
          refine step_made_nil rfl rfl ?_
          have Bx : Below wl.heap.size wl (wl.alloc (.cells #[] 43)) := (Below.refl _ _).alloc (Nat.le_refl _) _
          have hPm : Po (wl.alloc (.cells #[] 43)) wl.heap.size (.slice (some ⟨wl.heap.size, 0, none⟩) 0 0) [] := Po.empty wl (Nat.le_refl _)
          obtain ⟨wm, hwm⟩ : ∃ wm, wm = wl.alloc (.cells #[] 43) := ⟨_, rfl⟩
          rw [← hwm] at Bx hPm ⊢
          have ham := hnl.below Bx hnl.lt
          have HBm := hid_into (HBl.out.trans (Bx.mono HBl.out.size))
          have HPm := hid_into hPm
          have HNm : Hid (W6.heap.size ≤ wl.heap.size ∧ wl.heap.size ≤ wm.heap.size) := ⟨HBl.out.size, Bx.size⟩
          clear hwm hPm Bx
          have Swm := HSk.out wm HBm.out
          dsimp only at Swm
          refine hK.out _ _ (by exact Swm) (fun _ => ?_)
          clear hK KK
          refine wpAnyH_ready (rs := [4]) (by kernel_rfl) (by simp) ?_
          refine AllReadyH.cons rfl (fun KK hK => ?_) AllReadyH.nil
          have hnb1 : wl.heap.size ≤ wm.heap.size := by have := HNm.out; have := (rfl : (0 : Nat) = 0); omega
          refine step_append_ps rfl (.tmp 36) (.tmp 37) rfl (wl.heap.size) (.slice (some ⟨wl.heap.size, 0, none⟩) 0 0) [] (by kernel_rfl) (HPm.out) (.slice ai ps.length ci) ps (by kernel_rfl) (HP.out.below (P6.out.below.trans (HBm.out.mono P6.out.below.size))) (by have := Hlen.out; simp only [List.length_nil]; omega) hnb1 ?_
          intro ax cx wa hPa Ba hKa
          simp only [List.length_nil, Nat.zero_add, List.nil_append] at hPa ⊢
          have haa := hKa _ _ ham
          have hza : Hid (wl.heap.size ≤ wa.heap.size) := Nat.le_trans hnb1 Ba.size
          have HBa := hid_into (HBm.out.trans (Ba.mono HNm.out.1))
          have HPa := hid_into hPa
          clear hPa Ba hKa
          have Swa := HSk.out wa HBa.out
          dsimp only at Swa
          refine hK.out _ _ (by exact Swa) (fun _ => ?_)
          clear hK KK
          refine wpAnyH_ready (rs := [6]) (by kernel_rfl) (by simp) ?_
          refine AllReadyH.cons rfl (fun KK hK => ?_) AllReadyH.nil
          refine step_append_ps rfl (.tmp 38) (.tmp 39) rfl (wl.heap.size) (.slice ax ps.length cx) ps (by kernel_rfl) (HPa.out) (.slice am qs.length cm) qs (by kernel_rfl) (HQ.out.below (P6.out.below.trans (HBa.out.mono P6.out.below.size))) (by have := Hlen.out; have := Hlq.out; omega) (by have := hza.out; have := (rfl : (0 : Nat) = 0); omega) ?_
          intro ay cy wb hPb Bb hKb
          have hab := hKb _ _ haa
          have HBb := hid_into (HBa.out.trans (Bb.mono HNm.out.1))
          have HPb := hid_into hPb
          clear hPb Bb hKb
          have Swb := HSk.out wb HBb.out
          dsimp only at Swb
          refine hK.out _ _ (by exact Swb) (fun _ => ?_)
          clear hK KK
          refine wpAnyH_ready (rs := [7]) (by kernel_rfl) (by simp) ?_
          refine AllReadyH.cons rfl (fun KK hK => ?_) AllReadyH.nil
          go_simp
          refine (C10t.out _ _ (P6.out.below.trans (HBb.out.mono P6.out.below.size)) (HPb.out).ls).mono ?_
          rintro e wc ⟨rfl, Bc⟩
          have hac := hab.below Bc hab.lt
          have HBc := hid_into (HBb.out.trans (Bc.mono HBb.out.size))
          clear Bc
          dsimp only
          have Swc := HSk.out wc HBc.out
          dsimp only at Swc
          refine hK.out _ _ (by exact Swc) (fun _ => ?_)
          clear hK KK
          refine wpAnyH_take (i := 8) (v := .tuple #[.agg et.toArray, .int .i64 0]) rfl (by kernel_rfl) (by kernel_rfl) (by kernel_rfl) (fun _ _ _ h => h) (Or.inl ⟨by kernel_rfl, by intro V _; go_simp⟩) Swc ?_
          refine wpAnyH_take (i := 9) (v := .agg et.toArray) rfl (by kernel_rfl) (by kernel_rfl) (by kernel_rfl) (fun _ _ _ h => h) (Or.inl ⟨by kernel_rfl, by intro V _; go_simp⟩) Swc ?_
          refine wpAnyH_take (i := 10) (v := .int .i64 0) rfl (by kernel_rfl) (by kernel_rfl) (by kernel_rfl) (fun _ _ _ h => h) (Or.inl ⟨by kernel_rfl, by intro V _; go_simp⟩) Swc ?_
          refine wpAnyH_ready (rs := [12]) (by kernel_rfl) (by simp) ?_
          refine AllReadyH.cons rfl (fun KK hK => ?_) AllReadyH.nil
          refine step_store_rw rfl 30 (.tmp 11) (.tmp 42) rfl (W6.drew.heap.size) zeroS et 30 (by kernel_rfl) (by kernel_rfl) hac ZS HLe HOe ?_
          intro wz NC Oz
          have HBz := hid_into (HBc.out.trans (Oz.below hzn.out))
          have NB := hzn.out
          have Swz := HSk.out wz HBz.out
          dsimp only at Swz
          refine hK.out _ _ (by exact Swz) (fun _ => ?_)
          clear hK KK
          refine wpAnyH_take (i := 13) (v := .int .i64 0) rfl (by kernel_rfl) (by kernel_rfl) (by kernel_rfl) (fun _ _ _ h => h) (Or.inl ⟨by kernel_rfl, by intro V _; go_simp⟩) Swz ?_
          simp only [List.getElem_toArray, List.getElem_cons_zero, List.getElem_cons_succ, Act.put, List.setIfInBounds_toArray, List.set_cons_zero, List.set_cons_succ]
          refine wpAnyH_done (by kernel_rfl) ?_ _
          go_wp2_with fail
          go_meet
          exact ⟨_, rfl, rfl, NB, NC, HBz.out⟩
      case rest =>
        obtain ⟨n1, rfl, rfl, hn1, hC1, hB1⟩ := hcut
        rename World => U1
        have P7 := hid_into ((P6.out.next hB1).add hC1 (Stab.cw _ _ _))
        clear hn1 hC1 hB1 P6 C10t
        have q0 := (P7.out.t.1.2.cell 0).trans HCE.out.frame
        have q1 := (P7.out.t.1.2.cell 18).trans HCE.out.over
        have q2 := (P7.out.t.2.cell 0).trans HCF.out.frame
        obtain ⟨k0, k1, k2⟩ := P7.out.cells
        have hfr' : ¬ F.frame < E.frame := by omega
        cases hov : E.over with
        | true =>
          have hFE := HEE.out hov
          rw [hov] at q1
          have hET : et = ee := by rw [HEt.out, HEe.out, hFE]
          subst hET
          generalize E.frame = ef at hfr hfr' q0
          generalize F.frame = ff at hfr hfr' hf1 q2
          go_wp2_with (first
            | (refine wpList_load_rwG (by kernel_rfl) 30 (.tmp 9) rfl w4.heap.size et 30 _ rfl ?_ Try.underlying30 rfl HNF ?_; exact P7.out.t.1.2)
            | (refine wpList_load_rwG (by kernel_rfl) 30 (.tmp 11) rfl n1 et 30 _ rfl ?_ Try.underlying30 rfl HNF ?_; exact P7.out.t.2)
            | (refine wpList_eql28 (by kernel_rfl) (.tmp 54) (.tmp 55) rfl et et true HEq rfl rfl ?_)
            | (go_at_call 16; refine (CK.out _).mono ?_; rintro e w8 ⟨rfl, B8⟩; have P8 := hid_into (P7.out.next B8)))
          go_ret
          exact ⟨rfl, P8.out.below⟩
        | false =>
          rw [hov] at q1
          generalize E.frame = ef at hfr hfr' q0
          generalize F.frame = ff at hfr hfr' hf1 q2
          go_wp2_with (go_at_call 16; refine (CK.out _).mono ?_; rintro e w8 ⟨rfl, B8⟩; have P8 := hid_into (P7.out.next B8))
          go_ret
          exact ⟨rfl, P8.out.below⟩
    · generalize chkG l cap fuel = ck at hc C17
      have hc' : (ck != 0) = true := by simp [hc]
      clear hl hp hin hm hmi hseed
      go_enter Try.func7, Try.ntmps7
      go_wp2_with (first
        | (go_at_call 9; refine (C9.out _).mono ?_; rintro e w2 ⟨rfl, B2⟩; have P2 := hid_into (P1.out.next B2); obtain ⟨k0, k1, k2⟩ := P2.out.cells)
        | (go_at_call 17; refine (C17.out _ P2.out.below).mono ?_; rintro e w3 ⟨rfl, B3⟩; have P3 := hid_into (P2.out.next B3)))
      go_ret
      exact ⟨rfl, P3.out.below⟩
end Go.Proofs.Ytgnbcalfojifnaa
