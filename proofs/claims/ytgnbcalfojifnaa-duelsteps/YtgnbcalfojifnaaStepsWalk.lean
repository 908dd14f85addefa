/-
  DuelSteps, its walk.
-/
import Derived.Test.YtgnbcalfojifnaaPlaysWalk
import Derived.Test.YtgnbcalfojifnaaRStart
namespace Go.Proofs.Ytgnbcalfojifnaa
open Go.RowKit
set_option maxRecDepth 20000 in
set_option maxHeartbeats 16000000 in
theorem steps_walk (cv : Value) (l : List Ii) (cap fuel seed : Int) (iv : Value) (ps : List (Int × Int)) (w : World) (hl : Ls w cv l) (hseed : 0 ≤ seed ∧ seed < 4294967296) (hp : Ps w iv ps) (hin : InP ps) :
    Calls Try.prog 8 #[gameV cv cap fuel, .int .u32 seed, iv] w fun e w' => e = .returned (.bool true) ∧ Below w.heap.size w w' := by
  obtain ⟨ao, cp, rfl, hm⟩ := hl.len
  obtain ⟨ai, ci, rfl, hmi⟩ := hp.len
  have C9 := hid_into fun W => heavy_any ao ai l.length cp ps.length ci cap fuel W
  have C17 : Hid (∀ W, Below w.heap.size w W → Calls Try.prog 17 #[.agg #[.slice ao l.length cp, .int .i64 cap, .int .i64 fuel]] W fun e w' => e = .returned (.int .i64 (chkG l cap fuel)) ∧ Below W.heap.size W w') := fun W hW => rChk_any _ l cap fuel W (hl.below hW)
  have P1 := hid_into (Pw.make w (.slice ao l.length cp) cap fuel)
  unfold gameV
  cases hhv : hvy l.length ps.length with
  | true =>
    rw [hhv] at C9
    go_enter Try.func8, Try.ntmps8
    go_wp2_with (go_at_call 9; refine (C9.out _).mono ?_; rintro e w2 ⟨rfl, B2⟩; have P2 := hid_into (P1.out.next B2))
    go_ret
    exact ⟨rfl, P2.out.below⟩
  | false =>
    rw [hhv] at C9
    have hlen : ps.length ≤ 100 := by
      simp only [hvy, decide_eq_false_iff_not] at hhv
      omega
    by_cases hc : chkG l cap fuel = 0
    · rw [hc] at C17
      have hg0 := startS_gs seed cap hseed (chkG_cap hc).2.1
      have hge := endG_gs hc ps _ hin hg0
      have hgs := goS_gs hc ps _ hin hg0
      have heach := goS_each l cap fuel ps (startS seed)
      have hgl := goS_last l cap fuel ps (startS seed)
      have hgn := goS_len l cap fuel ps (startS seed)
      have C10 : Hid (∀ W, Below w.heap.size w W → Calls Try.prog 10 #[.agg #[.slice ao l.length cp, .int .i64 cap, .int .i64 fuel], .int .u32 seed, .slice ai ps.length ci] W fun e w' => e = .returned (.tuple #[.agg (stV (endG l cap fuel (startS seed) ps)).toArray, .int .i64 0]) ∧ Below W.heap.size W w') := fun W hW => by
        have h := Play_any _ l cap fuel seed _ ps W (hl.below hW) (hp.below hW) hin hseed
        rw [show playE l cap fuel seed ps = (endG l cap fuel (startS seed) ps, 0) from if_pos hc] at h
        exact h
      have C12 : Hid (∀ W, Below w.heap.size w W → Calls Try.prog 12 #[.agg #[.slice ao l.length cp, .int .i64 cap, .int .i64 fuel], .int .u32 seed, .slice ai ps.length ci] W fun e w' => ∃ v, e = .returned (.tuple #[v, .int .i64 0]) ∧ So w' W.heap.size v (startS seed :: goS l cap fuel (startS seed) ps) ∧ Below W.heap.size W w') := fun W hW => by
        have h := States_any _ l cap fuel seed _ ps W (hl.below hW) (hp.below hW) hin hseed (by omega)
        unfold StsP at h
        rw [hc, if_pos rfl] at h
        exact h
      have C20 := fun W => rStart_any seed W
      obtain ⟨n, hn⟩ : ∃ n, (startS seed :: goS l cap fuel (startS seed) ps).length = n := ⟨_, rfl⟩
      obtain ⟨m, hnm⟩ : ∃ m, n = m + 1 := ⟨(goS l cap fuel (startS seed) ps).length, by rw [← hn]; rfl⟩
      have hnle : n ≤ ps.length + 1 := by rw [← hn, List.length_cons]; omega
      have hlastc : n = ps.length + 1 ∨ (endG l cap fuel (startS seed) ps).over = true := by
        rw [← hn, List.length_cons]
        rcases hgn.2 with h | h
        · exact Or.inl (by omega)
        · exact Or.inr h
      have HX0 : Hid ((startS seed :: goS l cap fuel (startS seed) ps)[0]? = some (startS seed)) := rfl
      have HXm : Hid ((startS seed :: goS l cap fuel (startS seed) ps)[m]? = some (endG l cap fuel (startS seed) ps)) := by
        rw [← hgl, List.getLast_eq_getElem, List.getElem?_eq_getElem (by omega)]
        refine hid_into ?_
        congr 1
        congr 1
        omega
      have HXe : Hid (∀ j t, (startS seed :: goS l cap fuel (startS seed) ps)[j + 1]? = some t → ∃ u p, (startS seed :: goS l cap fuel (startS seed) ps)[j]? = some u ∧ ps[j]? = some p ∧ u.Wf ∧ t.Wf ∧ ∀ W, Below w.heap.size w W → Calls Try.prog 18 #[.agg #[.slice ao l.length cp, .int .i64 cap, .int .i64 fuel], .agg (stV u).toArray, .agg #[.int .u16 p.1, .int .u16 p.2]] W fun e w' => e = .returned (.tuple #[.agg (stV t).toArray, .int .i64 0]) ∧ Below W.heap.size W w') := fun j t ht => by
        obtain ⟨u, p, h1, h2, h3, h4⟩ := heach j t ht
        have hpi := hin p (List.mem_of_getElem? h2)
        have hgu : Gs cap u := by
          rcases List.mem_cons.1 (List.mem_of_getElem? h1) with e | e
          · rw [e]; exact hg0
          · exact hgs u e
        have hE := hgu.stepE hc h3
        refine ⟨u, p, h1, h2, hgu.wf, ?_, fun W hW => ?_⟩
        · rw [h4]; exact (stepS_facts hgu.wf hpi.1 hpi.2 hE).wf
        · have h := rStep_any _ l cap fuel u p.1 p.2 W (hl.below hW) hgu.wf hpi.1 hpi.2
          rw [show stepF l cap fuel u p.1 p.2 = (stepS l cap fuel u p.1 p.2, 0) from if_pos hE, ← h4] at h
          exact h
      generalize startS seed :: goS l cap fuel (startS seed) ps = X at C12 hn HX0 HXm HXe
      generalize endG l cap fuel (startS seed) ps = E at C10 hge hlastc HXm
      have HP := hid_into hp
      have HN0 := st_size hg0.wf
      have HE0 := run_neqS hg0.wf
      have HLE := st_len hge.wf
      have HOE := st_one hge.wf
      have HNe := st_size hge.wf
      have HEe := run_neqS hge.wf
      have HCe := hid_into (stV_c hge.wf)
      have HZ : Hid ((Try.prog.info? 30).bind (·.zero) = some (.agg zeroS.toArray)) := Try.zero30
      have ZS := zeroS_size
      have CK := hid_into known_any
      have Hn := hid_into hn
      have Hlast := hid_into hlastc
      obtain ⟨c0, hc0⟩ : ∃ c0, c0 = stV (startS seed) := ⟨_, rfl⟩
      obtain ⟨es, hes⟩ : ∃ es, es = stV E := ⟨_, rfl⟩
      rw [← hc0] at C20 HN0 HE0
      rw [← hes] at C10 HLE HOE HNe HEe HCe
      have HC0 := hid_into hc0
      have HES := hid_into hes
      have hn1 : ¬ (n : Int) < 1 := by omega
      have hn2 : ¬ (ps.length : Int) + 1 < (n : Int) := by omega
      have hw1 : IntKind.i64.wrap ((ps.length : Int) + 1) = (ps.length : Int) + 1 := by rw [IntKind.wrap_i64]; omega
      have hw2 : IntKind.i64.wrap ((n : Int) - 1) = (m : Int) := by rw [IntKind.wrap_i64]; omega
      have hmn : (m : Int) < n := by omega
      have h0n : (0 : Int) < n := by omega
      have hn0 : ¬ n = 0 := by omega
      have h0n' : 0 < n := by omega
      have hl100 : (ps.length : Int) ≤ 100 := by omega
      have Hnm := hid_into hnm
      have Hnle := hid_into hnle
      clear hc0 hes hge hg0 hgs heach hgl hgn hl hp hin hm hseed hhv hc hn hlastc hmi hnm hnle
      go_enter Try.func8, Try.ntmps8
      go_upto_region 5 with (go_big_may; first
        | (go_at_call 9; refine (C9.out _).mono ?_; rintro e w2 ⟨rfl, B2⟩; have P2 := hid_into (P1.out.next B2); obtain ⟨k0, k1, k2⟩ := P2.out.cells; clear B2 P1 C9)
        | (go_at_call 17; refine (C17.out _ P2.out.below).mono ?_; rintro e w3 ⟨rfl, B3⟩; have P3 := hid_into (P2.out.next B3); clear B3 P2 k0 k1 k2 C17; obtain ⟨k0, k1, k2⟩ := P3.out.cells)
        | (go_at_call 12; refine (C12.out _ P3.out.below).mono ?_; rintro e w4 ⟨v, rfl, hO4, B4⟩; obtain ⟨av, cl, rfl⟩ := hO4.form; have P4 := hid_into ((P3.out.next B4).add hO4 (Stab.so _ _ _)); clear P3 B4 k0 k1 k2 C12 hO4; obtain ⟨k0, k1, k2⟩ := P4.out.cells; rw [Hn.out] at P4 ⊢)
        | (go_at_call 10; refine (C10.out _ P4.out.below).mono ?_; rintro e w5 ⟨rfl, B5⟩; have P5 := hid_into (P4.out.next B5); clear P4 B5 k0 k1 k2 C10)
        | (have _p := P5; refine wpList_alloc_row rfl 30 rfl zeroS HZ.out ?_; intro W6 hn6 B6 _)
        | (refine wpList_store_rw rfl 30 (.tmp 9) (.tmp 34) rfl w5.heap.size zeroS es 30 rfl rfl ?_ ZS HLE HOE.out ?_; exact hn6; intro W7 hn7 O7; have P7 := hid_into (P5.out.fresh B6 O7 hn7); clear P5 B6 O7 hn6 hn7))
      obtain ⟨gl, hav, _, _, hr0⟩ := P7.out.t.1.2.at 0 _ HX0.out
      subst hav
      have HRs : Hid (∀ V, Below W7.heap.size W7 V → ∀ i s, X[i]? = some s → V.rangeAt gl (i * 20) (stV s)) := fun V hV i s hi => by
        obtain ⟨g', he, _, _, hr⟩ := (P7.out.next hV).t.1.2.at i s hi
        cases he
        exact hr
      clear hr0
      have HSk : Hid (∀ V, Below W7.heap.size W7 V → V.rangeAt gl 0 c0 ∧ V.rangeAt gl (m * 20) es ∧ V.rangeAt w5.heap.size 0 es) := fun V hV => by
        refine ⟨?_, ?_, ((P7.out.next hV).t.2).range⟩
        · have h := HRs.out V hV 0 _ HX0.out
          rw [Nat.zero_mul, ← HC0.out] at h
          exact h
        · have h := HRs.out V hV m _ HXm.out
          rw [← HES.out] at h
          exact h
      have S1 := HSk.out W7.drew (Below.refl _ _).drew
      have HB0 : Hid (Below W7.heap.size W7 W7.drew) := (Below.refl _ _).drew
      refine wp_region_held (S := fun V => V.rangeAt gl 0 c0 ∧ V.rangeAt gl (m * 20) es ∧ V.rangeAt w5.heap.size 0 es) (by kernel_rfl) ?_
      change wpAnyH _ _ _ _ _ _ _ _ (World.drew _)
      refine wpAnyH_take (i := 0) (v := .int .i64 0) rfl (by kernel_rfl) (by kernel_rfl) (by kernel_rfl) (fun _ _ _ h => h) (Or.inl ⟨by kernel_rfl, by intro V _; go_simp⟩) S1 ?_
      refine wpAnyH_take (i := 1) (v := .bool false) rfl (by kernel_rfl) (by kernel_rfl) (by kernel_rfl) (fun _ _ _ h => h) (Or.inl ⟨by kernel_rfl, by intro V _; go_simp⟩) S1 ?_
      refine wpAnyH_take (i := 2) (v := .bool false) rfl (by kernel_rfl) (by kernel_rfl) (by kernel_rfl) (fun _ _ _ h => h) (Or.inl ⟨by kernel_rfl, by intro V _; go_simp⟩) S1 ?_
      refine wpAnyH_take (i := 3) (v := .int .i64 0) rfl (by kernel_rfl) (by kernel_rfl) (by kernel_rfl) (fun _ _ _ h => h) (Or.inl ⟨by kernel_rfl, by intro V _; go_simp⟩) S1 ?_
      refine wpAnyH_take (i := 4) (v := .bool false) rfl (by kernel_rfl) (by kernel_rfl) (by kernel_rfl) (fun _ _ _ h => h) (Or.inl ⟨by kernel_rfl, by intro V _; go_simp⟩) S1 ?_
      refine wpAnyH_take (i := 5) (v := .bool false) rfl (by kernel_rfl) (by kernel_rfl) (by kernel_rfl) (fun _ _ _ h => h) (Or.inl ⟨by kernel_rfl, by intro V _; go_simp⟩) S1 ?_
      refine wpAnyH_take (i := 6) (v := .bool false) rfl (by kernel_rfl) (by kernel_rfl) (by kernel_rfl) (fun _ _ _ h => h) (Or.inl ⟨by kernel_rfl, by intro V _; go_simp⟩) S1 ?_
      simp only [List.getElem_toArray, List.getElem_cons_zero, List.getElem_cons_succ, Act.put, List.setIfInBounds_toArray, List.set_cons_zero, List.set_cons_succ]
      refine wpAnyH_take (i := 7) (v := .slice (some ⟨gl, 0, none⟩) n cl) rfl (by kernel_rfl) (by kernel_rfl) (by kernel_rfl) (fun _ _ _ h => h) (Or.inl ⟨by kernel_rfl, by intro V _; go_simp⟩) S1 ?_
      refine wpAnyH_take (i := 8) (v := .int .i64 (n : Int)) rfl (by kernel_rfl) (by kernel_rfl) (by kernel_rfl) (fun _ _ _ h => h) (Or.inl ⟨by kernel_rfl, by intro V _; go_simp⟩) S1 ?_
      refine wpAnyH_take (i := 9) (v := .bool false) rfl (by kernel_rfl) (by kernel_rfl) (by kernel_rfl) (fun _ _ _ h => h) (Or.inl ⟨by kernel_rfl, by intro V _; go_simp⟩) S1 ?_
      refine wpAnyH_take (i := 10) (v := .bool false) rfl (by kernel_rfl) (by kernel_rfl) (by kernel_rfl) (fun _ _ _ h => h) (Or.inl ⟨by kernel_rfl, by intro V _; go_simp⟩) S1 ?_
      refine wpAnyH_take (i := 11) (v := .bool false) rfl (by kernel_rfl) (by kernel_rfl) (by kernel_rfl) (fun _ _ _ h => h) (Or.inl ⟨by kernel_rfl, by intro V _; go_simp⟩) S1 ?_
      simp only [List.getElem_toArray, List.getElem_cons_zero, List.getElem_cons_succ, Act.put, List.setIfInBounds_toArray, List.set_cons_zero, List.set_cons_succ]
      refine wpAnyH_take (i := 12) (v := .slice (some ⟨gl, 0, none⟩) n cl) rfl (by kernel_rfl) (by kernel_rfl) (by kernel_rfl) (fun _ _ _ h => h) (Or.inl ⟨by kernel_rfl, by intro V _; go_simp⟩) S1 ?_
      refine wpAnyH_take (i := 13) (v := .int .i64 (n : Int)) rfl (by kernel_rfl) (by kernel_rfl) (by kernel_rfl) (fun _ _ _ h => h) (Or.inl ⟨by kernel_rfl, by intro V _; go_simp⟩) S1 ?_
      refine wpAnyH_take (i := 14) (v := .slice ai ps.length ci) rfl (by kernel_rfl) (by kernel_rfl) (by kernel_rfl) (fun _ _ _ h => h) (Or.inl ⟨by kernel_rfl, by intro V _; go_simp⟩) S1 ?_
      refine wpAnyH_take (i := 15) (v := .int .i64 (ps.length : Int)) rfl (by kernel_rfl) (by kernel_rfl) (by kernel_rfl) (fun _ _ _ h => h) (Or.inl ⟨by kernel_rfl, by intro V _; go_simp⟩) S1 ?_
      refine wpAnyH_take (i := 16) (v := .int .i64 ((ps.length : Int) + 1)) rfl (by kernel_rfl) (by kernel_rfl) (by kernel_rfl) (fun _ _ _ h => h) (Or.inl ⟨by kernel_rfl, by intro V _; go_simp⟩) S1 ?_
      refine wpAnyH_take (i := 17) (v := .bool false) rfl (by kernel_rfl) (by kernel_rfl) (by kernel_rfl) (fun _ _ _ h => h) (Or.inl ⟨by kernel_rfl, by intro V _; go_simp⟩) S1 ?_
      refine wpAnyH_take (i := 18) (v := .bool false) rfl (by kernel_rfl) (by kernel_rfl) (by kernel_rfl) (fun _ _ _ h => h) (Or.inl ⟨by kernel_rfl, by intro V _; go_simp⟩) S1 ?_
      refine wpAnyH_take (i := 19) (v := .bool false) rfl (by kernel_rfl) (by kernel_rfl) (by kernel_rfl) (fun _ _ _ h => h) (Or.inl ⟨by kernel_rfl, by intro V _; go_simp⟩) S1 ?_
      simp only [List.getElem_toArray, List.getElem_cons_zero, List.getElem_cons_succ, Act.put, List.setIfInBounds_toArray, List.set_cons_zero, List.set_cons_succ]
      refine wpAnyH_take (i := 20) (v := .slice (some ⟨gl, 0, none⟩) n cl) rfl (by kernel_rfl) (by kernel_rfl) (by kernel_rfl) (fun _ _ _ h => h) (Or.inl ⟨by kernel_rfl, by intro V _; go_simp⟩) S1 ?_
      refine wpAnyH_take (i := 21) (v := .pointer (some ⟨gl, 0, none⟩)) rfl (by kernel_rfl) (by kernel_rfl) (by kernel_rfl) (fun _ _ _ h => h) (Or.inl ⟨by kernel_rfl, by intro V _; go_simp⟩) S1 ?_
      refine wpAnyH_take (i := 22) (v := .agg c0.toArray) rfl (by kernel_rfl) (by kernel_rfl) (by kernel_rfl) (fun _ _ _ h => h) (yieldsIf_load_mid (by kernel_rfl) 30 (.tmp 57) rfl gl 0 (by kernel_rfl) c0 _ (fun V h => h.1) Try.underlying30 rfl HN0.out) S1 ?_
      refine wpAnyH_take (i := 23) (v := .int .u32 seed) rfl (by kernel_rfl) (by kernel_rfl) (by kernel_rfl) (fun _ _ _ h => h) (Or.inl ⟨by kernel_rfl, by intro V _; go_simp⟩) S1 ?_
      refine wpAnyH_ready (rs := [24]) (by kernel_rfl) (by simp) ?_
      refine AllReadyH.cons rfl (fun KK hK => ?_) AllReadyH.nil
      go_simp
      refine (C20 _).mono ?_
      rintro e w7 ⟨rfl, B7⟩
      have HB7 := hid_into (HB0.out.trans (B7.mono HB0.out.size))
      have S2 := HSk.out w7 HB7.out
      dsimp only at S2 ⊢
      refine hK.out _ _ (by exact S2) (fun _ => ?_)
      clear hK KK B7
      refine wpAnyH_take (i := 25) (v := .bool false) rfl (by kernel_rfl) (by kernel_rfl) (by kernel_rfl) (fun _ _ _ h => h) (yieldsIf_neq28 (by kernel_rfl) (.tmp 58) (.tmp 60) rfl c0 c0 true HE0 (by kernel_rfl) (by kernel_rfl)) S2 ?_
      refine wpAnyH_take (i := 26) (v := .bool false) rfl (by kernel_rfl) (by kernel_rfl) (by kernel_rfl) (fun _ _ _ h => h) (Or.inl ⟨by kernel_rfl, by intro V _; go_simp⟩) S2 ?_
      refine wpAnyH_take (i := 27) (v := .bool false) rfl (by kernel_rfl) (by kernel_rfl) (by kernel_rfl) (fun _ _ _ h => h) (Or.inl ⟨by kernel_rfl, by intro V _; go_simp⟩) S2 ?_
      simp only [List.getElem_toArray, List.getElem_cons_zero, List.getElem_cons_succ, Act.put, List.setIfInBounds_toArray, List.set_cons_zero, List.set_cons_succ]
      refine wpAnyH_take (i := 28) (v := .slice (some ⟨gl, 0, none⟩) n cl) rfl (by kernel_rfl) (by kernel_rfl) (by kernel_rfl) (fun _ _ _ h => h) (Or.inl ⟨by kernel_rfl, by intro V _; go_simp⟩) S2 ?_
      refine wpAnyH_take (i := 29) (v := .slice (some ⟨gl, 0, none⟩) n cl) rfl (by kernel_rfl) (by kernel_rfl) (by kernel_rfl) (fun _ _ _ h => h) (Or.inl ⟨by kernel_rfl, by intro V _; go_simp⟩) S2 ?_
      refine wpAnyH_take (i := 30) (v := .int .i64 (n : Int)) rfl (by kernel_rfl) (by kernel_rfl) (by kernel_rfl) (fun _ _ _ h => h) (Or.inl ⟨by kernel_rfl, by intro V _; go_simp⟩) S2 ?_
      refine wpAnyH_take (i := 31) (v := .int .i64 (m : Int)) rfl (by kernel_rfl) (by kernel_rfl) (by kernel_rfl) (fun _ _ _ h => h) (Or.inl ⟨by kernel_rfl, by intro V _; go_simp⟩) S2 ?_
      refine wpAnyH_take (i := 32) (v := .pointer (some ⟨gl, m * 20, none⟩)) rfl (by kernel_rfl) (by kernel_rfl) (by kernel_rfl) (fun _ _ _ h => h) (Or.inl ⟨by kernel_rfl, by intro V _; go_simp⟩) S2 ?_
      simp only [List.getElem_toArray, List.getElem_cons_zero, List.getElem_cons_succ, Act.put, List.setIfInBounds_toArray, List.set_cons_zero, List.set_cons_succ]
      refine wpAnyH_take (i := 33) (v := .agg es.toArray) rfl (by kernel_rfl) (by kernel_rfl) (by kernel_rfl) (fun _ _ _ h => h) (yieldsIf_load_mid (by kernel_rfl) 30 (.tmp 68) rfl gl (m * 20) (by kernel_rfl) es _ (fun V h => h.2.1) Try.underlying30 rfl HNe.out) S2 ?_
      refine wpAnyH_take (i := 34) (v := .agg es.toArray) rfl (by kernel_rfl) (by kernel_rfl) (by kernel_rfl) (fun _ _ _ h => h) (yieldsIf_load_mid (by kernel_rfl) 30 (.tmp 9) rfl w5.heap.size 0 (by kernel_rfl) es _ (fun V h => h.2.2) Try.underlying30 rfl HNe.out) S2 ?_
      refine wpAnyH_take (i := 35) (v := .bool false) rfl (by kernel_rfl) (by kernel_rfl) (by kernel_rfl) (fun _ _ _ h => h) (yieldsIf_neq28 (by kernel_rfl) (.tmp 69) (.tmp 70) rfl es es true HEe (by kernel_rfl) (by kernel_rfl)) S2 ?_
      refine wpAnyH_take (i := 36) (v := .bool false) rfl (by kernel_rfl) (by kernel_rfl) (by kernel_rfl) (fun _ _ _ h => h) (Or.inl ⟨by kernel_rfl, by intro V _; go_simp⟩) S2 ?_
      simp only [List.getElem_toArray, List.getElem_cons_zero, List.getElem_cons_succ, Act.put, List.setIfInBounds_toArray, List.set_cons_zero, List.set_cons_succ]
      refine wpAnyH_done (by kernel_rfl) ?_ _
      have P8 := hid_into (P7.out.next HB7.out)
      have HR8 : Hid (∀ V, Below w7.heap.size w7 V → ∀ i s, X[i]? = some s → V.rangeAt gl (i * 20) (stV s)) := fun V hV => HRs.out V (HB7.out.trans (hV.mono HB7.out.size))
      clear P7 HB7 HB0 S1 S2 HSk HRs HN0 HE0 HC0 HX0 HXm C20
      go_wp2_with fail
      go_loopw [11] (fun i wr => ∃ k : Nat, 1 ≤ k ∧ k ≤ n ∧ i = .int .i64 (k : Int) ∧ Hid (Below w7.heap.size w7 wr)) (fun i _ => n - (intOf i).toNat)
      case atStart => exact ⟨1, Nat.le_refl _, by omega, rfl, Below.refl _ _⟩
      case round =>
        obtain ⟨k, hk1, hk2, rfl, HBr⟩ := hrel
        have PR := hid_into (P8.out.next HBr.out)
        by_cases hlt : k < n
        · have hlt' : (k : Int) < n := by omega
          obtain ⟨j, hj⟩ : ∃ j, k = j + 1 := ⟨k - 1, by omega⟩
          obtain ⟨t, ht⟩ : ∃ t, X[k]? = some t := ⟨_, List.getElem?_eq_getElem (by rw [Hn.out]; exact hlt)⟩
          have ht' := ht
          rw [hj] at ht'
          obtain ⟨u, p, hu, hpj, huw, htw, hcall⟩ := HXe.out j t ht'
          obtain ⟨ga, off, hao, x0, x1⟩ := HP.out.at PR.out.below (Nat.le_refl _) _ _ hpj
          subst hao
          have hw3 : IntKind.i64.wrap ((k : Int) - 1) = (j : Int) := by rw [IntKind.wrap_i64]; omega
          have hjp : j < ps.length := (List.getElem?_eq_some_iff.1 hpj).1
          have hjp' : (j : Int) < ps.length := by omega
          have hjn : (j : Int) < n := by omega
          have CT : Hid (∀ W, Below wr.heap.size wr W → Calls Try.prog 18 #[.agg #[.slice ao l.length cp, .int .i64 cap, .int .i64 fuel], .agg (stV u).toArray, .agg #[.int .u16 p.1, .int .u16 p.2]] W fun e w' => e = .returned (.tuple #[.agg (stV t).toArray, .int .i64 0]) ∧ Below W.heap.size W w') := fun W hW => hcall W (PR.out.below.trans (hW.mono PR.out.below.size))
          have HSk : Hid (∀ V, Below wr.heap.size wr V → (V.cell? ⟨w.heap.size, 0, none⟩ = some (.slice ao l.length cp) ∧ V.cell? ⟨w.heap.size, 1, none⟩ = some (.int .i64 cap) ∧ V.cell? ⟨w.heap.size, 2, none⟩ = some (.int .i64 fuel)) ∧ V.rangeAt gl (j * 20) (stV u) ∧ V.cell? ⟨ga, off + j * 2, none⟩ = some (.int .u16 p.1) ∧ V.cell? ⟨ga, off + j * 2 + 1, none⟩ = some (.int .u16 p.2)) := fun V hV =>
            have hal := World.block_lt_of_cell? wr _ x0
            ⟨(PR.out.next hV).cells, HR8.out V (HBr.out.trans (hV.mono HBr.out.size)) j u hu, (hV.cell (p := ⟨ga, off + j * 2, none⟩) hal).trans x0, (hV.cell (p := ⟨ga, off + j * 2 + 1, none⟩) hal).trans x1⟩
          have HNc := st_size huw
          have HLt := st_len htw
          have HOt := st_one htw
          have HNt := st_size htw
          have HEt := run_neqS htw
          have HRt : Hid (∀ V, Below wr.heap.size wr V → V.rangeAt gl (k * 20) (stV t)) := fun V hV => HR8.out V (HBr.out.trans (hV.mono HBr.out.size)) k t ht
          generalize stV u = cs at CT HSk HNc
          generalize stV t = ts at CT HLt HOt HNt HEt HRt
          have Hj := hid_into hj
          clear x0 x1 hpj hu ht ht' huw htw hcall hj hjp
          go_upto_region 10 with fail
          go_cut [12, 13] (fun pv ev wx => ∃ nb, pv = .pointer (some ⟨nb, 0, none⟩) ∧ ev = .int .i64 0 ∧ wr.heap.size ≤ nb ∧ Cw wx nb ts 30 ∧ Below wr.heap.size wr wx)
          case first =>
            have S1 := HSk.out wr.drew (Below.refl _ _).drew
            have HB0 : Hid (Below wr.heap.size wr wr.drew) := (Below.refl _ _).drew
            try dsimp only at S1
            refine wp_region_held (S := fun V => (V.cell? ⟨w.heap.size, 0, none⟩ = some (.slice ao l.length cp) ∧ V.cell? ⟨w.heap.size, 1, none⟩ = some (.int .i64 cap) ∧ V.cell? ⟨w.heap.size, 2, none⟩ = some (.int .i64 fuel)) ∧ V.rangeAt gl (j * 20) cs ∧ V.cell? ⟨ga, off + j * 2, none⟩ = some (.int .u16 p.1) ∧ V.cell? ⟨ga, off + j * 2 + 1, none⟩ = some (.int .u16 p.2)) (by kernel_rfl) ?_
            change wpAnyH _ _ _ _ _ _ _ _ (World.drew _)
            refine wpAnyH_take (i := 0) (v := .agg #[.slice ao l.length cp, .int .i64 cap, .int .i64 fuel]) rfl (by kernel_rfl) (by kernel_rfl) (by kernel_rfl) (fun _ _ _ h => h) (Or.inl ⟨by kernel_rfl, by intro V hV; obtain ⟨⟨y0, y1, y2⟩, _, z0, z1⟩ := hV; go_simp⟩) S1 ?_
            refine wpAnyH_take (i := 1) (v := .slice (some ⟨gl, 0, none⟩) n cl) rfl (by kernel_rfl) (by kernel_rfl) (by kernel_rfl) (fun _ _ _ h => h) (Or.inl ⟨by kernel_rfl, by intro V _; go_simp⟩) S1 ?_
            refine wpAnyH_take (i := 2) (v := .int .i64 (k : Int)) rfl (by kernel_rfl) (by kernel_rfl) (by kernel_rfl) (fun _ _ _ h => h) (Or.inl ⟨by kernel_rfl, by intro V _; go_simp⟩) S1 ?_
            refine wpAnyH_take (i := 3) (v := .int .i64 (j : Int)) rfl (by kernel_rfl) (by kernel_rfl) (by kernel_rfl) (fun _ _ _ h => h) (Or.inl ⟨by kernel_rfl, by intro V _; go_simp⟩) S1 ?_
            refine wpAnyH_take (i := 4) (v := .pointer (some ⟨gl, j * 20, none⟩)) rfl (by kernel_rfl) (by kernel_rfl) (by kernel_rfl) (fun _ _ _ h => h) (Or.inl ⟨by kernel_rfl, by intro V _; go_simp⟩) S1 ?_
            refine wpAnyH_take (i := 5) (v := .agg cs.toArray) rfl (by kernel_rfl) (by kernel_rfl) (by kernel_rfl) (fun _ _ _ h => h) (yieldsIf_load_mid (by kernel_rfl) 30 (.tmp 84) rfl gl (j * 20) (by kernel_rfl) cs _ (fun V h => h.2.1) Try.underlying30 rfl HNc.out) S1 ?_
            refine wpAnyH_take (i := 6) (v := .slice (some ⟨ga, off, none⟩) ps.length ci) rfl (by kernel_rfl) (by kernel_rfl) (by kernel_rfl) (fun _ _ _ h => h) (Or.inl ⟨by kernel_rfl, by intro V _; go_simp⟩) S1 ?_
            refine wpAnyH_take (i := 7) (v := .int .i64 (k : Int)) rfl (by kernel_rfl) (by kernel_rfl) (by kernel_rfl) (fun _ _ _ h => h) (Or.inl ⟨by kernel_rfl, by intro V _; go_simp⟩) S1 ?_
            refine wpAnyH_take (i := 8) (v := .int .i64 (j : Int)) rfl (by kernel_rfl) (by kernel_rfl) (by kernel_rfl) (fun _ _ _ h => h) (Or.inl ⟨by kernel_rfl, by intro V _; go_simp⟩) S1 ?_
            refine wpAnyH_take (i := 9) (v := .pointer (some ⟨ga, off + j * 2, none⟩)) rfl (by kernel_rfl) (by kernel_rfl) (by kernel_rfl) (fun _ _ _ h => h) (Or.inl ⟨by kernel_rfl, by intro V _; go_simp⟩) S1 ?_
            refine wpAnyH_take (i := 10) (v := .agg #[.int .u16 p.1, .int .u16 p.2]) rfl (by kernel_rfl) (by kernel_rfl) (by kernel_rfl) (fun _ _ _ h => h) (Or.inl ⟨by kernel_rfl, by intro V hV; obtain ⟨⟨y0, y1, y2⟩, _, z0, z1⟩ := hV; go_simp⟩) S1 ?_
            refine wpAnyH_ready (rs := [11, 15]) (by kernel_rfl) (by simp) ?_
            refine AllReadyH.cons rfl (fun KK hK => ?_) (AllReadyH.cons rfl (fun KK hK => ?_) AllReadyH.nil)
            · go_simp
              refine (CT.out _ HB0.out).mono ?_
              rintro e wq ⟨rfl, Bx⟩
              have HB3 := hid_into (HB0.out.trans (Bx.mono HB0.out.size))
              have S3 := HSk.out wq HB3.out
              dsimp only
              refine hK.out _ _ (by exact S3) (fun _ => ?_)
              clear hK KK
              refine wpAnyH_take (i := 12) (v := .tuple #[.agg ts.toArray, .int .i64 0]) rfl (by kernel_rfl) (by kernel_rfl) (by kernel_rfl) (fun _ _ _ h => h) (Or.inl ⟨by kernel_rfl, by intro V _; go_simp⟩) S3 ?_
              refine wpAnyH_take (i := 13) (v := .agg ts.toArray) rfl (by kernel_rfl) (by kernel_rfl) (by kernel_rfl) (fun _ _ _ h => h) (Or.inl ⟨by kernel_rfl, by intro V _; go_simp⟩) S3 ?_
              refine wpAnyH_take (i := 14) (v := .int .i64 0) rfl (by kernel_rfl) (by kernel_rfl) (by kernel_rfl) (fun _ _ _ h => h) (Or.inl ⟨by kernel_rfl, by intro V _; go_simp⟩) S3 ?_
              refine wpAnyH_ready (rs := [15]) (by kernel_rfl) (by simp) ?_
              refine AllReadyH.cons rfl (fun KK hK => ?_) AllReadyH.nil
              refine step_alloc_row rfl 30 rfl zeroS HZ.out ?_
              intro W4 hn4 Ba HSa
              have hsz4 : Hid (wr.heap.size ≤ wq.heap.size) := HB3.out.size
              have hlt4 : Hid (wq.heap.size < W4.heap.size) := hn4.lt
              have HB4 := hid_into (HB3.out.trans (Ba.mono HB3.out.size))
              have S4 := HSk.out W4 HB4.out
              refine hK.out _ _ (by exact S4) (fun _ => ?_)
              clear hK KK
              refine wpAnyH_ready (rs := [16]) (by kernel_rfl) (by simp) ?_
              refine AllReadyH.cons rfl (fun KK hK => ?_) AllReadyH.nil
              refine step_store_rw rfl 30 (.tmp 12) (.tmp 92) rfl wq.heap.size zeroS ts 30 (by kernel_rfl) (by kernel_rfl) hn4 ZS HLt HOt ?_
              intro W5 NC O5
              have HB5 := hid_into (HB4.out.trans (O5.below hsz4.out))
              have NB : wr.heap.size ≤ wq.heap.size := hsz4.out
              have S5 := HSk.out W5 HB5.out
              refine hK.out _ _ (by exact S5) (fun _ => ?_)
              clear hK KK
              refine wpAnyH_take (i := 17) (v := .int .i64 0) rfl (by kernel_rfl) (by kernel_rfl) (by kernel_rfl) (fun _ _ _ h => h) (Or.inl ⟨by kernel_rfl, by intro V _; go_simp⟩) S5 ?_
              simp only [List.getElem_toArray, List.getElem_cons_zero, List.getElem_cons_succ, Act.put, List.setIfInBounds_toArray, List.set_cons_zero, List.set_cons_succ]
              refine wpAnyH_done (by kernel_rfl) ?_ _
              go_wp2_with fail
              go_meet
              exact ⟨_, rfl, rfl, NB, NC, HB5.out⟩
            · refine step_alloc_row rfl 30 rfl zeroS HZ.out ?_
              intro W4 hn4 Ba HSa
              have hsz4 : Hid (wr.heap.size ≤ wr.drew.heap.size) := HB0.out.size
              have hlt4 : Hid (wr.drew.heap.size < W4.heap.size) := hn4.lt
              have HB4 := hid_into (HB0.out.trans (Ba.mono HB0.out.size))
              have S4 := HSk.out W4 HB4.out
              refine hK.out _ _ (by exact S4) (fun _ => ?_)
              clear hK KK
              refine wpAnyH_ready (rs := [11]) (by kernel_rfl) (by simp) ?_
              refine AllReadyH.cons rfl (fun KK hK => ?_) AllReadyH.nil
              go_simp
              refine (CT.out _ HB4.out).mono ?_
              rintro e wq ⟨rfl, Bx⟩
              have HB3 := hid_into (HB4.out.trans (Bx.mono HB4.out.size))
              have S3 := HSk.out wq HB3.out
              dsimp only
              refine hK.out _ _ (by exact S3) (fun _ => ?_)
              clear hK KK
              have hn3 := hn4.below Bx hlt4.out
              refine wpAnyH_take (i := 12) (v := .tuple #[.agg ts.toArray, .int .i64 0]) rfl (by kernel_rfl) (by kernel_rfl) (by kernel_rfl) (fun _ _ _ h => h) (Or.inl ⟨by kernel_rfl, by intro V _; go_simp⟩) S3 ?_
              refine wpAnyH_take (i := 13) (v := .agg ts.toArray) rfl (by kernel_rfl) (by kernel_rfl) (by kernel_rfl) (fun _ _ _ h => h) (Or.inl ⟨by kernel_rfl, by intro V _; go_simp⟩) S3 ?_
              refine wpAnyH_take (i := 14) (v := .int .i64 0) rfl (by kernel_rfl) (by kernel_rfl) (by kernel_rfl) (fun _ _ _ h => h) (Or.inl ⟨by kernel_rfl, by intro V _; go_simp⟩) S3 ?_
              refine wpAnyH_ready (rs := [16]) (by kernel_rfl) (by simp) ?_
              refine AllReadyH.cons rfl (fun KK hK => ?_) AllReadyH.nil
              refine step_store_rw rfl 30 (.tmp 12) (.tmp 92) rfl wr.drew.heap.size zeroS ts 30 (by kernel_rfl) (by kernel_rfl) hn3 ZS HLt HOt ?_
              intro W5 NC O5
              have HB5 := hid_into (HB3.out.trans (O5.below hsz4.out))
              have NB : wr.heap.size ≤ wr.drew.heap.size := hsz4.out
              have S5 := HSk.out W5 HB5.out
              refine hK.out _ _ (by exact S5) (fun _ => ?_)
              clear hK KK
              refine wpAnyH_take (i := 17) (v := .int .i64 0) rfl (by kernel_rfl) (by kernel_rfl) (by kernel_rfl) (fun _ _ _ h => h) (Or.inl ⟨by kernel_rfl, by intro V _; go_simp⟩) S5 ?_
              simp only [List.getElem_toArray, List.getElem_cons_zero, List.getElem_cons_succ, Act.put, List.setIfInBounds_toArray, List.set_cons_zero, List.set_cons_succ]
              refine wpAnyH_done (by kernel_rfl) ?_ _
              go_wp2_with fail
              go_meet
              exact ⟨_, rfl, rfl, NB, NC, HB5.out⟩
          case rest =>
            obtain ⟨nb, rfl, rfl, hnb, hCb, hBb⟩ := hcut
            rename World => U1
            have S3 : U1.drew.rangeAt nb 0 ts ∧ U1.drew.rangeAt gl (k * 20) ts := ⟨hCb.range, HRt.out _ hBb.drew⟩
            have HB9 := hid_into (HBr.out.trans (hBb.mono HBr.out.size))
            clear hnb hCb hBb HSk CT HRt
            go_upto_region 11 with fail
            refine wp_region_held (S := fun V => V.rangeAt nb 0 ts ∧ V.rangeAt gl (k * 20) ts) (by kernel_rfl) ?_
            change wpAnyH _ _ _ _ _ _ _ _ (World.drew _)
            refine wpAnyH_take (i := 0) (v := .int .i64 0) rfl (by kernel_rfl) (by kernel_rfl) (by kernel_rfl) (fun _ _ _ h => h) (Or.inl ⟨by kernel_rfl, by intro V _; go_simp⟩) S3 ?_
            refine wpAnyH_take (i := 1) (v := .bool false) rfl (by kernel_rfl) (by kernel_rfl) (by kernel_rfl) (fun _ _ _ h => h) (Or.inl ⟨by kernel_rfl, by intro V _; go_simp⟩) S3 ?_
            refine wpAnyH_take (i := 2) (v := .bool false) rfl (by kernel_rfl) (by kernel_rfl) (by kernel_rfl) (fun _ _ _ h => h) (Or.inl ⟨by kernel_rfl, by intro V _; go_simp⟩) S3 ?_
            refine wpAnyH_take (i := 3) (v := .agg ts.toArray) rfl (by kernel_rfl) (by kernel_rfl) (by kernel_rfl) (fun _ _ _ h => h) (yieldsIf_load_mid (by kernel_rfl) 30 (.tmp 12) rfl nb 0 (by kernel_rfl) ts _ (fun V h => h.1) Try.underlying30 rfl HNt.out) S3 ?_
            refine wpAnyH_take (i := 4) (v := .slice (some ⟨gl, 0, none⟩) n cl) rfl (by kernel_rfl) (by kernel_rfl) (by kernel_rfl) (fun _ _ _ h => h) (Or.inl ⟨by kernel_rfl, by intro V _; go_simp⟩) S3 ?_
            refine wpAnyH_take (i := 5) (v := .int .i64 (k : Int)) rfl (by kernel_rfl) (by kernel_rfl) (by kernel_rfl) (fun _ _ _ h => h) (Or.inl ⟨by kernel_rfl, by intro V _; go_simp⟩) S3 ?_
            refine wpAnyH_take (i := 6) (v := .pointer (some ⟨gl, k * 20, none⟩)) rfl (by kernel_rfl) (by kernel_rfl) (by kernel_rfl) (fun _ _ _ h => h) (Or.inl ⟨by kernel_rfl, by intro V _; go_simp⟩) S3 ?_
            refine wpAnyH_take (i := 7) (v := .agg ts.toArray) rfl (by kernel_rfl) (by kernel_rfl) (by kernel_rfl) (fun _ _ _ h => h) (yieldsIf_load_mid (by kernel_rfl) 30 (.tmp 100) rfl gl (k * 20) (by kernel_rfl) ts _ (fun V h => h.2) Try.underlying30 rfl HNt.out) S3 ?_
            refine wpAnyH_take (i := 8) (v := .bool false) rfl (by kernel_rfl) (by kernel_rfl) (by kernel_rfl) (fun _ _ _ h => h) (yieldsIf_neq28 (by kernel_rfl) (.tmp 97) (.tmp 101) rfl ts ts true HEt (by kernel_rfl) (by kernel_rfl)) S3 ?_
            refine wpAnyH_take (i := 9) (v := .bool false) rfl (by kernel_rfl) (by kernel_rfl) (by kernel_rfl) (fun _ _ _ h => h) (Or.inl ⟨by kernel_rfl, by intro V _; go_simp⟩) S3 ?_
            simp only [List.getElem_toArray, List.getElem_cons_zero, List.getElem_cons_succ, Act.put, List.setIfInBounds_toArray, List.set_cons_zero, List.set_cons_succ]
            refine wpAnyH_done (by kernel_rfl) ?_ _
            go_wp2_with fail
            go_roundw
            case rel => exact ⟨k + 1, by omega, by omega, by go_num, HB9.out.drew⟩
            case measure => simp [intOf]; omega
        · have hkn : ¬ (k : Int) < n := by omega
          have q1 := (PR.out.t.2.cell 18).trans HCe.out.over
          by_cases hov : E.over = true
          · rw [hov] at q1
            by_cases hnl : (n : Int) = (ps.length : Int) + 1
            · have hnl' : ((n : Int) == (ps.length : Int) + 1) = true := by simp [hnl]
              go_wp2_with (go_at_call 16; refine (CK.out _).mono ?_; rintro e w9 ⟨rfl, B9⟩; have P9 := hid_into (PR.out.next B9))
              go_ret
              exact ⟨rfl, P9.out.below⟩
            · have hnl' : ((n : Int) == (ps.length : Int) + 1) = false := by simp [hnl]
              go_wp2_with (go_at_call 16; refine (CK.out _).mono ?_; rintro e w9 ⟨rfl, B9⟩; have P9 := hid_into (PR.out.next B9))
              go_ret
              exact ⟨rfl, P9.out.below⟩
          · have hnl : (n : Int) = (ps.length : Int) + 1 := by
              rcases Hlast.out with h | h
              · omega
              · exact absurd h hov
            have hnl' : ((n : Int) == (ps.length : Int) + 1) = true := by simp [hnl]
            clear hnl
            go_wp2_with (go_at_call 16; refine (CK.out _).mono ?_; rintro e w9 ⟨rfl, B9⟩; have P9 := hid_into (PR.out.next B9))
            go_ret
            exact ⟨rfl, P9.out.below⟩
    · generalize chkG l cap fuel = ck at hc C17
      have hc' : (ck != 0) = true := by simp [hc]
      clear hl hp hin hm hmi hseed
      go_enter Try.func8, Try.ntmps8
      go_wp2_with (first
        | (go_at_call 9; refine (C9.out _).mono ?_; rintro e w2 ⟨rfl, B2⟩; have P2 := hid_into (P1.out.next B2); obtain ⟨k0, k1, k2⟩ := P2.out.cells)
        | (go_at_call 17; refine (C17.out _ P2.out.below).mono ?_; rintro e w3 ⟨rfl, B3⟩; have P3 := hid_into (P2.out.next B3)))
      go_ret
      exact ⟨rfl, P3.out.below⟩
end Go.Proofs.Ytgnbcalfojifnaa
