/-
  Put of a ring, by a contract.
-/
import Derived.Test.YtkchdkcdkeajkaaRgGet
namespace Go.Proofs.Ytkchdkcdkeajkaa
open Go.RowKit
theorem setCells_mid (b : Nat) (t : TypeId) (post : List Value) : ∀ (vs pre old : List Value) (w : World), Cw w b (pre ++ old ++ post) t → old.length = vs.length → Cw (w.setCells b pre.length vs) b (pre ++ vs ++ post) t
  | [], pre, old, w, h, hl => by
    have : old = [] := List.eq_nil_of_length_eq_zero hl
    subst this
    exact h
  | v :: vs, pre, [], w, h, hl => by simp at hl
  | v :: vs, pre, u :: old, w, h, hl => by
    have h1 : Cw (w.setCell ⟨b, pre.length, none⟩ v) b ((pre ++ [v]) ++ old ++ post) t := by
      have := h.set pre.length v
      simpa using this
    have h2 := setCells_mid b t post vs (pre ++ [v]) old _ h1 (by simpa using hl)
    show Cw ((w.setCell ⟨b, pre.length, none⟩ v).setCells b (pre.length + 1) vs) b _ t
    simpa using h2
/-- A state laid at a place of a row of states. -/
theorem cellsS_put {w : World} {b : Nat} {ps : List Sp} {s : Sp} (h : Cw w b (cellsS ps) 35) (hf : Fit ps) (hs : s.Wf) (i : Nat) (hi : i < ps.length) : Cw (w.setCells b (i * 20) (stV s)) b (cellsS (ps.set i s)) 35 := by
  have e1 : ps = ps.take i ++ ([ps[i]] ++ ps.drop (i + 1)) := by simp
  have e2 : ps.set i s = ps.take i ++ ([s] ++ ps.drop (i + 1)) := by rw [List.set_eq_take_append_cons_drop, if_pos hi]; rfl
  have e3 : (cellsS (ps.take i)).length = i * 20 := by
    rw [cellsS_len fun t ht => hf t (List.mem_of_mem_take ht), List.length_take]
    congr 1
    omega
  rw [e1, cellsS_append, cellsS_append, ← List.append_assoc] at h
  rw [e2, cellsS_append, cellsS_append, ← List.append_assoc]
  have h1 : cellsS [ps[i]] = stV ps[i] := by simp [cellsS]
  have h2 : cellsS [s] = stV s := by simp [cellsS]
  rw [h1] at h
  rw [h2]
  have := setCells_mid b 35 _ (stV s) (cellsS (ps.take i)) (stV ps[i]) w h (by rw [(stV_c hs).len, (stV_c (hf _ (List.getElem_mem hi))).len])
  rwa [e3] at this
theorem there_put {w : World} {b : Nat} {ps : List Sp} (h : Cw w b (cellsS ps) 35) (hf : Fit ps) (i : Nat) (hi : i < ps.length) : w.there b (i * 20) 20 := by
  intro j hj
  have := h.there (i * 20 + j) (by rw [cellsS_len hf]; omega)
  rwa [Nat.zero_add] at this
theorem place_c {w : World} {rb pb n : Nat} (c0 : w.cell? ⟨rb, 0, none⟩ = some (.slice (some ⟨pb, 0, none⟩) n n)) (hn1 : 1 ≤ n) (hn2 : n ≤ 256) (f : Nat) : Calls Try.prog 20 #[.pointer (some ⟨rb, 0, none⟩), .int .i64 (f : Int)] w fun e w' => e = .returned (.pointer (some ⟨pb, f % n * 20, none⟩)) ∧ Sm w w' := by
  obtain ⟨m, hm⟩ : ∃ m, m = f % n := ⟨_, rfl⟩
  have hmn : m < n := by rw [hm]; exact Nat.mod_lt _ hn1
  have e1 : ((f : Int)).tmod (n : Int) = (m : Int) := by rw [hm]; rfl
  have e2 : IntKind.i64.wrap (m : Int) = (m : Int) := by simp [IntKind.wrap, IntKind.bits, IntKind.signed]; omega
  have e3 : ¬ (n : Int) = 0 := by omega
  have e4 : ¬ n = 0 := by omega
  have e5 : (m : Int) < (n : Int) := by omega
  have e6 : (0 : Int) ≤ (m : Int) := by omega
  rw [← hm]
  clear hm
  go_enter Try.func20, Try.ntmps20
  go_wp2_with fail
  go_region
  go_wp2_with fail
  go_ret
  exact ⟨by simp, ⟨rfl, rfl, rfl, rfl⟩⟩
/-- A state stored at a place of a row of states. -/
theorem step_store_pl {ops : Array Oper} {o : Oper} {a : Act} {w : World} {K : Act → World → Prop} {Q : Exit → Act → World → Prop} {E : Prop} (hgd : o.guard = none) (x y : Operand) (ho : o.op = .store 35 x y) (g i : Nat) (ps : List Sp) (s : Sp) (hx : a.eval x = .pointer (some ⟨g, i * 20, none⟩)) (hy : a.eval y = .agg (stV s).toArray)
    (hc : Cw w g (cellsS ps) 35) (hf : Hid (Fit ps)) (hs : Hid s.Wf) (hi : Hid (i < ps.length))
    (h : ∀ W, Cw W g (cellsS (ps.set i s)) 35 → Only g w W → K (a.put o.dst undef) W) : if Region.wanted o (yielded ops a.tmps) = true then Oper.wp Try.prog o a w K Q else E := by
  have hw : Region.wanted o (yielded ops a.tmps) = true := by simp [Region.wanted, hgd]
  rw [if_pos hw]
  have hl := (stV_c hs.out).len
  refine wp_store_mid 35 x y ho g (i * 20) (stV s).toArray hx hy (by rw [List.size_toArray, hl]; exact there_put hc hf.out i hi.out) (by rw [List.size_toArray, hl]; exact Try.size35) (all_oneCell_toArray (stV_c hs.out).one) ?_
  exact h _ (cellsS_put hc hf.out hs.out i hi.out) (Only.sets g (i * 20) w (stV s))
theorem put_nil (s : Sp) (hs : Gs s) (w : World) : Calls Try.prog 9 #[.pointer none, .agg (stV s).toArray] w fun e w' => e = .returned (.int .i64 1) ∧ Below w.heap.size w w' := by
  have CI := hid_into (isState_any s hs)
  have CT := hid_into takes_nil
  have HN := st_size hs.1
  have HX := hid_into (stV_c hs.1).frame
  generalize stV s = cs at *
  generalize s.frame = x at *
  cases hq : isS s with
  | false =>
    rw [hq] at CI
    go_enter Try.func9, Try.ntmps9
    go_wp2_with (first
      | (refine wpList_box_row rfl 35 (.tmp 1) rfl cs rfl ?_; intro W1 hc1 B1 HS1)
      | (refine wpList_load_rw rfl 35 (.tmp 3) rfl w.heap.size cs 35 _ rfl ?_ Try.underlying35 rfl HN ?_; exact hc1)
      | (go_at_call 17; refine (CI.out _).mono ?_; rintro e w2 ⟨rfl, B2⟩))
    go_ret
    exact ⟨rfl, B1.trans (B2.mono B1.size)⟩
  | true =>
    rw [hq] at CI
    go_enter Try.func9, Try.ntmps9
    go_wp2_with (first
      | (refine wpList_box_row rfl 35 (.tmp 1) rfl cs rfl ?_; intro W1 hc1 B1 HS1)
      | (refine wpList_load_rw rfl 35 (.tmp 3) rfl w.heap.size cs 35 _ rfl ?_ Try.underlying35 rfl HN ?_; exact hc1)
      | (go_at_call 17; refine (CI.out _).mono ?_; rintro e w2 ⟨rfl, B2⟩; have c3 := ((hc1.below B2 hc1.lt).cell 0).trans HX.out)
      | (go_at_call 18; refine (CT.out _ _).mono ?_; rintro e w3 ⟨rfl, hs3⟩))
    go_ret
    exact ⟨rfl, (B1.trans (B2.mono B1.size)).trans (hs3.below _)⟩
theorem Grows.of_only {F : Nat → Prop} {g : Nat} {w w' : World} (h : Only g w w') (hg : F g) : Grows F w w' := ⟨h.os, h.tape, h.output, by rw [h.size]; exact Nat.le_refl _, fun k _ hk => h.block k fun e => hk (e ▸ hg)⟩
theorem Sm.only {g : Nat} {w w' w'' : World} (h : Sm w w') (k : Only g w' w'') : Only g w w'' := ⟨k.os.trans h.os, k.tape.trans h.tape, k.output.trans h.output, k.size.trans h.size, fun i hi => (k.block i hi).trans (by rw [h.heap])⟩
/-- What Put leaves. -/
def PutP (w w' : World) (rb pb n a : Nat) (L : List Sp) (s : Sp) : Prop := Rg w' rb pb n (putA n a L s) (putL n a L s) ∧ Grows (fun k => k = rb ∨ k = pb) w w'
set_option maxRecDepth 20000 in
set_option maxHeartbeats 4000000 in
theorem put_go {w : World} {rb pb n a : Nat} {L : List Sp} (h : Rg w rb pb n a L) (s : Sp) (hs : Gs s) (he : putE a L s = 0) : Calls Try.prog 9 #[.pointer (some ⟨rb, 0, none⟩), .agg (stV s).toArray] w fun e w' => e = .returned (.int .i64 0) ∧ PutP w w' rb pb n a L s := by
  obtain ⟨ps, hp, hl⟩ := h.p
  obtain ⟨hi, ho⟩ := putE_ok he
  obtain ⟨f, hf⟩ : ∃ f : Nat, s.frame = (f : Int) := ⟨s.frame.toNat, by have := isS_frame hi; omega⟩
  have hf6 : f ≤ 600 := by have := isS_frame hi; omega
  have hfn : f % n < ps.length := by rw [hl.len]; exact Nat.mod_lt _ h.n1
  obtain ⟨hP, hlen, hA⟩ := hl.put h.k h.n1 hs he hf
  have hk := h.k.put h.n1 hs
  have hT : tkB a L (f : Int) = true := by
    unfold tkB
    rw [decide_eq_true_eq]
    by_cases e : L = []
    · exact Or.inl e
    · have := ho e; exact Or.inr (by omega)
  have CI : Hid (∀ W, Calls Try.prog 17 #[.agg (stV s).toArray] W fun e w' => e = .returned (.bool true) ∧ Below W.heap.size W w') := fun W => by rw [← hi]; exact isState_any s hs W
  have CT : Hid (∀ W, Below w.heap.size w W → Calls Try.prog 18 #[.pointer (some ⟨rb, 0, none⟩), .int .i64 (f : Int)] W fun e w' => e = .returned (.bool true) ∧ Sm W w') := fun W hW => by rw [← hT]; exact takes_any (h.below hW (Nat.le_refl _)) _
  have CE : Hid (∀ W, Below w.heap.size w W → Calls Try.prog 19 #[.pointer (some ⟨rb, 0, none⟩)] W fun e w' => e = .returned (.bool (decide (L = []))) ∧ Sm W w') := fun W hW => empty_any (h.below hW (Nat.le_refl _))
  have HR : Hid (∀ W, Below w.heap.size w W → Cw W rb [.slice (some ⟨pb, 0, none⟩) n n, .int .i64 (a : Int), .int .i64 ((a + L.length : Nat) : Int)] 46 ∧ Cw W pb (cellsS ps) 35 ∧ rb < w.heap.size) := fun W hW => ⟨h.r.below hW h.r.lt, hp.below hW hp.lt, h.r.lt⟩
  have HN := st_size hs.1
  have HX := hid_into (stV_c hs.1).frame
  rw [hf] at HX
  have HNN : Hid (1 ≤ n ∧ n ≤ 256) := ⟨h.n1, h.n2⟩
  have HFit : Hid (Fit ps) := hl.fit
  have HWf : Hid s.Wf := hs.1
  have HFn : Hid (f % n < ps.length) := hfn
  have HNe : Hid (rb ≠ pb ∧ w.heap.size ≠ pb ∧ w.heap.size ≠ rb) := ⟨h.ne, by have := h.lt; omega, by have := h.lt; omega⟩
  obtain ⟨cs, hcs⟩ : ∃ cs, stV s = cs := ⟨_, rfl⟩
  have HCS := hid_into hcs
  rw [hcs] at CI HN HX ⊢
  clear hcs
  by_cases hl0 : L = []
  · have e2 : decide (L = []) = true := by simp [hl0]
    have HA0 : Hid ((a0 a L s : Int) = (f : Int)) := by show (a0 a L s : Int) = (f : Int); unfold a0; rw [if_pos hl0]; omega
    rw [e2] at CE
    clear h hs he hp hl hi ho hf hfn hT hl0 e2
    go_enter Try.func9, Try.ntmps9
    go_upto_region 5 with (go_big_may; first
      | (refine wpList_box_row rfl 35 (.tmp 1) rfl cs rfl ?_; intro W1 hc1 B1 HS1)
      | (refine wpList_load_rw rfl 35 (.tmp 3) rfl w.heap.size cs 35 _ rfl ?_ Try.underlying35 rfl HN ?_; exact hc1)
      | (go_at_call 17; refine (CI.out _).mono ?_; rintro e w2 ⟨rfl, B2⟩; have hc2 := hc1.below B2 hc1.lt; have HB2 := hid_into (B1.trans (B2.mono B1.size)); have c3 := (hc2.cell 0).trans HX.out; clear hc1 B1 B2)
      | (go_at_call 18; refine (CT.out _ HB2.out).mono ?_; rintro e w3 ⟨rfl, hs3⟩; have hc3 := hs3.cw hc2; have HB3 := hid_into (HB2.out.trans (hs3.below _)); clear hc2 HB2 c3)
      | (go_at_call 19; refine (CE.out _ HB3.out).mono ?_; rintro e w4 ⟨rfl, hs4⟩; have hc4 := hs4.cw hc3; have HB4 := hid_into (HB3.out.trans (hs4.below _)); have c4 := (hc4.cell 0).trans HX.out; obtain ⟨hr4, hp4, hlt4⟩ := HR.out _ HB4.out; have z4 := hr4.frozen 1; have d4 := (hr4.cell 1).trans rfl; clear hc3 HB3))
    have hr5 := hr4.set 1 (.int .i64 (f : Int))
    have O5 := Only.set rb 1 w4 (.int .i64 (f : Int))
    have hp5 := O5.cw hp4 (Ne.symm HNe.out.1)
    have hc5 := O5.cw hc4 HNe.out.2.2
    have HG5 := hid_into ((Grows.of_below HB4.out (fun k => k = rb ∨ k = pb) (fun k hk hb => by omega)).trans (Grows.of_only O5 (F := fun k => k = rb ∨ k = pb) (Or.inl rfl)) (fun k hk => Or.inl hk))
    generalize w4.setCell ⟨rb, 1, none⟩ (.int .i64 (f : Int)) = W5 at *
    simp only [List.set_cons_succ, List.set_cons_zero] at hr5
    clear O5 hr4 hp4 hc4 HB4 z4 d4 c4 hs3 hs4 hlt4
    have HS5 : Hid (∀ V, Sm W5 V → V.rangeAt w.heap.size 0 cs) := fun V hV => (hV.cw hc5).range
    have CP : Hid (∀ V, Sm W5 V → Calls Try.prog 20 #[.pointer (some ⟨rb, 0, none⟩), .int .i64 (f : Int)] V fun e w' => e = .returned (.pointer (some ⟨pb, f % n * 20, none⟩)) ∧ Sm V w') := fun V hV => place_c ((hV.cw hr5).cell 0) HNN.out.1 HNN.out.2 f
    have S1 := HS5.out W5.drew ⟨rfl, rfl, rfl, rfl⟩
    refine wp_region_held (S := fun V => V.rangeAt w.heap.size 0 cs) (by kernel_rfl) ?_
    change wpAnyH _ _ _ _ _ _ _ _ (World.drew _)
    refine wpAnyH_take (i := 0) (v := .pointer (some ⟨rb, 0, none⟩)) rfl (by kernel_rfl) (by kernel_rfl) (by kernel_rfl) (fun _ _ _ h => h) (Or.inl ⟨by kernel_rfl, by intro V _; go_simp⟩) S1 ?_
    refine wpAnyH_take (i := 1) (v := .pointer (some ⟨w.heap.size, 0, none⟩)) rfl (by kernel_rfl) (by kernel_rfl) (by kernel_rfl) (fun _ _ _ h => h) (Or.inl ⟨by kernel_rfl, by intro V _; go_simp⟩) S1 ?_
    refine wpAnyH_take (i := 2) (v := .int .i64 (f : Int)) rfl (by kernel_rfl) (by kernel_rfl) (by kernel_rfl) (fun _ _ _ h => h) (Or.inl ⟨by kernel_rfl, by intro V hV; have q : V.cell? ⟨w.heap.size, 0, none⟩ = some (.int .i64 (f : Int)) := hV 0 _ HX.out; go_simp⟩) S1 ?_
    refine wpAnyH_take (i := 4) (v := .agg cs.toArray) rfl (by kernel_rfl) (by kernel_rfl) (by kernel_rfl) (fun _ _ _ h => h) (yieldsIf_load_mid (by kernel_rfl) 35 (.tmp 3) rfl w.heap.size 0 rfl cs _ (fun V h => h) Try.underlying35 rfl HN.out) S1 ?_
    refine wpAnyH_ready (rs := [3]) (by kernel_rfl) (by simp) ?_
    refine AllReadyH.cons rfl (fun KK hK => ?_) AllReadyH.nil
    go_simp
    refine (CP.out W5.drew ⟨rfl, rfl, rfl, rfl⟩).mono ?_
    rintro e w6 ⟨rfl, hs6'⟩
    have hs6 : Sm W5 w6 := ⟨hs6'.os, hs6'.tape, hs6'.output, hs6'.heap⟩
    have S6 := HS5.out w6 hs6
    dsimp only
    refine hK.out _ _ (by exact S6) (fun _ => ?_)
    clear hK KK
    refine wpAnyH_take (i := 5) (v := .pointer (some ⟨pb, f % n * 20, none⟩)) rfl (by kernel_rfl) (by kernel_rfl) (by kernel_rfl) (fun _ _ _ h => h) (Or.inl ⟨by kernel_rfl, by intro V _; go_simp⟩) S6 ?_
    refine wpAnyH_ready (rs := [6]) (by kernel_rfl) (by simp) ?_
    refine AllReadyH.cons rfl (fun KK hK => ?_) AllReadyH.nil
    refine step_store_pl rfl (.tmp 27) (.tmp 26) rfl pb (f % n) ps s (by kernel_rfl) (by rw [HCS.out]; kernel_rfl) (hs6.cw hp5) HFit HWf HFn ?_
    intro W7 hp7 O7
    have hr7 := O7.cw (hs6.cw hr5) HNe.out.1
    have hc7 := O7.cw (hs6.cw hc5) HNe.out.2.1
    have HG7 := hid_into (HG5.out.trans (Grows.of_only (hs6.only O7) (F := fun k => k = rb ∨ k = pb) (Or.inr rfl)) (fun k hk => Or.inl hk))
    refine hK.out _ _ (by exact hc7.range) (fun _ => ?_)
    clear hK KK
    simp only [List.getElem_toArray, List.getElem_cons_zero, List.getElem_cons_succ, Act.put, List.setIfInBounds_toArray, List.set_cons_zero, List.set_cons_succ]
    refine wpAnyH_done (by kernel_rfl) ?_ _
    have c7 := (hc7.cell 0).trans HX.out
    have z7 := hr7.frozen 2
    have d7 := hr7.cell 2
    simp only [List.getElem?_cons_zero, List.getElem?_cons_succ] at d7
    clear hs6 hs6' S6 S1 O7 HS5 CP
    have HC7 := hid_into hr7
    have HP7 := hid_into hp7
    clear hr7 hp7 hc7 hr5 hp5 hc5
    go_upto_region 7 with fail
    have hr8 := HC7.out.set 2 (.int .i64 ((f : Int) + 1))
    have O8 := Only.set rb 2 W7 (.int .i64 ((f : Int) + 1))
    have hp8 := hid_into (O8.cw HP7.out (Ne.symm HNe.out.1))
    have HG8 := hid_into (HG7.out.trans (Grows.of_only O8 (F := fun k => k = rb ∨ k = pb) (Or.inl rfl)) (fun k hk => Or.inl hk))
    generalize W7.setCell ⟨rb, 2, none⟩ (.int .i64 ((f : Int) + 1)) = W8 at *
    simp only [List.set_cons_succ, List.set_cons_zero] at hr8
    have d0 := hr8.cell 0
    have d1 := hr8.cell 1
    have d2 := hr8.cell 2
    have z8 := hr8.frozen 1
    simp only [List.getElem?_cons_zero, List.getElem?_cons_succ] at d0 d1 d2
    have HC8 := hid_into hr8
    clear hr8 O8 HC7 HP7 c7 z7 d7 HG7
    obtain ⟨d, hd⟩ : ∃ d : Int, d = (f : Int) + 1 - (n : Int) := ⟨_, rfl⟩
    have hwd : IntKind.i64.wrap ((f : Int) + 1 - (n : Int)) = d := by rw [hd]; have := HNN.out; simp [IntKind.wrap, IntKind.bits, IntKind.signed]; omega
    have HD := hid_into hd
    clear hd
    by_cases hlt : (f : Int) < d
    · go_region
      go_wp2_with fail
      go_ret
      have hX : d = (putA n a L s : Int) := by
        have hlt' := hlt; rw [HD.out] at hlt'; rw [hA, HD.out, HA0.out]
        omega
      have O9 := Only.set rb 1 W8 (.int .i64 d)
      have hr9 := HC8.out.set 1 (.int .i64 d)
      have hp9 := O9.cw hp8.out (Ne.symm HNe.out.1)
      simp only [List.set_cons_succ, List.set_cons_zero] at hr9
      have HG9 := HG8.out.trans (Grows.of_only O9.drew (F := fun k => k = rb ∨ k = pb) (Or.inl rfl)) (fun k hk => Or.inl hk)
      refine ⟨rfl, ⟨?_, ⟨_, hp9.keep rfl, hP⟩, hk, HNe.out.1, HNN.out.1, HNN.out.2⟩, HG9⟩
      rw [hlen, show ((f + 1 : Nat) : Int) = (f : Int) + 1 from rfl, ← hX]
      exact hr9.keep rfl
    · go_region
      go_wp2_with fail
      go_ret
      have hX : (f : Int) = (putA n a L s : Int) := by
        have hlt' := hlt; rw [HD.out] at hlt'; rw [hA, HA0.out]
        omega
      have O9 := Only.set rb 1 W8 (.int .i64 (f : Int))
      have hr9 := HC8.out.set 1 (.int .i64 (f : Int))
      have hp9 := O9.cw hp8.out (Ne.symm HNe.out.1)
      simp only [List.set_cons_succ, List.set_cons_zero] at hr9
      have HG9 := HG8.out.trans (Grows.of_only O9.drew (F := fun k => k = rb ∨ k = pb) (Or.inl rfl)) (fun k hk => Or.inl hk)
      refine ⟨rfl, ⟨?_, ⟨_, hp9.keep rfl, hP⟩, hk, HNe.out.1, HNN.out.1, HNN.out.2⟩, HG9⟩
      rw [hlen, show ((f + 1 : Nat) : Int) = (f : Int) + 1 from rfl, ← hX]
      exact hr9.keep rfl
  · have e2 : decide (L = []) = false := by simp [hl0]
    have HA0 : Hid ((a0 a L s : Int) = (a : Int)) := by show (a0 a L s : Int) = (a : Int); unfold a0; rw [if_neg hl0]
    rw [e2] at CE
    clear h hs he hp hl hi ho hf hfn hT hl0 e2
    go_enter Try.func9, Try.ntmps9
    go_upto_region 5 with (go_big_may; first
      | (refine wpList_box_row rfl 35 (.tmp 1) rfl cs rfl ?_; intro W1 hc1 B1 HS1)
      | (refine wpList_load_rw rfl 35 (.tmp 3) rfl w.heap.size cs 35 _ rfl ?_ Try.underlying35 rfl HN ?_; exact hc1)
      | (go_at_call 17; refine (CI.out _).mono ?_; rintro e w2 ⟨rfl, B2⟩; have hc2 := hc1.below B2 hc1.lt; have HB2 := hid_into (B1.trans (B2.mono B1.size)); have c3 := (hc2.cell 0).trans HX.out; clear hc1 B1 B2)
      | (go_at_call 18; refine (CT.out _ HB2.out).mono ?_; rintro e w3 ⟨rfl, hs3⟩; have hc3 := hs3.cw hc2; have HB3 := hid_into (HB2.out.trans (hs3.below _)); clear hc2 HB2 c3)
      | (go_at_call 19; refine (CE.out _ HB3.out).mono ?_; rintro e w4 ⟨rfl, hs4⟩; have hc4 := hs4.cw hc3; have HB4 := hid_into (HB3.out.trans (hs4.below _)); have c4 := (hc4.cell 0).trans HX.out; obtain ⟨hr4, hp4, hlt4⟩ := HR.out _ HB4.out; have z4 := hr4.frozen 1; have d4 := (hr4.cell 1).trans rfl; clear hc3 HB3))
    have HG5 := hid_into (Grows.of_below HB4.out (fun k => k = rb ∨ k = pb) (fun k hk hb => by omega))
    have hr5 := hr4
    have hp5 := hp4
    have hc5 := hc4
    generalize w4 = W5 at *
    clear hr4 hp4 hc4 HB4 z4 d4 c4 hs3 hs4 hlt4
    have HS5 : Hid (∀ V, Sm W5 V → V.rangeAt w.heap.size 0 cs) := fun V hV => (hV.cw hc5).range
    have CP : Hid (∀ V, Sm W5 V → Calls Try.prog 20 #[.pointer (some ⟨rb, 0, none⟩), .int .i64 (f : Int)] V fun e w' => e = .returned (.pointer (some ⟨pb, f % n * 20, none⟩)) ∧ Sm V w') := fun V hV => place_c ((hV.cw hr5).cell 0) HNN.out.1 HNN.out.2 f
    have S1 := HS5.out W5.drew ⟨rfl, rfl, rfl, rfl⟩
    refine wp_region_held (S := fun V => V.rangeAt w.heap.size 0 cs) (by kernel_rfl) ?_
    change wpAnyH _ _ _ _ _ _ _ _ (World.drew _)
    refine wpAnyH_take (i := 0) (v := .pointer (some ⟨rb, 0, none⟩)) rfl (by kernel_rfl) (by kernel_rfl) (by kernel_rfl) (fun _ _ _ h => h) (Or.inl ⟨by kernel_rfl, by intro V _; go_simp⟩) S1 ?_
    refine wpAnyH_take (i := 1) (v := .pointer (some ⟨w.heap.size, 0, none⟩)) rfl (by kernel_rfl) (by kernel_rfl) (by kernel_rfl) (fun _ _ _ h => h) (Or.inl ⟨by kernel_rfl, by intro V _; go_simp⟩) S1 ?_
    refine wpAnyH_take (i := 2) (v := .int .i64 (f : Int)) rfl (by kernel_rfl) (by kernel_rfl) (by kernel_rfl) (fun _ _ _ h => h) (Or.inl ⟨by kernel_rfl, by intro V hV; have q : V.cell? ⟨w.heap.size, 0, none⟩ = some (.int .i64 (f : Int)) := hV 0 _ HX.out; go_simp⟩) S1 ?_
    refine wpAnyH_take (i := 4) (v := .agg cs.toArray) rfl (by kernel_rfl) (by kernel_rfl) (by kernel_rfl) (fun _ _ _ h => h) (yieldsIf_load_mid (by kernel_rfl) 35 (.tmp 3) rfl w.heap.size 0 rfl cs _ (fun V h => h) Try.underlying35 rfl HN.out) S1 ?_
    refine wpAnyH_ready (rs := [3]) (by kernel_rfl) (by simp) ?_
    refine AllReadyH.cons rfl (fun KK hK => ?_) AllReadyH.nil
    go_simp
    refine (CP.out W5.drew ⟨rfl, rfl, rfl, rfl⟩).mono ?_
    rintro e w6 ⟨rfl, hs6'⟩
    have hs6 : Sm W5 w6 := ⟨hs6'.os, hs6'.tape, hs6'.output, hs6'.heap⟩
    have S6 := HS5.out w6 hs6
    dsimp only
    refine hK.out _ _ (by exact S6) (fun _ => ?_)
    clear hK KK
    refine wpAnyH_take (i := 5) (v := .pointer (some ⟨pb, f % n * 20, none⟩)) rfl (by kernel_rfl) (by kernel_rfl) (by kernel_rfl) (fun _ _ _ h => h) (Or.inl ⟨by kernel_rfl, by intro V _; go_simp⟩) S6 ?_
    refine wpAnyH_ready (rs := [6]) (by kernel_rfl) (by simp) ?_
    refine AllReadyH.cons rfl (fun KK hK => ?_) AllReadyH.nil
    refine step_store_pl rfl (.tmp 27) (.tmp 26) rfl pb (f % n) ps s (by kernel_rfl) (by rw [HCS.out]; kernel_rfl) (hs6.cw hp5) HFit HWf HFn ?_
    intro W7 hp7 O7
    have hr7 := O7.cw (hs6.cw hr5) HNe.out.1
    have hc7 := O7.cw (hs6.cw hc5) HNe.out.2.1
    have HG7 := hid_into (HG5.out.trans (Grows.of_only (hs6.only O7) (F := fun k => k = rb ∨ k = pb) (Or.inr rfl)) (fun k hk => Or.inl hk))
    refine hK.out _ _ (by exact hc7.range) (fun _ => ?_)
    clear hK KK
    simp only [List.getElem_toArray, List.getElem_cons_zero, List.getElem_cons_succ, Act.put, List.setIfInBounds_toArray, List.set_cons_zero, List.set_cons_succ]
    refine wpAnyH_done (by kernel_rfl) ?_ _
    have c7 := (hc7.cell 0).trans HX.out
    have z7 := hr7.frozen 2
    have d7 := hr7.cell 2
    simp only [List.getElem?_cons_zero, List.getElem?_cons_succ] at d7
    clear hs6 hs6' S6 S1 O7 HS5 CP
    have HC7 := hid_into hr7
    have HP7 := hid_into hp7
    clear hr7 hp7 hc7 hr5 hp5 hc5
    go_upto_region 7 with fail
    have hr8 := HC7.out.set 2 (.int .i64 ((f : Int) + 1))
    have O8 := Only.set rb 2 W7 (.int .i64 ((f : Int) + 1))
    have hp8 := hid_into (O8.cw HP7.out (Ne.symm HNe.out.1))
    have HG8 := hid_into (HG7.out.trans (Grows.of_only O8 (F := fun k => k = rb ∨ k = pb) (Or.inl rfl)) (fun k hk => Or.inl hk))
    generalize W7.setCell ⟨rb, 2, none⟩ (.int .i64 ((f : Int) + 1)) = W8 at *
    simp only [List.set_cons_succ, List.set_cons_zero] at hr8
    have d0 := hr8.cell 0
    have d1 := hr8.cell 1
    have d2 := hr8.cell 2
    have z8 := hr8.frozen 1
    simp only [List.getElem?_cons_zero, List.getElem?_cons_succ] at d0 d1 d2
    have HC8 := hid_into hr8
    clear hr8 O8 HC7 HP7 c7 z7 d7 HG7
    obtain ⟨d, hd⟩ : ∃ d : Int, d = (f : Int) + 1 - (n : Int) := ⟨_, rfl⟩
    have hwd : IntKind.i64.wrap ((f : Int) + 1 - (n : Int)) = d := by rw [hd]; have := HNN.out; simp [IntKind.wrap, IntKind.bits, IntKind.signed]; omega
    have HD := hid_into hd
    clear hd
    by_cases hlt : (a : Int) < d
    · go_region
      go_wp2_with fail
      go_ret
      have hX : d = (putA n a L s : Int) := by
        have hlt' := hlt; rw [HD.out] at hlt'; rw [hA, HD.out, HA0.out]
        omega
      have O9 := Only.set rb 1 W8 (.int .i64 d)
      have hr9 := HC8.out.set 1 (.int .i64 d)
      have hp9 := O9.cw hp8.out (Ne.symm HNe.out.1)
      simp only [List.set_cons_succ, List.set_cons_zero] at hr9
      have HG9 := HG8.out.trans (Grows.of_only O9.drew (F := fun k => k = rb ∨ k = pb) (Or.inl rfl)) (fun k hk => Or.inl hk)
      refine ⟨rfl, ⟨?_, ⟨_, hp9.keep rfl, hP⟩, hk, HNe.out.1, HNN.out.1, HNN.out.2⟩, HG9⟩
      rw [hlen, show ((f + 1 : Nat) : Int) = (f : Int) + 1 from rfl, ← hX]
      exact hr9.keep rfl
    · go_region
      go_wp2_with fail
      go_ret
      have hX : (a : Int) = (putA n a L s : Int) := by
        have hlt' := hlt; rw [HD.out] at hlt'; rw [hA, HA0.out]
        omega
      have O9 := Only.set rb 1 W8 (.int .i64 (a : Int))
      have hr9 := HC8.out.set 1 (.int .i64 (a : Int))
      have hp9 := O9.cw hp8.out (Ne.symm HNe.out.1)
      simp only [List.set_cons_succ, List.set_cons_zero] at hr9
      have HG9 := HG8.out.trans (Grows.of_only O9.drew (F := fun k => k = rb ∨ k = pb) (Or.inl rfl)) (fun k hk => Or.inl hk)
      refine ⟨rfl, ⟨?_, ⟨_, hp9.keep rfl, hP⟩, hk, HNe.out.1, HNN.out.1, HNN.out.2⟩, HG9⟩
      rw [hlen, show ((f + 1 : Nat) : Int) = (f : Int) + 1 from rfl, ← hX]
      exact hr9.keep rfl
set_option maxRecDepth 20000 in
set_option maxHeartbeats 2000000 in
theorem put_no {w : World} {rb pb n a : Nat} {L : List Sp} (h : Rg w rb pb n a L) (s : Sp) (hs : Gs s) (he : putE a L s ≠ 0) : Calls Try.prog 9 #[.pointer (some ⟨rb, 0, none⟩), .agg (stV s).toArray] w fun e w' => e = .returned (.int .i64 1) ∧ Below w.heap.size w w' := by
  have CI := hid_into (isState_any s hs)
  have CT : Hid (∀ W, Below w.heap.size w W → Calls Try.prog 18 #[.pointer (some ⟨rb, 0, none⟩), .int .i64 s.frame] W fun e w' => e = .returned (.bool (tkB a L s.frame)) ∧ Sm W w') := fun W hW => takes_any (h.below hW (Nat.le_refl _)) _
  have HN := st_size hs.1
  have HX := hid_into (stV_c hs.1).frame
  cases hq : isS s with
  | false =>
    rw [hq] at CI
    generalize stV s = cs at *
    generalize s.frame = x at *
    clear h hs he CT
    go_enter Try.func9, Try.ntmps9
    go_wp2_with (first
      | (refine wpList_box_row rfl 35 (.tmp 1) rfl cs rfl ?_; intro W1 hc1 B1 HS1)
      | (refine wpList_load_rw rfl 35 (.tmp 3) rfl w.heap.size cs 35 _ rfl ?_ Try.underlying35 rfl HN ?_; exact hc1)
      | (go_at_call 17; refine (CI.out _).mono ?_; rintro e w2 ⟨rfl, B2⟩))
    go_ret
    exact ⟨rfl, B1.trans (B2.mono B1.size)⟩
  | true =>
    rw [hq] at CI
    have hT : tkB a L s.frame = false := by
      unfold putE at he
      unfold tkB
      rw [hq] at he
      rw [decide_eq_false_iff_not]
      intro c
      apply he
      rw [if_neg]
      rintro (c1 | ⟨c1, c2⟩)
      · cases c1
      · rcases c with c | c
        · exact c1 c
        · omega
    rw [hT] at CT
    generalize stV s = cs at *
    generalize s.frame = x at *
    clear h hs he hT
    go_enter Try.func9, Try.ntmps9
    go_wp2_with (first
      | (refine wpList_box_row rfl 35 (.tmp 1) rfl cs rfl ?_; intro W1 hc1 B1 HS1)
      | (refine wpList_load_rw rfl 35 (.tmp 3) rfl w.heap.size cs 35 _ rfl ?_ Try.underlying35 rfl HN ?_; exact hc1)
      | (go_at_call 17; refine (CI.out _).mono ?_; rintro e w2 ⟨rfl, B2⟩; have c3 := ((hc1.below B2 hc1.lt).cell 0).trans HX.out; have HB2 := hid_into (B1.trans (B2.mono B1.size)))
      | (go_at_call 18; refine (CT.out _ HB2.out).mono ?_; rintro e w3 ⟨rfl, hs3⟩))
    go_ret
    exact ⟨rfl, HB2.out.trans (hs3.below _)⟩
/-- Put whole. -/
theorem put_any {w : World} {rb pb n a : Nat} {L : List Sp} (h : Rg w rb pb n a L) (s : Sp) (hs : Gs s) : Calls Try.prog 9 #[.pointer (some ⟨rb, 0, none⟩), .agg (stV s).toArray] w fun e w' => e = .returned (.int .i64 (putE a L s)) ∧ PutP w w' rb pb n a L s := by
  by_cases he : putE a L s = 0
  · rw [he]
    exact put_go h s hs he
  · have e1 : putE a L s = 1 := by rcases putE_cases a L s with e | e; exact absurd e he; exact e
    rw [e1]
    refine (put_no h s hs he).mono ?_
    rintro e w' ⟨rfl, hb⟩
    refine ⟨rfl, ?_, Grows.of_below hb _ (fun k hk hb => by omega)⟩
    rw [show putA n a L s = a from if_neg he, show putL n a L s = L from if_neg he]
    exact h.below hb (Nat.le_refl _)
end Go.Proofs.Ytkchdkcdkeajkaa
