/-
  Joined from: RStepC.
-/
import Derived.Test.YtbfldcieibdapabGreatM31
import Derived.Test.YtbfldcieibdapabGreatM30
import Derived.Deep.CutBlock
import Derived.Deep.RegionHeld3
section
/-
  The document's Step: a frame that runs.
-/
namespace Go.Proofs.YtbfldcieibdapabGreat
open Go.RowKit
theorem setCells_mid (b : Nat) (t : TypeId) (post : List Value) : ∀ (vs pre old : List Value) (w : World), Cw w b (pre ++ old ++ post) t → old.length = vs.length → Cw (w.setCells b pre.length vs) b (pre ++ vs ++ post) t
  | [], pre, old, w, h, hl => by
    have : old = [] := List.eq_nil_of_length_eq_zero hl
    subst this
    exact h
  | v :: vs, pre, [], w, h, hl => by simp at hl
  | v :: vs, pre, u :: old, w, h, hl => by
    have h1 : Cw (w.setCell ⟨b, pre.length, none⟩ v) b ((pre ++ [v]) ++ old ++ post) t := by
      have := h.set pre.length v
      simpa using this
    have h2 := setCells_mid b t post vs (pre ++ [v]) old _ h1 (by simpa using hl)
    show Cw ((w.setCell ⟨b, pre.length, none⟩ v).setCells b (pre.length + 1) vs) b _ t
    simpa using h2
theorem Cw.thereAt {w : World} {g : Nat} {cs : List Value} {t : TypeId} (h : Cw w g cs t) (o n : Nat) (hn : o + n ≤ cs.length) : w.there g o n := by
  intro j hj
  have := h.there (o + j) (by omega)
  rwa [Nat.zero_add] at this
theorem rangeC {W : World} {g : Nat} {s : Sp} (h : Cw W g (stV s) 44) : W.rangeAt g 1 (s.cells.map (Value.int .i32)) := by
  intro j u hu
  rw [h.cell, stV, show 1 + j = j + 1 by omega, List.getElem?_cons_succ, List.getElem?_append_left (List.getElem?_eq_some_iff.1 hu).1]
  exact hu
/-- What the document's Step makes of how the loop ends. -/
def WEnd (s : Sp) (R : Option Mp) (c : List Int) (sd won : Int) : Prop := (won = -1 ∧ ranS s R = ⟨s.frame, c, sd, false, 0⟩) ∨ (0 ≤ won ∧ ranS s R = ⟨s.frame, c, sd, true, won⟩)
theorem WEnd.of {s : Sp} {R : Option Mp} {q : Rm} (ho : s.over = false) (hw : s.win = 0) (h : q.bad = false ∧ ∃ m, R = some m ∧ q.cells = m.cells ∧ q.seed = m.seed ∧ q.won = wonI m.won ∧ ∀ a, m.won = some a → 0 ≤ a) : WEnd s R q.cells q.seed q.won := by
  obtain ⟨_, m, rfl, e1, e2, e3, e4⟩ := h
  obtain ⟨c, sd, st, pc, won⟩ := m
  simp only at e1 e2 e3 e4
  rw [e1, e2, e3]
  cases won with
  | none => exact Or.inl ⟨rfl, by simp [ranS, ho, hw]⟩
  | some a => exact Or.inr ⟨e4 a rfl, by simp [ranS, wonI]⟩
theorem setT17 {t : Sp} (h : t.cells.length = 16) (tl : List Value) (v : Int) : (rowT t tl).set 17 (.int .u32 v) = rowT { t with seed := v } tl := by
  obtain ⟨fr, cells, seed, over, win⟩ := t
  obtain ⟨c0, c1, c2, c3, c4, c5, c6, c7, c8, c9, c10, c11, c12, c13, c14, c15, e⟩ := sixteen h
  simp only at e
  subst e
  rfl
theorem getT17 {t : Sp} (h : t.cells.length = 16) (tl : List Value) : (rowT t tl)[17]? = some (.int .u32 t.seed) := by
  obtain ⟨fr, cells, seed, over, win⟩ := t
  obtain ⟨c0, c1, c2, c3, c4, c5, c6, c7, c8, c9, c10, c11, c12, c13, c14, c15, e⟩ := sixteen h
  simp only at e
  subst e
  rfl
theorem setTt {t : Sp} (h : t.cells.length = 16) (tl : List Value) (i : Nat) (v : Value) : (rowT t tl).set (20 + i) v = rowT t (tl.set i v) := by
  obtain ⟨fr, cells, seed, over, win⟩ := t
  obtain ⟨c0, c1, c2, c3, c4, c5, c6, c7, c8, c9, c10, c11, c12, c13, c14, c15, e⟩ := sixteen h
  simp only at e
  subst e
  rw [rowT, List.set_append_right _ _ (by simp [stV])]
  simp [stV, rowT]
theorem Tryz.size42 : (Tryz.prog.info? 42).map (·.size) = some 16 := by kernel_rfl
set_option maxRecDepth 20000 in
set_option maxHeartbeats 8000000 in
theorem rStep_go (cv : Value) (l : List Ii) (cap fuel : Int) (s : Sp) (i0 i1 : Int) (w : World) (hl : Ls w cv l) (hs : s.Wf) (hi0 : 0 ≤ i0 ∧ i0 < 65536) (hi1 : 0 ≤ i1 ∧ i1 < 65536) (hE : stepE l cap fuel s = 0) :
    Calls Tryz.prog 48 #[gameV cv cap fuel, .agg (stV s).toArray, .agg #[.int .u16 i0, .int .u16 i1]] w fun e w' => e = .returned (.tuple #[.agg (stV (stepS l cap fuel s i0 i1)).toArray, .int .i64 0]) ∧ Below w.heap.size w w' := by
  have hC := stV_c hs
  obtain ⟨ao, cp, rfl, hm⟩ := hl.len
  obtain ⟨os, hos⟩ : ∃ os, os = zeroS := ⟨_, rfl⟩
  have HZ : Hid ((Tryz.prog.info? 44).bind (·.zero) = some (.agg os.toArray)) := by rw [hos]; exact Tryz.zero44
  have HBz : Hid (Tryz.prog.built 44 [] = some os.toArray) := by rw [hos]; exact built28z
  have hol : os.length = 20 := by rw [hos]; rfl
  have HSo : Hid ((Tryz.prog.info? 44).map (·.size) = some os.length) := by rw [hol]; exact Tryz.size44
  have HOo : Hid (∀ v ∈ os, v.oneCell' = true) := by rw [hos]; exact hid_into (by decide)
  have HSz : Hid ((Tryz.prog.info? 44).map (·.size) = some (stV s).length) := by rw [hC.len]; exact Tryz.size44
  have CC : Hid (∀ W, Below w.heap.size w W → Calls Tryz.prog 6 #[.agg #[.slice ao l.length cp, .int .i64 cap, .int .i64 fuel]] W fun e w' => e = .returned (.int .i64 (chkG l cap fuel)) ∧ Below W.heap.size W w') := fun W hW => rChk_any _ l cap fuel W (hl.below hW)
  have CI : Hid (∀ W, Calls Tryz.prog 60 #[.agg (stV s).toArray] W fun e w' => e = .returned (.bool (isS s)) ∧ Below W.heap.size W w') := fun W => rIs_c (stV s) s hC W
  have HK : Hid ((stV s)[0]? = some (.int .i64 s.frame) ∧ (stV s)[17]? = some (.int .u32 s.seed) ∧ (stV s)[18]? = some (.bool s.over)) := ⟨hC.frame, hC.seed, hC.over⟩
  unfold gameV
  obtain ⟨hok, hcap1, hcap, hf1, hf2, hfr0, hfr1, hov, hwin, hsd⟩ := stepE_ok hE
  have hc0 : chkG l cap fuel = 0 := by
    unfold stepE at hE
    by_cases e : chkG l cap fuel = 0
    · exact e
    · rw [if_pos e] at hE; exact absurd hE e
  have his : isS s = true := by simp [isS, hwin]; omega
  rw [hc0] at CC
  rw [his] at CI
  rw [hov] at HK
  have hsd' : (s.seed == 0) = false := by simp [hsd]
  obtain ⟨f, rfl⟩ := Int.eq_ofNat_of_zero_le (show 0 ≤ fuel by omega)
  show Calls Tryz.prog 48 _ w fun e w' => e = .returned (.tuple #[.agg (stV (endS cap (ranS s (runI s.frame i0 i1 l (f : Int).toNat (startM s))))).toArray, .int .i64 0]) ∧ Below w.heap.size w w'
  rw [show (f : Int).toNat = f by simp]
  have HI3 : Hid (Ins3 s.frame i0 i1) := ⟨⟨hfr0, by omega⟩, hi0, hi1⟩
  have HBm := hid_into (built66 hs i0 i1)
  obtain ⟨ms, hms⟩ : ∃ ms, ms = (stV s) ++ [.int .u16 i0, .int .u16 i1, .slice none 0 0, .int .i64 0, .int .i64 (-1), .bool false] := ⟨_, rfl⟩
  rw [← hms] at HBm
  have HMw : Hid (∀ W M, Cw W M ms 120 → Rw W M s.frame i0 i1 [] ⟨s.cells, s.seed, ((0 : Nat) : Int), -1, false⟩ (.slice none 0 0)) := fun W M h => Rw.start hs hov hwin (by rw [hms] at h; exact h)
  obtain ⟨R, hR⟩ : ∃ R, R = runI s.frame i0 i1 l f (startM s) := ⟨_, rfl⟩
  rw [← hR]
  have HR := hid_into hR
  have HL : Hid (∀ W, Below w.heap.size w W → Ls W (.slice ao l.length cp) l) := fun W hW => hl.below hW
  have HLt : Hid (∀ k, l ≠ [] → (Value.slice ao l.length cp).ownBlock = some k → k < w.heap.size) := fun k hne e => hl.lt hne k e
  have HO := hid_into hok
  have hn := hok.len
  have HWf := hid_into hs
  have HOv := hid_into hov
  have HWi := hid_into hwin
  have HOl := hid_into hol
  have HSt : Hid (∀ t : Sp, t.Wf → StC (stV t) t) := fun t ht => stV_c ht
  have HN0 : Hid (∀ (t : Sp), t.Wf → Hid ((Tryz.prog.info? 44).map (·.size) = some (stV t).length)) := fun t ht => by rw [(stV_c ht).len]; exact Tryz.size44
  clear hos hol hC hl hs hm hE hc0 his hok hov hwin hms hR hi0 hi1
  obtain ⟨cs, hcs⟩ : ∃ cs, cs = stV s := ⟨_, rfl⟩
  rw [← hcs] at HSz CI HK HBm ⊢
  have HCs := hid_into hcs
  clear hcs
  obtain ⟨es, hes⟩ : ∃ es, es = stV (endS cap (ranS s R)) := ⟨_, rfl⟩
  rw [← hes]
  have HES := hid_into hes
  clear hes
  go_enter Tryz.func48, Tryz.ntmps48
  go_upto_block 0 with (go_big_may; first
    | (refine wpList_box_row rfl 44 (.tmp 1) rfl cs rfl ?_; intro W1 hc1 B1 HS1)
    | (refine wpList_alloc_row rfl 44 rfl os HZ.out ?_; intro W2 hr2 B2 HS2; have H4 := hid_into (St4.make hc1 B1 HS1.out hr2 B2); have g0 := H4.out.g.cell 0; have g1 := H4.out.g.cell 1; have g2 := H4.out.g.cell 2; simp only [List.getElem?_cons_zero, List.getElem?_cons_succ] at g0 g1 g2; clear hc1 B1 HS1 hr2 B2 HS2)
    | (go_at_call 6; refine (CC.out _ H4.out.below).mono ?_; rintro e w3 ⟨rfl, B3⟩; have H5 := hid_into (H4.out.next B3); clear H4 B3 g0 g1 g2)
    | (refine wpList_load_rw rfl 44 (.tmp 4) rfl (w.heap.size + 1) cs 44 _ rfl ?_ Tryz.underlying44 rfl HSz ?_; first | exact H5.out.s | exact H6.out.s)
    | (go_at_call 60; refine (CI.out _).mono ?_; rintro e w4 ⟨rfl, B4⟩; have H6 := hid_into (H5.out.next B4); have k0 := H6.out.g.cell 0; have k1 := H6.out.g.cell 1; have k2 := H6.out.g.cell 2; have j0 := H6.out.i.cell 0; have j1 := H6.out.i.cell 1; simp only [List.getElem?_cons_zero, List.getElem?_cons_succ] at k0 k1 k2 j0 j1; have s0 := (H6.out.s.cell 0).trans HK.out.1; have s17 := (H6.out.s.cell 17).trans HK.out.2.1; have s18 := (H6.out.s.cell 18).trans HK.out.2.2; clear H5 B4)
    | (refine wpList_build_row rfl 120 #[(0, .tmp 36), (1, .tmp 37), (4, .const (.int .i64 (-1)))] rfl ms _ rfl HBm.out ?_)
    | (refine wpList_box_row rfl 120 (.tmp 38) rfl ms rfl ?_; intro W7 hm7 B7 HS7; have hlt7 : Hid (W1.heap.size + 1 < w4.heap.size) := H6.out.r.lt; have H7 := hid_into (H6.out.next B7); have k2 := H7.out.g.cell 2; simp only [List.getElem?_cons_zero, List.getElem?_cons_succ] at k2; clear B7 HS7 k0 k1 j0 j1 s0 s17 s18 H6))
  have HM0 := hid_into (HMw.out _ _ hm7)
  have hM : Hid (W1.heap.size + 1 < w4.heap.size) := hlt7
  clear hm7 hlt7 HMw HBm CC CI HK HZ HBz k2
  generalize w4.heap.size = M at HM0 hM ⊢
  go_cut [] from 42 to 70 (fun wx => ∃ (zs : List Int) (q : Rm) (sv : Value), Hid (Rw wx M s.frame i0 i1 zs q sv) ∧ Hid (St4 w wx W1.heap.size (.slice ao l.length cp) cap (f : Int) cs i0 i1 os) ∧ Hid (REnd R q))
  case first =>
    go_wp2_with fail
    go_loopw [10] (fun i wr => ∃ (k j : Nat) (zs cells : List Int) (seed : Int) (sv : Value), k ≤ 2000 ∧ i = .int .i64 (k : Int) ∧ Hid (runI s.frame i0 i1 l k ⟨cells, seed, zs.reverse, j, none⟩ = R) ∧ Hid (Rw wr M s.frame i0 i1 zs ⟨cells, seed, (j : Int), -1, false⟩ sv) ∧ Hid (St4 w wr W1.heap.size (.slice ao l.length cp) cap (f : Int) cs i0 i1 os)) (fun i _ => (intOf i).toNat)
    case atStart => exact ⟨f, 0, [], s.cells, s.seed, _, by omega, rfl, HR.out.symm, HM0.out, H7.out⟩
    case round =>
      clear HM0 H7 HR
      obtain ⟨k, j, zs, cells, seed, sv, hk, rfl, HRun, HM, H7⟩ := hrel
      have c23 := HM.out.pc
      have c25 := HM.out.bad
      have f25 := HM.out.row.frozen 25
      have k0 := H7.out.g.cell 0
      simp only [List.getElem?_cons_zero] at c23 c25 k0
      by_cases hpc : j < l.length
      · obtain ⟨x, hx⟩ : ∃ x, l[j]? = some x := ⟨_, List.getElem?_eq_getElem hpc⟩
        cases k with
        | zero =>
          have HN : Hid (R = none) := HRun.out.symm.trans (runI_dry hpc)
          have HMb := hid_into (HM.out.setBad true)
          clear HRun hx
          go_wp2_with fail
          go_quiet (fail)
          go_wp2_with fail
          go_meet
          exact ⟨_, _, _, (HM.out.sm (Sm.drewN _ _)).setBad true, H7.out.ge (((Sm.drewN _ _).below M).trans ((Only.set _ _ _ _).below (Nat.le_refl _))) hM.out, Or.inr ⟨rfl, HN.out⟩⟩
        | succ k =>
          have HRun2 := hid_into ((runI_step k hx).symm.trans HRun.out)
          have HX := hid_into (HO.out.may x (List.mem_of_getElem? hx))
          obtain ⟨ga, off, hao, x0, x1⟩ := (HL.out _ H7.out.below).at (Below.refl wr.heap.size wr) (Nat.le_refl _) _ _ hx
          subst hao
          obtain ⟨o, a⟩ := x
          simp only at x0 x1
          clear HRun hx f25 c25
          go_wp2_with fail
          go_quiet (fail)
          go_wp2_with fail
          have hs : Sm wr (wr.drewN nq) := Sm.drewN _ _
          generalize wr.drewN nq = W at hs ⊢
          have HM2 := hid_into (HM.out.sm hs)
          have H8 := hid_into (H7.out.ge (hs.below M) hM.out)
          have y0 : W.cell? ⟨ga, off + j * 2, none⟩ = some (.int .i64 o) := by rw [World.cell?_of_block (w := wr) (by rw [hs.heap])]; exact x0
          have y1 : W.cell? ⟨ga, off + j * 2 + 1, none⟩ = some (.int .i64 a) := by rw [World.cell?_of_block (w := wr) (by rw [hs.heap])]; exact x1
          have d23 := HM2.out.pc
          have d0 := H8.out.g.cell 0
          simp only [List.getElem?_cons_zero] at d23 d0
          have HD := does_any (o, a) l.length j HX.out hn hpc HI3.out (HM2.out.sm (w' := W.drew) ⟨rfl, rfl, rfl, rfl⟩)
          unfold DoesC at HD
          simp only at HD
          clear x0 x1 c23 k0 HM H7 hs
          go_region_with (go_at_call 61; refine HD.mono ?_; rintro e w5 hQ; obtain ⟨r, zs', q', sv', rfl, hR5, hB5, hP5⟩ := hQ; have HR5 := hid_into hR5; have HB5 := hid_into hB5; have HP5 := hid_into hP5; clear hR5 hB5 hP5 HD)
          all_goals
            simp only [List.getElem_toArray, List.getElem_cons_succ, List.getElem_cons_zero, Act.put, List.setIfInBounds_toArray, List.set_cons_zero, List.set_cons_succ]
            have H9 := hid_into (H8.out.ge (((Below.refl M W).drew).trans HB5.out) hM.out)
            cases r with
            | true =>
              go_wp2_with fail
              go_roundw
              case rel =>
                have hR := HRun2.out
                rcases HP5.out with ⟨m', e1, e2, e3, e4, e5, e6, e7, e8⟩ | ⟨_, _, e⟩
                · have e8' := e8 rfl
                  rw [e1] at hR
                  obtain ⟨qc, qs, qp, qw, qb⟩ := q'
                  obtain ⟨mc, msd, mst, mpc, mwon⟩ := m'
                  simp only at e2 e3 e4 e5 e6 e8'
                  obtain ⟨e9, rfl⟩ := e8'
                  subst e2 e3 e4 e9 e6
                  refine ⟨k, mpc, zs', qc, qs, sv', by omega, by go_num, ?_, HR5.out, H9.out⟩
                  rw [e5, List.reverse_reverse]
                  exact hR
                · cases e
              case measure => simp [intOf]
            | false =>
              go_wp2_with fail
              go_meet
              refine ⟨zs', q', sv', HR5.out, H9.out, ?_⟩
              have hR := HRun2.out
              rcases HP5.out with ⟨m', e1, e2, e3, e4, e5, e6, e7, _⟩ | ⟨e1, e2, _⟩
              · rw [e1] at hR
                have hge : l.length ≤ m'.pc := by have := of_decide_eq_false e7.symm; omega
                have hR2 : R = some m' := hR.symm.trans (runI_end k hge)
                exact Or.inl ⟨e2, m', hR2, e3, e4, e6, doI_won e1 rfl HX.out⟩
              · rw [e1] at hR
                exact Or.inr ⟨e2, hR.symm⟩
      · have HN : Hid (R = some _) := HRun.out.symm.trans (runI_end k (by show l.length ≤ j; omega))
        clear HRun
        go_wp2_with fail
        go_quiet (fail)
        go_wp2_with fail
        go_meet
        exact ⟨_, _, _, HM.out.sm (Sm.drewN _ _), H7.out.ge ((Sm.drewN _ _).below M) hM.out, Or.inl ⟨rfl, _, HN.out, rfl, rfl, rfl, fun a ha => by cases ha⟩⟩
  case rest =>
    obtain ⟨zs, q, sv, HM, H7, HE⟩ := hcut
    clear HM0 HR HL HLt HO hn HI3
    obtain ⟨qc, qsd, qpc, qwon, qbad⟩ := q
    have c25 := HM.out.bad
    simp only at c25
    go_upto_if 74 with fail
    go_cut [] from 75 (fun wx => ∃ (c : List Int) (sd won pc : Int) (sv bv : Value), Hid (Cw wx M (rowT ⟨s.frame, c, sd, false, 0⟩ [.int .u16 i0, .int .u16 i1, sv, .int .i64 pc, .int .i64 won, bv]) 120) ∧ Hid (St4 w wx W1.heap.size (.slice ao l.length cp) cap (f : Int) cs i0 i1 os) ∧ Hid ((⟨s.frame, c, sd, false, 0⟩ : Sp).Wf) ∧ Hid (WEnd s R c sd won))
    case first =>
      rcases HE.out with hok | ⟨hb, hR⟩
      · have HWE := hid_into (WEnd.of HOv.out HWi.out hok)
        have hb := hok.1
        simp only at hb
        subst hb
        clear hok HE
        go_wp2_with fail
        go_meet
        exact ⟨qc, qsd, qwon, qpc, sv, .bool false, by have h := HM.out.row; rw [rowD_T] at h; exact h, H7.out, ⟨HM.out.wf.cells, HM.out.wf.cin, HM.out.wf.seed⟩, HWE.out⟩
      · simp only at hb
        subst hb
        have HWE : Hid (WEnd s R s.cells s.seed (-1)) := by
          rw [hR]
          have h1 := HOv.out
          have h2 := HWi.out
          refine hid_into (Or.inl ⟨rfl, ?_⟩)
          obtain ⟨fr, cells, seed, over, win⟩ := s
          simp only at h1 h2
          subst h1 h2
          rfl
        clear HE hR
        obtain ⟨ds, hds⟩ : ∃ ds, ds = s.cells.map (Value.int .i32) := ⟨_, rfl⟩
        have hdl : ds.length = 16 := by rw [hds, List.length_map]; exact HWf.out.cells
        have hsM : w.heap.size + 1 < M := by have := H7.out.hb; have := hM.out; omega
        have R0 : wc.rangeAt (w.heap.size + 1) 1 ds := by rw [hds]; exact rangeC (by have h := H7.out.s; rw [HCs.out] at h; exact h)
        have C17 : wc.cell? ⟨w.heap.size + 1, 17, none⟩ = some (.int .u32 s.seed) := by have h := H7.out.s.cell 17; rw [HCs.out] at h; exact h.trans (HSt.out s HWf.out).seed
        have hqc : qc.length = 16 := HM.out.wf.cells
        have HRow : Cw wc.drew M (rowT ⟨s.frame, qc, qsd, false, 0⟩ [.int .u16 i0, .int .u16 i1, sv, .int .i64 qpc, .int .i64 qwon, .bool true]) 120 := by have h := HM.out.row; rw [rowD_T] at h; exact h
        have HD1 : Cw (wc.drew.setCells M 1 ds) M (rowT ⟨s.frame, s.cells, qsd, false, 0⟩ [.int .u16 i0, .int .u16 i1, sv, .int .i64 qpc, .int .i64 qwon, .bool true]) 120 := by
          have h : Cw wc.drew M ([.int .i64 s.frame] ++ qc.map (Value.int .i32) ++ ([.int .u32 qsd, .bool false, .int .i64 0] ++ [.int .u16 i0, .int .u16 i1, sv, .int .i64 qpc, .int .i64 qwon, .bool true])) 120 := by
            have h := HRow
            simp only [rowT, stV, List.append_assoc, List.cons_append, List.nil_append] at h ⊢
            exact h
          have h2 := setCells_mid M 120 _ ds [.int .i64 s.frame] _ wc.drew h (by rw [List.length_map, hqc, hdl])
          simp only [rowT, stV, List.append_assoc, List.cons_append, List.nil_append, ← hds] at h2 ⊢
          exact h2
        have HD2 : Cw ((wc.drew.setCells M 1 ds).setCell ⟨M, 17, none⟩ (.int .u32 s.seed)) M (rowT ⟨s.frame, s.cells, s.seed, false, 0⟩ [.int .u16 i0, .int .u16 i1, sv, .int .i64 qpc, .int .i64 qwon, .bool true]) 120 := by
          have h := HD1.set 17 (.int .u32 s.seed)
          rw [setT17 (t := ⟨s.frame, s.cells, qsd, false, 0⟩) HWf.out.cells] at h
          exact h
        have HD3 : Cw (((wc.drew.setCells M 1 ds).setCell ⟨M, 17, none⟩ (.int .u32 s.seed)).setCell ⟨M, 24, none⟩ (.int .i64 (-1))) M (rowT ⟨s.frame, s.cells, s.seed, false, 0⟩ [.int .u16 i0, .int .u16 i1, sv, .int .i64 qpc, .int .i64 (-1), .bool true]) 120 := by
          have h := HD2.set 24 (.int .i64 (-1))
          rw [show (24 : Nat) = 20 + 4 from rfl, setTt (t := ⟨s.frame, s.cells, s.seed, false, 0⟩) HWf.out.cells] at h
          exact h
        have HSb : ∀ V, Below M wc V → V.there M 1 16 → V.rangeAt (w.heap.size + 1) 1 ds ∧ V.cell? ⟨w.heap.size + 1, 17, none⟩ = some (.int .u32 s.seed) ∧ V.there M 1 16 := fun V hV ht => ⟨fun j v hv => (hV.cell (p := ⟨w.heap.size + 1, 1 + j, none⟩) hsM).trans (R0 j v hv), (hV.cell (p := ⟨w.heap.size + 1, 17, none⟩) hsM).trans C17, ht⟩
        have O1 : Only M wc (wc.drew.setCells M 1 ds) := ⟨(setCells_rest M ds 1 wc.drew).1, (setCells_rest M ds 1 wc.drew).2.1, (setCells_rest M ds 1 wc.drew).2.2.1, (setCells_rest M ds 1 wc.drew).2.2.2, fun k hk => setCells_other M k hk _ _ _⟩
        have B2 : Below M wc (wc.drew.setCells M 1 ds) := O1.below (Nat.le_refl M)
        have B3 : Below M wc ((wc.drew.setCells M 1 ds).setCell ⟨M, 17, none⟩ (.int .u32 s.seed)) := B2.trans ((Only.set _ _ _ _).below (Nat.le_refl M))
        have B4 : Below M wc (((wc.drew.setCells M 1 ds).setCell ⟨M, 17, none⟩ (.int .u32 s.seed)).setCell ⟨M, 24, none⟩ (.int .i64 (-1))) := B3.trans ((Only.set _ _ _ _).below (Nat.le_refl M))
        have S1 := HSb wc.drew ((Below.refl M wc).drew) (HRow.thereAt 1 16 (by simp [rowT, stV, hqc]))
        have S2 := HSb _ B2 (HD1.thereAt 1 16 (by simp [rowT, stV, HWf.out.cells]))
        have S3 := HSb _ B3 (HD2.thereAt 1 16 (by simp [rowT, stV, HWf.out.cells]))
        have S4 := HSb _ B4 (HD3.thereAt 1 16 (by simp [rowT, stV, HWf.out.cells]))
        have m17 := (HD1.cell 17).trans (getT17 (t := ⟨s.frame, s.cells, qsd, false, 0⟩) HWf.out.cells _)
        have m24 := (HD2.cell 24).trans ((getT (t := ⟨s.frame, s.cells, s.seed, false, 0⟩) HWf.out.cells [.int .u16 i0, .int .u16 i1, sv, .int .i64 qpc, .int .i64 qwon, .bool true]).2.2.2.2.2 4)
        simp only [List.getElem?_cons_zero, List.getElem?_cons_succ] at m17 m24
        have fz17 := HD1.frozen 17
        have fz24 := HD2.frozen 24
        have hu25 := Tryz.underlying42
        have hi25 : (Tryz.prog.info? 42).map (·.size) = some ds.length := by rw [hdl]; exact Tryz.size42
        have hod : ∀ v ∈ ds, v.oneCell' = true := by rw [hds]; intro v hv; simp only [List.mem_map] at hv; obtain ⟨x, _, rfl⟩ := hv; rfl
        have H8 := hid_into (H7.out.ge B4 hM.out)
        have HF := hid_into HD3
        clear R0 C17 O1 HRow hds HSb B2 B3 B4 HD1 HD2 HD3 H7 HM HSt HN0 hqc
        go_wp2_with fail
        go_region_held3 (fun V => V.rangeAt (w.heap.size + 1) 1 ds ∧ V.cell? ⟨w.heap.size + 1, 17, none⟩ = some (.int .u32 s.seed) ∧ V.there M 1 16) (first | exact S1 | exact S2 | exact S3 | exact S4) (fail)
        go_wp2_with fail
        go_meet
        exact ⟨s.cells, s.seed, -1, qpc, sv, .bool true, HF.out, H8.out, ⟨HWf.out.cells, HWf.out.cin, HWf.out.seed⟩, HWE.out⟩
    case rest =>
      obtain ⟨c, sd, won, pc, sv, bv, HT, H8, HWc, HW⟩ := hcut
      have hc16 := HWc.out.cells
      simp only at hc16
      have c0 : wc.cell? ⟨M, 0, none⟩ = some (.int .i64 s.frame) := (HT.out.cell 0).trans rfl
      have f0 := HT.out.frozen 0
      go_upto_region 18 with fail
      have HT2 : Hid (Cw (wc.setCell ⟨M, 0, none⟩ (.int .i64 (s.frame + 1))) M (rowT ⟨s.frame + 1, c, sd, false, 0⟩ [.int .u16 i0, .int .u16 i1, sv, .int .i64 pc, .int .i64 won, bv]) 120) := hid_into (HT.out.set 0 _)
      have H9 := hid_into (H8.out.ge ((Only.set M 0 wc (.int .i64 (s.frame + 1))).below (Nat.le_refl M)) hM.out)
      clear c0 f0 HT H8
      generalize wc.setCell ⟨M, 0, none⟩ (.int .i64 (s.frame + 1)) = V at HT2 H9 ⊢
      obtain ⟨t0, t1, t2, t18, t19, tt⟩ := getT (t := ⟨s.frame + 1, c, sd, false, 0⟩) hc16 [.int .u16 i0, .int .u16 i1, sv, .int .i64 pc, .int .i64 won, bv]
      have c24 := (HT2.out.cell 24).trans (tt 4)
      simp only [List.getElem?_cons_zero, List.getElem?_cons_succ] at c24
      rcases HW.out with ⟨rfl, hrs⟩ | ⟨hwn, hrs⟩
      · by_cases hcp : s.frame + 1 = cap
        · have hcp' : (s.frame + 1 == cap) = true := by simp [hcp]
          have c0 := (HT2.out.cell 0).trans t0
          have c18 := (HT2.out.cell 18).trans t18
          have f18 := HT2.out.frozen 18
          have k1 := H9.out.g.cell 1
          simp only [List.getElem?_cons_zero, List.getElem?_cons_succ] at k1 c0 c18
          clear t0 t1 t2 t18 t19 tt
          go_wp2_with fail
          go_quiet (fail)
          have hs : Sm V (V.drewN nq) := Sm.drewN _ _
          generalize V.drewN nq = V2 at hs ⊢
          have HT3 := hid_into (hs.cw HT2.out)
          have H10 := hid_into (H9.out.ge (hs.below M) hM.out)
          clear hs
          have d18 := (HT3.out.cell 18).trans (getT (t := ⟨s.frame + 1, c, sd, false, 0⟩) hc16 [.int .u16 i0, .int .u16 i1, sv, .int .i64 pc, .int .i64 (-1), bv]).2.2.2.1
          have e18 := HT3.out.frozen 18
          simp only at d18
          go_wp2_with fail
          have HT4 : Hid (Cw (V2.setCell ⟨M, 18, none⟩ (.bool true)) M (rowT ⟨s.frame + 1, c, sd, true, 0⟩ [.int .u16 i0, .int .u16 i1, sv, .int .i64 pc, .int .i64 (-1), bv]) 120) := by
            have h := HT3.out.set 18 (.bool true)
            rw [setT18 hc16] at h
            exact hid_into h
          have H11 := hid_into (H10.out.ge ((Only.set M 18 V2 (.bool true)).below (Nat.le_refl M)) hM.out)
          generalize V2.setCell ⟨M, 18, none⟩ (.bool true) = V3 at HT4 H11 ⊢
          obtain ⟨t0, t1, t2, t18, t19, tt⟩ := getT (t := ⟨s.frame + 1, c, sd, true, 0⟩) hc16 [.int .u16 i0, .int .u16 i1, sv, .int .i64 pc, .int .i64 (-1), bv]
          have d1 := (HT4.out.cell 1).trans t1
          have d2 := (HT4.out.cell 2).trans t2
          simp only at d1 d2
          clear t0 t1 t2 t18 t19 tt c24 c0 c18 f18 k1 d18 e18
          obtain ⟨a0, ha0⟩ : ∃ a0, a0 = c.getD 0 0 := ⟨_, rfl⟩
          obtain ⟨a1, ha1⟩ : ∃ a1, a1 = c.getD 1 0 := ⟨_, rfl⟩
          rw [← ha0] at d1
          rw [← ha1] at d2
          have HA0 := hid_into ha0
          have HA1 := hid_into ha1
          clear ha0 ha1
          by_cases hab : a0 = a1
          · have hab' : (a0 == a1) = true := by simp [hab]
            have hes := HES.out
            rw [hrs] at hes
            have hfe : endS cap ⟨s.frame, c, sd, false, 0⟩ = ⟨s.frame + 1, c, sd, true, 2⟩ := by
              unfold endS
              rw [if_pos ⟨hcp, rfl⟩]
              show (⟨s.frame + 1, c, sd, true, moreI (c.getD 0 0) (c.getD 1 0)⟩ : Sp) = _
              rw [show moreI (c.getD 0 0) (c.getD 1 0) = 2 by rw [← HA0.out, ← HA1.out]; unfold moreI; rw [if_pos hab]]
            rw [hfe] at hes
            go_quiet (fail)
            have hs : Sm V3 (V3.drewN nq) := Sm.drewN _ _
            generalize V3.drewN nq = V4 at hs ⊢
            have HT5 := hid_into (hs.cw HT4.out)
            have H12 := hid_into (H11.out.ge (hs.below M) hM.out)
            clear hs
            have d19 := (HT5.out.cell 19).trans (getT (t := ⟨s.frame + 1, c, sd, true, 0⟩) hc16 [.int .u16 i0, .int .u16 i1, sv, .int .i64 pc, .int .i64 (-1), bv]).2.2.2.2.1
            have e19 := HT5.out.frozen 19
            simp only at d19
            go_upto_region 27 with fail
            have HT6 : Hid (Cw (V4.setCell ⟨M, 19, none⟩ (.int .i64 2)) M (rowT ⟨s.frame + 1, c, sd, true, 2⟩ [.int .u16 i0, .int .u16 i1, sv, .int .i64 pc, .int .i64 (-1), bv]) 120) := by
              have h := HT5.out.set 19 (.int .i64 2)
              rw [setT19 hc16] at h
              exact hid_into h
            have H13 := hid_into (H12.out.ge ((Only.set M 19 V4 (.int .i64 2)).below (Nat.le_refl M)) hM.out)
            generalize V4.setCell ⟨M, 19, none⟩ (.int .i64 2) = V5 at HT6 H13 ⊢
            have hdw : (⟨s.frame + 1, c, sd, true, 2⟩ : Sp).Wf := ⟨HWc.out.cells, HWc.out.cin, HWc.out.seed⟩
            have HN2 : Hid ((Tryz.prog.info? 44).map (·.size) = some es.length) := by rw [hes]; exact HN0.out _ hdw
            have HD2 : Hid (∀ v ∈ es, v.oneCell' = true) := by rw [hes]; exact hid_into (HSt.out _ hdw).one
            have HL2 : Hid (os.length = es.length) := by show _ = _; rw [hes, HOl.out, (HSt.out _ hdw).len]
            have Hq : Hid (V5.rangeAt M 0 es) := by rw [hes]; exact hid_into (rangeT HT6.out)
            have H10 := H13
            clear hes hdw HT6
            go_wp2_with (first
              | (refine wpList_load_mid rfl 44 (.tmp 170) rfl M 0 rfl es _ ?_ Tryz.underlying44 rfl HN2.out ?_; exact Hq.out)
              | (refine wpList_store_rw rfl 44 (.tmp 6) (.tmp 171) rfl (W1.heap.size + 1) os es 44 rfl rfl ?_ HSo HL2 HD2.out ?_; exact H10.out.r; intro W10 hr10 O10))
            exact ret_row2 rfl rfl rfl hr10 Tryz.underlying44 rfl HN2 ⟨rfl, H10.out.below.trans (O10.below (by have := H10.out.hb; omega))⟩
          · have hab' : (a0 == a1) = false := by simp [hab]
            by_cases hlt : a0 < a1
            · skip
              have hes := HES.out
              rw [hrs] at hes
              have hfe : endS cap ⟨s.frame, c, sd, false, 0⟩ = ⟨s.frame + 1, c, sd, true, 1⟩ := by
                unfold endS
                rw [if_pos ⟨hcp, rfl⟩]
                show (⟨s.frame + 1, c, sd, true, moreI (c.getD 0 0) (c.getD 1 0)⟩ : Sp) = _
                rw [show moreI (c.getD 0 0) (c.getD 1 0) = 1 by rw [← HA0.out, ← HA1.out]; unfold moreI; rw [if_neg hab, if_pos hlt]]
              rw [hfe] at hes
              go_quiet (fail)
              have hs : Sm V3 (V3.drewN nq) := Sm.drewN _ _
              generalize V3.drewN nq = V4 at hs ⊢
              have HT5 := hid_into (hs.cw HT4.out)
              have H12 := hid_into (H11.out.ge (hs.below M) hM.out)
              clear hs
              have x1 := (HT5.out.cell 1).trans (getT (t := ⟨s.frame + 1, c, sd, true, 0⟩) hc16 [.int .u16 i0, .int .u16 i1, sv, .int .i64 pc, .int .i64 (-1), bv]).2.1
              have x2 := (HT5.out.cell 2).trans (getT (t := ⟨s.frame + 1, c, sd, true, 0⟩) hc16 [.int .u16 i0, .int .u16 i1, sv, .int .i64 pc, .int .i64 (-1), bv]).2.2.1
              simp only at x1 x2
              rw [← HA0.out] at x1
              rw [← HA1.out] at x2
              go_wp2_with fail
              go_quiet (fail)
              have hs : Sm V4 (V4.drewN nq) := Sm.drewN _ _
              generalize V4.drewN nq = V6 at hs ⊢
              have HT7 := hid_into (hs.cw HT5.out)
              have H14 := hid_into (H12.out.ge (hs.below M) hM.out)
              clear hs
              have d19 := (HT7.out.cell 19).trans (getT (t := ⟨s.frame + 1, c, sd, true, 0⟩) hc16 [.int .u16 i0, .int .u16 i1, sv, .int .i64 pc, .int .i64 (-1), bv]).2.2.2.2.1
              have e19 := HT7.out.frozen 19
              simp only at d19
              go_upto_region 27 with fail
              have HT6 : Hid (Cw (V6.setCell ⟨M, 19, none⟩ (.int .i64 1)) M (rowT ⟨s.frame + 1, c, sd, true, 1⟩ [.int .u16 i0, .int .u16 i1, sv, .int .i64 pc, .int .i64 (-1), bv]) 120) := by
                have h := HT7.out.set 19 (.int .i64 1)
                rw [setT19 hc16] at h
                exact hid_into h
              have H13 := hid_into (H14.out.ge ((Only.set M 19 V6 (.int .i64 1)).below (Nat.le_refl M)) hM.out)
              generalize V6.setCell ⟨M, 19, none⟩ (.int .i64 1) = V5 at HT6 H13 ⊢
              have hdw : (⟨s.frame + 1, c, sd, true, 1⟩ : Sp).Wf := ⟨HWc.out.cells, HWc.out.cin, HWc.out.seed⟩
              have HN2 : Hid ((Tryz.prog.info? 44).map (·.size) = some es.length) := by rw [hes]; exact HN0.out _ hdw
              have HD2 : Hid (∀ v ∈ es, v.oneCell' = true) := by rw [hes]; exact hid_into (HSt.out _ hdw).one
              have HL2 : Hid (os.length = es.length) := by show _ = _; rw [hes, HOl.out, (HSt.out _ hdw).len]
              have Hq : Hid (V5.rangeAt M 0 es) := by rw [hes]; exact hid_into (rangeT HT6.out)
              have H10 := H13
              clear hes hdw HT6
              go_wp2_with (first
                | (refine wpList_load_mid rfl 44 (.tmp 170) rfl M 0 rfl es _ ?_ Tryz.underlying44 rfl HN2.out ?_; exact Hq.out)
                | (refine wpList_store_rw rfl 44 (.tmp 6) (.tmp 171) rfl (W1.heap.size + 1) os es 44 rfl rfl ?_ HSo HL2 HD2.out ?_; exact H10.out.r; intro W10 hr10 O10))
              exact ret_row2 rfl rfl rfl hr10 Tryz.underlying44 rfl HN2 ⟨rfl, H10.out.below.trans (O10.below (by have := H10.out.hb; omega))⟩
            · skip
              have hes := HES.out
              rw [hrs] at hes
              have hfe : endS cap ⟨s.frame, c, sd, false, 0⟩ = ⟨s.frame + 1, c, sd, true, 0⟩ := by
                unfold endS
                rw [if_pos ⟨hcp, rfl⟩]
                show (⟨s.frame + 1, c, sd, true, moreI (c.getD 0 0) (c.getD 1 0)⟩ : Sp) = _
                rw [show moreI (c.getD 0 0) (c.getD 1 0) = 0 by rw [← HA0.out, ← HA1.out]; unfold moreI; rw [if_neg hab, if_neg hlt]]
              rw [hfe] at hes
              go_quiet (fail)
              have hs : Sm V3 (V3.drewN nq) := Sm.drewN _ _
              generalize V3.drewN nq = V4 at hs ⊢
              have HT5 := hid_into (hs.cw HT4.out)
              have H12 := hid_into (H11.out.ge (hs.below M) hM.out)
              clear hs
              have x1 := (HT5.out.cell 1).trans (getT (t := ⟨s.frame + 1, c, sd, true, 0⟩) hc16 [.int .u16 i0, .int .u16 i1, sv, .int .i64 pc, .int .i64 (-1), bv]).2.1
              have x2 := (HT5.out.cell 2).trans (getT (t := ⟨s.frame + 1, c, sd, true, 0⟩) hc16 [.int .u16 i0, .int .u16 i1, sv, .int .i64 pc, .int .i64 (-1), bv]).2.2.1
              simp only at x1 x2
              rw [← HA0.out] at x1
              rw [← HA1.out] at x2
              go_wp2_with fail
              go_quiet (fail)
              have hs : Sm V4 (V4.drewN nq) := Sm.drewN _ _
              generalize V4.drewN nq = V6 at hs ⊢
              have HT7 := hid_into (hs.cw HT5.out)
              have H14 := hid_into (H12.out.ge (hs.below M) hM.out)
              clear hs
              have hdw : (⟨s.frame + 1, c, sd, true, 0⟩ : Sp).Wf := ⟨HWc.out.cells, HWc.out.cin, HWc.out.seed⟩
              have HN2 : Hid ((Tryz.prog.info? 44).map (·.size) = some es.length) := by rw [hes]; exact HN0.out _ hdw
              have HD2 : Hid (∀ v ∈ es, v.oneCell' = true) := by rw [hes]; exact hid_into (HSt.out _ hdw).one
              have HL2 : Hid (os.length = es.length) := by show _ = _; rw [hes, HOl.out, (HSt.out _ hdw).len]
              have Hq : Hid (V6.rangeAt M 0 es) := by rw [hes]; exact hid_into (rangeT HT7.out)
              have H10 := H14
              clear hes hdw HT7
              go_wp2_with (first
                | (refine wpList_load_mid rfl 44 (.tmp 170) rfl M 0 rfl es _ ?_ Tryz.underlying44 rfl HN2.out ?_; exact Hq.out)
                | (refine wpList_store_rw rfl 44 (.tmp 6) (.tmp 171) rfl (W1.heap.size + 1) os es 44 rfl rfl ?_ HSo HL2 HD2.out ?_; exact H10.out.r; intro W10 hr10 O10))
              exact ret_row2 rfl rfl rfl hr10 Tryz.underlying44 rfl HN2 ⟨rfl, H10.out.below.trans (O10.below (by have := H10.out.hb; omega))⟩
        · have hcp' : (s.frame + 1 == cap) = false := by simp [hcp]
          have hes := HES.out
          rw [hrs] at hes
          have hfe : endS cap ⟨s.frame, c, sd, false, 0⟩ = ⟨s.frame + 1, c, sd, false, 0⟩ := if_neg (fun e => hcp e.1)
          rw [hfe] at hes
          have hdw : (⟨s.frame + 1, c, sd, false, 0⟩ : Sp).Wf := ⟨HWc.out.cells, HWc.out.cin, HWc.out.seed⟩
          have HN2 : Hid ((Tryz.prog.info? 44).map (·.size) = some es.length) := by rw [hes]; exact HN0.out _ hdw
          have HD2 : Hid (∀ v ∈ es, v.oneCell' = true) := by rw [hes]; exact hid_into (HSt.out _ hdw).one
          have HL2 : Hid (os.length = es.length) := by show _ = _; rw [hes, HOl.out, (HSt.out _ hdw).len]
          have c0 := (HT2.out.cell 0).trans t0
          have k1 := H9.out.g.cell 1
          simp only [List.getElem?_cons_zero, List.getElem?_cons_succ] at k1 c0
          clear t0 t1 t2 t18 t19 tt
          go_wp2_with fail
          go_quiet (fail)
          have H10 := hid_into (H9.out.ge ((Sm.drewN V nq).below M) hM.out)
          have Hq : Hid ((V.drewN nq).rangeAt M 0 es) := by rw [hes]; exact hid_into (rangeT ((Sm.drewN V nq).cw HT2.out))
          go_wp2_with (first
            | (refine wpList_load_mid rfl 44 (.tmp 170) rfl M 0 rfl es _ ?_ Tryz.underlying44 rfl HN2.out ?_; exact Hq.out)
            | (refine wpList_store_rw rfl 44 (.tmp 6) (.tmp 171) rfl (W1.heap.size + 1) os es 44 rfl rfl ?_ HSo HL2 HD2.out ?_; exact H10.out.r; intro W10 hr10 O10))
          exact ret_row2 rfl rfl rfl hr10 Tryz.underlying44 rfl HN2 ⟨rfl, H10.out.below.trans (O10.below (by have := H10.out.hb; omega))⟩
      · have f18 := HT2.out.frozen 18
        have f19 := HT2.out.frozen 19
        have c18 := (HT2.out.cell 18).trans t18
        have c19 := (HT2.out.cell 19).trans t19
        simp only at c18 c19
        have hes := HES.out
        rw [hrs] at hes
        have hfe : endS cap ⟨s.frame, c, sd, true, won⟩ = ⟨s.frame + 1, c, sd, true, won⟩ := if_neg (fun e => by cases e.2)
        rw [hfe] at hes
        have hdw : (⟨s.frame + 1, c, sd, true, won⟩ : Sp).Wf := ⟨HWc.out.cells, HWc.out.cin, HWc.out.seed⟩
        have HN2 : Hid ((Tryz.prog.info? 44).map (·.size) = some es.length) := by rw [hes]; exact HN0.out _ hdw
        have HD2 : Hid (∀ v ∈ es, v.oneCell' = true) := by rw [hes]; exact hid_into (HSt.out _ hdw).one
        have HL2 : Hid (os.length = es.length) := by show _ = _; rw [hes, HOl.out, (HSt.out _ hdw).len]
        have HT3 : Hid (Cw ((V.setCell ⟨M, 18, none⟩ (.bool true)).setCell ⟨M, 19, none⟩ (.int .i64 won)) M (rowT ⟨s.frame + 1, c, sd, true, won⟩ [.int .u16 i0, .int .u16 i1, sv, .int .i64 pc, .int .i64 won, bv]) 120) := by
          have h1 := HT2.out.set 18 (.bool true)
          rw [setT18 hc16] at h1
          have h2 := h1.set 19 (.int .i64 won)
          rw [setT19 hc16] at h2
          exact hid_into h2
        have H10 := hid_into ((H9.out.ge ((Only.set M 18 V (.bool true)).below (Nat.le_refl M)) hM.out).ge ((Only.set M 19 _ (.int .i64 won)).below (Nat.le_refl M)) hM.out)
        have Hq : Hid (((V.setCell ⟨M, 18, none⟩ (.bool true)).setCell ⟨M, 19, none⟩ (.int .i64 won)).rangeAt M 0 es) := by rw [hes]; exact hid_into (rangeT HT3.out)
        clear t0 t1 t2 t18 t19 tt HT3
        go_wp2_with (first
          | (refine wpList_load_mid rfl 44 (.tmp 118) rfl M 0 rfl es _ ?_ Tryz.underlying44 rfl HN2.out ?_; exact Hq.out)
          | (refine wpList_store_rw rfl 44 (.tmp 6) (.tmp 119) rfl (W1.heap.size + 1) os es 44 rfl rfl ?_ HSo HL2 HD2.out ?_; exact H10.out.r; intro W10 hr10 O10))
        exact ret_row2 rfl rfl rfl hr10 Tryz.underlying44 rfl HN2 ⟨rfl, H10.out.below.trans (O10.below (by have := H10.out.hb; omega))⟩
/-- The document's Step, whatever it is asked. -/
theorem rStep_any (cv : Value) (l : List Ii) (cap fuel : Int) (s : Sp) (i0 i1 : Int) (w : World) (hl : Ls w cv l) (hs : s.Wf) (hi0 : 0 ≤ i0 ∧ i0 < 65536) (hi1 : 0 ≤ i1 ∧ i1 < 65536) :
    Calls Tryz.prog 48 #[gameV cv cap fuel, .agg (stV s).toArray, .agg #[.int .u16 i0, .int .u16 i1]] w fun e w' => e = .returned (.tuple #[.agg (stV (stepF l cap fuel s i0 i1).1).toArray, .int .i64 (stepF l cap fuel s i0 i1).2]) ∧ Below w.heap.size w w' := by
  by_cases hE : stepE l cap fuel s = 0
  · rw [show stepF l cap fuel s i0 i1 = (stepS l cap fuel s i0 i1, 0) from if_pos hE]
    exact rStep_go cv l cap fuel s i0 i1 w hl hs hi0 hi1 hE
  · exact rStep_no cv l cap fuel s i0 i1 w hl hs hE
end Go.Proofs.YtbfldcieibdapabGreat
end
