/-
  Joined from: RfRem, RfNew.
-/
import Derived.Test.YtbfldcieibdapaaGreatM37
section
/-
  The document's Remote, whole.
-/
namespace Go.Proofs.YtbfldcieibdapaaGreat
open Go.RowKit
section
variable {w w' : World} {lo hi : Nat} {Y : Yx} {G : Gm} {s t : Sa}
theorem rputH (h : Rx w lo hi Y G s) (k : Nat) (x : Int) : Calls Tryz.prog 39 #[.pointer (some ⟨Y.qb, 0, none⟩), .int .i64 (1 - s.me), .int .i64 (k : Int), .int .u16 x] w fun e w' => e = .returned (.int .i64 (In.putE s.h (k : Int) x)) ∧ Ry w' lo hi Y G s (if In.putE s.h (k : Int) x = 0 then s.hear k x else s) ∧ Grows (In2 lo hi) w w' := by
  have g := In.rput_anyR h.q (1 - s.me) (k : Int) x
  rw [(sel_me h.ok.fit.me).2] at g
  refine g.mono ?_
  rintro e w' ⟨rfl, hp⟩
  have hq := hp.q
  by_cases he : In.putE s.h (k : Int) x = 0
  · rw [if_pos he]
    obtain ⟨e0, e1⟩ := hear_rows h.ok.fit.me he
    rw [e0, e1] at hq
    exact ⟨rfl, h.ry hq hp.og⟩
  · rw [if_neg he]
    obtain ⟨e0, e1⟩ := hear_no_rows h.ok.fit.me he
    rw [e0, e1] at hq
    exact ⟨rfl, h.ry hq hp.og⟩
/-- Its cells are those of a session that did the same. -/
theorem Ry.rx (h : Ry w lo hi Y G s t) (hx : Y.Ok lo hi) (ht : t.Ok G) (hg : G.Ok) (hn : G.l ≠ [] → ∀ k, Y.cv.ownBlock = some k → k < lo) (hc : Y.cells G t = Y.cells G s) : Rx w lo hi Y G t := ⟨by rw [hc]; exact h.c, h.q, h.l, hx, h.z, ht, hg, hn⟩
set_option maxRecDepth 20000 in
set_option maxHeartbeats 2000000 in
theorem rRemote_any (h : Rx w lo hi Y G s) (hst : 0 ≤ s.st ∧ s.st < 4611686018427300000) (hwr : 0 ≤ s.wr ∧ s.wr < 4611686018427300000) {f x : Int} (hf : -9223372036854775808 ≤ f ∧ f ≤ 9223372036854775807) (hx : 0 ≤ x ∧ x < 65536) : Calls Tryz.prog 16 #[.pointer (some ⟨Y.sb, 0, none⟩), .int .i64 f, .int .u16 x] w fun e w' => e = .returned (.int .i64 (remA s G f x)) ∧ Rx w' lo hi Y G (remS s G f x) ∧ Grows (In2 lo hi) w w' := by
  have c1 := h.cl.c1
  have CS := hid_into (rSure_any h)
  have Hh := hid_into h
  have hgs := h.sureGs
  have hcap := chkG_cap h.g.c
  have HL := st_len hgs.wf
  have HO := st_one hgs.wf
  have HX := hid_into (stV_c hgs.wf).over
  have HF := hid_into (stV_c hgs.wf).frame
  have HZ : Hid ((Tryz.prog.info? 48).bind (·.zero) = some (.agg zeroS.toArray)) := Tryz.zero48
  have ZS := zeroS_size
  have b0 := hgs.f0
  have b1 := hgs.f1
  have b2 := hcap.2.2.1
  have b3 : (s.sure G).frame ≤ 600 := by omega
  by_cases h1 : f < 0
  · have eA : remA s G f x = 1 := if_pos (Or.inl h1)
    have eS : remS s G f x = s := by unfold remS; rw [eA]; rfl
    rw [eA, eS]
    clear h CS hgs hcap HL HO HX HF
    go_enter Tryz.func16, Tryz.ntmps16
    go_wp2_with fail
    go_ret
    exact ⟨rfl, Hh.out, Grows.refl _ _⟩
  by_cases h2 : G.cap ≤ f
  · have eA : remA s G f x = 1 := if_pos (Or.inr h2)
    have eS : remS s G f x = s := by unfold remS; rw [eA]; rfl
    rw [eA, eS]
    clear h CS hgs hcap HL HO HX HF
    generalize G.cap = cap at *
    go_enter Tryz.func16, Tryz.ntmps16
    go_wp2_with fail
    go_ret
    exact ⟨rfl, Hh.out, Grows.refl _ _⟩
  have n12 : ¬ (f < 0 ∨ G.cap ≤ f) := by omega
  by_cases h3 : (s.sure G).over = true
  · have eA : remA s G f x = 12 := by unfold remA; rw [if_neg n12, if_pos h3]
    have eS : remS s G f x = s := by unfold remS; rw [eA]; rfl
    rw [eA, eS]
    rw [h3] at HX
    generalize stV (s.sure G) = cs at *
    generalize (s.sure G).frame = sf at *
    generalize G.cap = cap at *
    clear h hgs hcap
    go_enter Tryz.func16, Tryz.ntmps16
    go_wp2_with (first
          | (go_at_call 21; refine CS.out.mono ?_; rintro e w1 ⟨rfl, B1⟩)
          | (refine wpList_alloc_row rfl 48 rfl zeroS HZ.out ?_; intro W2 hc2 B2 _)
          | (refine wpList_store_rw rfl 48 (.tmp 7) (.tmp 24) rfl w1.heap.size zeroS cs 48 rfl rfl ?_ ZS HL HO.out ?_; exact hc2; intro W3 hc3 O3; have q18 := (hc3.cell 18).trans HX.out; have q0 := (hc3.cell 0).trans HF.out; have HB3 := hid_into ((B1.trans (B2.mono B1.size)).trans (O3.below B1.size)); clear B1 B2 O3))
    go_ret
    exact ⟨rfl, Hh.out.below HB3.out, gb HB3.out⟩
  have h3' : (s.sure G).over = false := by simpa using h3
  rw [h3'] at HX
  by_cases h4 : (s.sure G).frame + 24 < f
  · have eA : remA s G f x = 13 := by unfold remA; rw [if_neg n12, if_neg h3, if_pos h4]
    have eS : remS s G f x = s := by unfold remS; rw [eA]; rfl
    rw [eA, eS]
    have h4' : (s.sure G).frame + 16 + 8 < f := by omega
    generalize stV (s.sure G) = cs at *
    generalize (s.sure G).frame = sf at *
    generalize G.cap = cap at *
    clear h hgs hcap
    go_enter Tryz.func16, Tryz.ntmps16
    go_wp2_with (first
          | (go_at_call 21; refine CS.out.mono ?_; rintro e w1 ⟨rfl, B1⟩)
          | (refine wpList_alloc_row rfl 48 rfl zeroS HZ.out ?_; intro W2 hc2 B2 _)
          | (refine wpList_store_rw rfl 48 (.tmp 7) (.tmp 24) rfl w1.heap.size zeroS cs 48 rfl rfl ?_ ZS HL HO.out ?_; exact hc2; intro W3 hc3 O3; have q18 := (hc3.cell 18).trans HX.out; have q0 := (hc3.cell 0).trans HF.out; have HB3 := hid_into ((B1.trans (B2.mono B1.size)).trans (O3.below B1.size)); clear B1 B2 O3))
    go_ret
    exact ⟨rfl, Hh.out.below HB3.out, gb HB3.out⟩
  have h4' : ¬ (s.sure G).frame + 16 + 8 < f := by omega
  have hA : remA s G f x = In.putE s.h f x := by unfold remA; rw [if_neg n12, if_neg h3, if_neg h4]
  obtain ⟨k, hk⟩ : ∃ k : Nat, f = (k : Int) := ⟨f.toNat, by omega⟩
  have ek : f.toNat = k := by rw [hk]; rfl
  have hm := h.ok.fit.me
  have hme : 0 ≤ s.me ∧ s.me ≤ 1 := by omega
  obtain ⟨o, ho⟩ : ∃ o, o = 1 - s.me := ⟨_, rfl⟩
  have hwo : IntKind.i64.wrap (1 - s.me) = o := by rw [ho]; simp [IntKind.wrap, IntKind.bits, IntKind.signed]; omega
  have CG : Hid (∀ W, Below w.heap.size w W → (W.cell? ⟨Y.sb, 4, none⟩ = some (.int .i64 s.me) ∧ W.cell? ⟨Y.sb, 5, none⟩ = some (.pointer (some ⟨Y.qb, 0, none⟩))) ∧ Calls Tryz.prog 43 #[.pointer (some ⟨Y.qb, 0, none⟩), .int .i64 o, .int .i64 f] W fun e w' => e = .returned (.tuple #[.int .u16 (gv s.h (k + 1)), .bool (In.getP s.h f).2]) ∧ w' = W) := fun W hW => by
    have H := h.below hW
    have g := In.rget_anyR H.q o f
    rw [ho, (sel_me hm).2, hk, getP_gv (by have := h.ok.fit.hl; omega)] at g
    rw [ho, hk]
    exact ⟨⟨H.cl.c4, H.cl.c5⟩, g⟩
  have CN : Hid (∀ W, Below w.heap.size w W → Calls Tryz.prog 19 #[.pointer (some ⟨Y.sb, 0, none⟩)] W fun e w' => e = .returned (.agg (stV (s.now G)).toArray) ∧ Below W.heap.size W w') := fun W hW => rNow_any (h.below hW)
  have CM : Hid (∀ W, Below w.heap.size w W → (W.cell? ⟨Y.sb, 4, none⟩ = some (.int .i64 s.me) ∧ W.cell? ⟨Y.sb, 5, none⟩ = some (.pointer (some ⟨Y.qb, 0, none⟩))) ∧ Calls Tryz.prog 39 #[.pointer (some ⟨Y.qb, 0, none⟩), .int .i64 o, .int .i64 f, .int .u16 x] W fun e w' => e = .returned (.int .i64 (In.putE s.h f x)) ∧ (w'.cell? ⟨Y.sb, 4, none⟩ = some (.int .i64 s.me) ∧ w'.cell? ⟨Y.sb, 5, none⟩ = some (.pointer (some ⟨Y.qb, 0, none⟩))) ∧ Ry w' lo hi Y G s (if In.putE s.h f x = 0 then s.hear k x else s) ∧ Grows (In2 lo hi) W w') := fun W hW => by
    have H := h.below hW
    rw [ho, hk]
    refine ⟨⟨H.cl.c4, H.cl.c5⟩, (rputH H k x).mono ?_⟩
    rintro e w' ⟨rfl, h5, h6⟩
    exact ⟨rfl, ⟨(h5.c.cell 4).trans rfl, (h5.c.cell 5).trans rfl⟩, h5, h6⟩
  have F0 := (fieldS h.nowGs.wf).1
  have hok := h.ok.rem (f := f) hx
  by_cases e0 : In.putE s.h f x = 0
  · have hA0 : remA s G f x = 0 := by rw [hA, e0]
    obtain ⟨hr, _⟩ := remA_go hA0
    rw [ek] at hr
    by_cases c : f < (s.now G).frame ∧ gv s.h (k + 1) ≠ x
    · have hS : remS s G f x = (s.hear k x).work (((s.hear k x).now G).frame - f) 1 := by unfold remS; rw [if_pos hA0, ek, if_pos c]
      have hH := h.ok.hear hr hx
      have c2' : (gv s.h (k + 1) == x) = false := by simp [c.2]
      have C8 : Hid (∀ W, Ry W lo hi Y G s (s.hear k x) → W.cell? ⟨Y.sb, 8, none⟩ = some (.int .i64 s.wr) ∧ W.frozen? ⟨Y.sb, 8, none⟩ = false ∧ Rx (W.setCell ⟨Y.sb, 8, none⟩ (.int .i64 (s.wr + 1))) lo hi Y G ((s.hear k x).work 0 1) ∧ Grows (In2 lo hi) W (W.setCell ⟨Y.sb, 8, none⟩ (.int .i64 (s.wr + 1)))) := fun W hW => by
        have o1 := Only.set Y.sb 8 W (.int .i64 (s.wr + 1))
        have k1 := hW.c.set 8 (.int .i64 (s.wr + 1))
        refine ⟨(hW.c.cell 8).trans rfl, hW.c.frozen 8, ⟨?_, hW.q.keep (fun k h1 h2 => o1.block k (by have := h.x.sq; omega)), hW.l.keepN (fun hne k hk => o1.block k (by have := h.nc hne k hk; have := h.x.s; omega)), h.x, by rw [o1.size]; exact hW.z, hH.work _ _, h.g, h.nc⟩, ⟨o1.os, o1.tape, o1.output, by rw [o1.size]; exact Nat.le_refl _, fun k _ hk => o1.block k (fun e => hk (e ▸ h.x.s))⟩⟩
        have e : Y.cells G ((s.hear k x).work 0 1) = (Y.cells G s).set 8 (.int .i64 (s.wr + 1)) := by
          unfold Yx.cells
          rw [show ((s.hear k x).work 0 1).P = s.P from rfl, show ((s.hear k x).work 0 1).st = s.st from Int.add_zero _, show ((s.hear k x).work 0 1).wr = s.wr + 1 from rfl, show ((s.hear k x).work 0 1).me = s.me from rfl]
          rfl
        rw [e]
        exact k1
      have C19 : Hid (∀ W, Rx W lo hi Y G ((s.hear k x).work 0 1) → Calls Tryz.prog 19 #[.pointer (some ⟨Y.sb, 0, none⟩)] W fun e w' => e = .returned (.agg (stV ((s.hear k x).now G)).toArray) ∧ Below W.heap.size W w') := fun W hW => by
        have g := rNow_any hW
        rw [Sa.work_now] at g
        exact g
      have HS : Hid (∀ W V, Rx W lo hi Y G ((s.hear k x).work 0 1) → Below W.heap.size W V → V.cell? ⟨Y.sb, 7, none⟩ = some (.int .i64 s.st) ∧ V.frozen? ⟨Y.sb, 7, none⟩ = false ∧ Rx (V.setCell ⟨Y.sb, 7, none⟩ (.int .i64 (s.st + ((s.hear k x).now G).frame - f))) lo hi Y G (remS s G f x) ∧ Grows (In2 lo hi) V (V.setCell ⟨Y.sb, 7, none⟩ (.int .i64 (s.st + ((s.hear k x).now G).frame - f)))) := fun W V hW hV => by
        have H := hW.below hV
        have o1 := Only.set Y.sb 7 V (.int .i64 (s.st + ((s.hear k x).now G).frame - f))
        have k1 := H.c.set 7 (.int .i64 (s.st + ((s.hear k x).now G).frame - f))
        have es : ((s.hear k x).work 0 1).st = s.st := Int.add_zero _
        refine ⟨by rw [H.cl.c7, es], H.c.frozen 7, ⟨?_, ?_, H.l.keepN (fun hne k hk => o1.block k (by have := h.nc hne k hk; have := h.x.s; omega)), h.x, by rw [o1.size]; exact H.z, hok, h.g, h.nc⟩, ⟨o1.os, o1.tape, o1.output, by rw [o1.size]; exact Nat.le_refl _, fun k _ hk => o1.block k (fun e => hk (e ▸ h.x.s))⟩⟩
        · rw [hS]
          have e : Y.cells G ((s.hear k x).work (((s.hear k x).now G).frame - f) 1) = (Y.cells G ((s.hear k x).work 0 1)).set 7 (.int .i64 (s.st + ((s.hear k x).now G).frame - f)) := by
            unfold Yx.cells
            rw [show ((s.hear k x).work (((s.hear k x).now G).frame - f) 1).st = s.st + ((s.hear k x).now G).frame - f from (Int.add_sub_assoc _ _ _).symm]
            rfl
          rw [e]
          exact k1
        · rw [hS]
          exact H.q.keep (fun k h1 h2 => o1.block k (by have := h.x.sq; omega))
      have hn2 := hH.fit.gs h.g (s.hear k x).P
      have F2 := (fieldS hn2.wf).1
      have p0 : 0 ≤ ((s.hear k x).now G).frame := hn2.f0
      have p1 : ((s.hear k x).now G).frame ≤ 600 := Int.le_trans hn2.f1 b2
      have c1' := c.1
      rw [hA0]
      rw [e0] at CM
      simp only [if_true] at CM
      obtain ⟨hw1, hw2⟩ := hwr
      obtain ⟨hs1, hs2⟩ := hst
      have hf6 : f ≤ 600 := by omega
      have hf0 : 0 ≤ f := by omega
      change ∀ W : World, (Instr.field 48 (.agg (stV ((s.hear k x).now G)).toArray) 0).run Tryz.prog W = .ok (.int .i64 ((s.hear k x).now G).frame) W at F2
      generalize stV (s.sure G) = cs at *
      generalize (s.sure G).frame = sf at *
      generalize stV ((s.hear k x).now G) = ms at *
      generalize ((s.hear k x).now G).frame = qn at *
      generalize stV (s.now G) = ns at *
      generalize (s.now G).frame = q at *
      generalize gv s.h (k + 1) = was at *
      generalize (In.getP s.h f).2 = bb at *
      generalize s.me = me at *
      generalize s.wr = wr at *
      generalize s.st = st at *
      generalize remS s G f x = rs at *
      generalize G.cap = cap at *
      have wq1 : IntKind.i64.wrap (st + qn) = st + qn := by simp [IntKind.wrap, IntKind.bits, IntKind.signed]; omega
      have wq2 : IntKind.i64.wrap (st + qn - f) = st + qn - f := by simp [IntKind.wrap, IntKind.bits, IntKind.signed]; omega
      clear h hgs hcap hA hk ek hm hme ho hok e0 hA0 hr hS hH hn2 n12 c
      go_enter Tryz.func16, Tryz.ntmps16
      go_wp2_with (first
            | (go_at_call 21; refine CS.out.mono ?_; rintro e w1 ⟨rfl, B1⟩)
            | (refine wpList_alloc_row rfl 48 rfl zeroS HZ.out ?_; intro W2 hc2 B2 _)
            | (refine wpList_store_rw rfl 48 (.tmp 7) (.tmp 24) rfl w1.heap.size zeroS cs 48 rfl rfl ?_ ZS HL HO.out ?_; exact hc2; intro W3 hc3 O3; have q18 := (hc3.cell 18).trans HX.out; have q0 := (hc3.cell 0).trans HF.out; have HB3 := hid_into ((B1.trans (B2.mono B1.size)).trans (O3.below B1.size)); clear B1 B2 O3))
      have HB4 := hid_into HB3.out.drew
      have sE := (CG.out _ HB4.out).1
      go_region_held3 (fun V => V.cell? ⟨Y.sb, 4, none⟩ = some (.int .i64 me) ∧ V.cell? ⟨Y.sb, 5, none⟩ = some (.pointer (some ⟨Y.qb, 0, none⟩))) (exact sE)
        (first | (go_at_call 43; refine (CG.out _ HB4.out).2.mono ?_; rintro e w4 ⟨rfl, hx4⟩; replace hx4 := hx4.symm; subst hx4))
      go_wp2_with (go_at_call 19; refine (CN.out _ HB4.out).mono ?_; rintro e w5 ⟨rfl, B5⟩; have HB5 := hid_into (HB4.out.trans (B5.mono HB4.out.size)); have HB6 := hid_into HB5.out.drew; clear B5)
      have sF := (CM.out _ HB6.out).1
      go_region_held3 (fun V => V.cell? ⟨Y.sb, 4, none⟩ = some (.int .i64 me) ∧ V.cell? ⟨Y.sb, 5, none⟩ = some (.pointer (some ⟨Y.qb, 0, none⟩))) (first | exact sG | exact sF)
        (first | (go_at_call 39; refine (CM.out _ HB6.out).2.mono ?_; rintro e w7 ⟨rfl, sG, h7, g7⟩; have H7 := hid_into h7; have G7 := hid_into g7; clear h7 g7))
      
      obtain ⟨c8, z8, r8, g8⟩ := C8.out _ H7.out
      have H9 := hid_into r8
      have G8 := hid_into g8
      clear r8 g8
      have HS7 := hid_into (fun V hV => HS.out _ V H9.out hV)
      have a7 := (HS7.out _ (Below.refl _ _).drew).1
      have HD9 := hid_into (H9.out.sm (w' := (w7.setCell ⟨Y.sb, 8, none⟩ (.int .i64 (wr + 1))).drew) ⟨rfl, rfl, rfl, rfl⟩)
      go_upto_region 15 with fail
      refine wp_region_held (S := fun _ => True) (by kernel_rfl) ?_
      change wpAnyH _ _ _ _ _ _ _ _ (World.drew _)
      refine wpAnyH_take (i := 0) (v := .pointer (some ⟨Y.sb, 0, none⟩)) rfl (by kernel_rfl) (by kernel_rfl) (by kernel_rfl) (fun _ _ _ h => h) (Or.inl ⟨by kernel_rfl, by intro V _; go_simp⟩) trivial ?_
      refine wpAnyH_take (i := 1) (v := .pointer (some ⟨Y.sb, 0, none⟩)) rfl (by kernel_rfl) (by kernel_rfl) (by kernel_rfl) (fun _ _ _ h => h) (Or.inl ⟨by kernel_rfl, by intro V _; go_simp⟩) trivial ?_
      refine wpAnyH_take (i := 2) (v := .pointer (some ⟨Y.sb, 0, none⟩)) rfl (by kernel_rfl) (by kernel_rfl) (by kernel_rfl) (fun _ _ _ h => h) (Or.inl ⟨by kernel_rfl, by intro V _; go_simp⟩) trivial ?_
      refine wpAnyH_take (i := 3) (v := .pointer (some ⟨Y.sb, 7, none⟩)) rfl (by kernel_rfl) (by kernel_rfl) (by kernel_rfl) (fun _ _ _ h => h) (Or.inl ⟨by kernel_rfl, by intro V _; go_simp⟩) trivial ?_
      refine wpAnyH_take (i := 5) (v := .pointer (some ⟨Y.sb, 0, none⟩)) rfl (by kernel_rfl) (by kernel_rfl) (by kernel_rfl) (fun _ _ _ h => h) (Or.inl ⟨by kernel_rfl, by intro V _; go_simp⟩) trivial ?_
      refine wpAnyH_take (i := 9) (v := .int .i64 f) rfl (by kernel_rfl) (by kernel_rfl) (by kernel_rfl) (fun _ _ _ h => h) (Or.inl ⟨by kernel_rfl, by intro V _; go_simp⟩) trivial ?_
      refine wpAnyH_ready (rs := [4, 6]) (by kernel_rfl) (by simp) ?_
      try simp only [List.getElem_toArray, List.getElem_cons_zero, List.getElem_cons_succ, Act.put, List.setIfInBounds_toArray, List.set_cons_zero, List.set_cons_succ]
      refine AllReadyH.cons rfl (fun KK hK => ?_) (AllReadyH.cons rfl (fun KK hK => ?_) AllReadyH.nil)
      · go_simp
        refine hK.out _ _ trivial (fun _ => ?_)
        clear hK KK
        refine wpAnyH_ready (rs := [6]) (by kernel_rfl) (by simp) ?_
        try simp only [List.getElem_toArray, List.getElem_cons_zero, List.getElem_cons_succ, Act.put, List.setIfInBounds_toArray, List.set_cons_zero, List.set_cons_succ]
        refine AllReadyH.cons rfl (fun KK hK => ?_) AllReadyH.nil
        go_simp
        refine (C19.out _ HD9.out).mono ?_
        rintro e w10 ⟨rfl, B10⟩
        have HB10 := hid_into (((Below.refl _ _).drew).trans (B10.mono (Nat.le_refl _)))
        have d7 := (HS7.out _ HB10.out).1
        have z7 := (HS7.out _ HB10.out).2.1
        clear B10
        dsimp only
        refine hK.out _ _ trivial (fun _ => ?_)
        clear hK KK
        refine wpAnyH_take (i := 7) (v := .int .i64 qn) rfl (by kernel_rfl) (by kernel_rfl) (by kernel_rfl) (fun _ _ _ h => h) (Or.inl ⟨by kernel_rfl, by intro V _; go_simp⟩) trivial ?_
        refine wpAnyH_take (i := 8) (v := .int .i64 (st + qn)) rfl (by kernel_rfl) (by kernel_rfl) (by kernel_rfl) (fun _ _ _ h => h) (Or.inl ⟨by kernel_rfl, by intro V _; go_simp⟩) trivial ?_
        refine wpAnyH_take (i := 10) (v := .int .i64 (st + qn - f)) rfl (by kernel_rfl) (by kernel_rfl) (by kernel_rfl) (fun _ _ _ h => h) (Or.inl ⟨by kernel_rfl, by intro V _; go_simp⟩) trivial ?_
        refine wpAnyH_take (i := 11) (v := .pointer (some ⟨Y.sb, 0, none⟩)) rfl (by kernel_rfl) (by kernel_rfl) (by kernel_rfl) (fun _ _ _ h => h) (Or.inl ⟨by kernel_rfl, by intro V _; go_simp⟩) trivial ?_
        refine wpAnyH_take (i := 12) (v := .pointer (some ⟨Y.sb, 7, none⟩)) rfl (by kernel_rfl) (by kernel_rfl) (by kernel_rfl) (fun _ _ _ h => h) (Or.inl ⟨by kernel_rfl, by intro V _; go_simp⟩) trivial ?_
        refine wpAnyH_ready (rs := [13]) (by kernel_rfl) (by simp) ?_
        try simp only [List.getElem_toArray, List.getElem_cons_zero, List.getElem_cons_succ, Act.put, List.setIfInBounds_toArray, List.set_cons_zero, List.set_cons_succ]
        refine AllReadyH.cons rfl (fun KK hK => ?_) AllReadyH.nil
        go_simp
        refine hK.out _ _ trivial (fun _ => ?_)
        clear hK KK
        try simp only [List.getElem_toArray, List.getElem_cons_zero, List.getElem_cons_succ, Act.put, List.setIfInBounds_toArray, List.set_cons_zero, List.set_cons_succ]
        refine wpAnyH_done (by kernel_rfl) ?_ _
        go_wp2_with fail
        go_ret
        obtain ⟨_, _, R11, G11⟩ := HS7.out _ HB10.out
        exact ⟨rfl, R11, gtrans (gtrans (gtrans (gtrans (gb HB6.out) G7.out) G8.out) (gb HB10.out)) G11⟩
      · go_simp
        refine (C19.out _ HD9.out).mono ?_
        rintro e w10 ⟨rfl, B10⟩
        have HB10 := hid_into (((Below.refl _ _).drew).trans (B10.mono (Nat.le_refl _)))
        have d7 := (HS7.out _ HB10.out).1
        have z7 := (HS7.out _ HB10.out).2.1
        clear B10
        dsimp only
        refine hK.out _ _ trivial (fun _ => ?_)
        clear hK KK
        refine wpAnyH_take (i := 7) (v := .int .i64 qn) rfl (by kernel_rfl) (by kernel_rfl) (by kernel_rfl) (fun _ _ _ h => h) (Or.inl ⟨by kernel_rfl, by intro V _; go_simp⟩) trivial ?_
        refine wpAnyH_ready (rs := [4]) (by kernel_rfl) (by simp) ?_
        try simp only [List.getElem_toArray, List.getElem_cons_zero, List.getElem_cons_succ, Act.put, List.setIfInBounds_toArray, List.set_cons_zero, List.set_cons_succ]
        refine AllReadyH.cons rfl (fun KK hK => ?_) AllReadyH.nil
        go_simp
        refine hK.out _ _ trivial (fun _ => ?_)
        clear hK KK
        refine wpAnyH_take (i := 8) (v := .int .i64 (st + qn)) rfl (by kernel_rfl) (by kernel_rfl) (by kernel_rfl) (fun _ _ _ h => h) (Or.inl ⟨by kernel_rfl, by intro V _; go_simp⟩) trivial ?_
        refine wpAnyH_take (i := 10) (v := .int .i64 (st + qn - f)) rfl (by kernel_rfl) (by kernel_rfl) (by kernel_rfl) (fun _ _ _ h => h) (Or.inl ⟨by kernel_rfl, by intro V _; go_simp⟩) trivial ?_
        refine wpAnyH_take (i := 11) (v := .pointer (some ⟨Y.sb, 0, none⟩)) rfl (by kernel_rfl) (by kernel_rfl) (by kernel_rfl) (fun _ _ _ h => h) (Or.inl ⟨by kernel_rfl, by intro V _; go_simp⟩) trivial ?_
        refine wpAnyH_take (i := 12) (v := .pointer (some ⟨Y.sb, 7, none⟩)) rfl (by kernel_rfl) (by kernel_rfl) (by kernel_rfl) (fun _ _ _ h => h) (Or.inl ⟨by kernel_rfl, by intro V _; go_simp⟩) trivial ?_
        refine wpAnyH_ready (rs := [13]) (by kernel_rfl) (by simp) ?_
        try simp only [List.getElem_toArray, List.getElem_cons_zero, List.getElem_cons_succ, Act.put, List.setIfInBounds_toArray, List.set_cons_zero, List.set_cons_succ]
        refine AllReadyH.cons rfl (fun KK hK => ?_) AllReadyH.nil
        go_simp
        refine hK.out _ _ trivial (fun _ => ?_)
        clear hK KK
        try simp only [List.getElem_toArray, List.getElem_cons_zero, List.getElem_cons_succ, Act.put, List.setIfInBounds_toArray, List.set_cons_zero, List.set_cons_succ]
        refine wpAnyH_done (by kernel_rfl) ?_ _
        go_wp2_with fail
        go_ret
        obtain ⟨_, _, R11, G11⟩ := HS7.out _ HB10.out
        exact ⟨rfl, R11, gtrans (gtrans (gtrans (gtrans (gb HB6.out) G7.out) G8.out) (gb HB10.out)) G11⟩
    · have hS : remS s G f x = s.hear k x := by unfold remS; rw [if_pos hA0, ek, if_neg c]
      have HR : Hid (∀ W, Ry W lo hi Y G s (s.hear k x) → Rx W lo hi Y G (remS s G f x)) := fun W hW => by
        rw [hS] at hok ⊢
        exact hW.rx h.x hok h.g h.nc rfl
      rw [hA0]
      rw [e0] at CM
      simp only [if_true] at CM
      by_cases c1' : f < (s.now G).frame
      · have c2 : gv s.h (k + 1) = x := Decidable.byContradiction fun d => c ⟨c1', d⟩
        rw [c2] at CG
        generalize stV (s.sure G) = cs at *
        generalize (s.sure G).frame = sf at *
        generalize stV (s.now G) = ns at *
        generalize (s.now G).frame = q at *
        generalize (In.getP s.h f).2 = bb at *
        generalize s.me = me at *
        generalize remS s G f x = rs at *
        generalize G.cap = cap at *
        clear h hgs hcap hA hk ek hm hme ho hok e0 hA0 hr hS n12 c
        go_enter Tryz.func16, Tryz.ntmps16
        go_wp2_with (first
              | (go_at_call 21; refine CS.out.mono ?_; rintro e w1 ⟨rfl, B1⟩)
              | (refine wpList_alloc_row rfl 48 rfl zeroS HZ.out ?_; intro W2 hc2 B2 _)
              | (refine wpList_store_rw rfl 48 (.tmp 7) (.tmp 24) rfl w1.heap.size zeroS cs 48 rfl rfl ?_ ZS HL HO.out ?_; exact hc2; intro W3 hc3 O3; have q18 := (hc3.cell 18).trans HX.out; have q0 := (hc3.cell 0).trans HF.out; have HB3 := hid_into ((B1.trans (B2.mono B1.size)).trans (O3.below B1.size)); clear B1 B2 O3))
        have HB4 := hid_into HB3.out.drew
        have sE := (CG.out _ HB4.out).1
        go_region_held3 (fun V => V.cell? ⟨Y.sb, 4, none⟩ = some (.int .i64 me) ∧ V.cell? ⟨Y.sb, 5, none⟩ = some (.pointer (some ⟨Y.qb, 0, none⟩))) (exact sE)
          (first | (go_at_call 43; refine (CG.out _ HB4.out).2.mono ?_; rintro e w4 ⟨rfl, hx4⟩; replace hx4 := hx4.symm; subst hx4))
        go_wp2_with (go_at_call 19; refine (CN.out _ HB4.out).mono ?_; rintro e w5 ⟨rfl, B5⟩; have HB5 := hid_into (HB4.out.trans (B5.mono HB4.out.size)); have HB6 := hid_into HB5.out.drew; clear B5)
        have sF := (CM.out _ HB6.out).1
        go_region_held3 (fun V => V.cell? ⟨Y.sb, 4, none⟩ = some (.int .i64 me) ∧ V.cell? ⟨Y.sb, 5, none⟩ = some (.pointer (some ⟨Y.qb, 0, none⟩))) (first | exact sG | exact sF)
          (first | (go_at_call 39; refine (CM.out _ HB6.out).2.mono ?_; rintro e w7 ⟨rfl, sG, h7, g7⟩; have H7 := hid_into h7; have G7 := hid_into g7; clear h7 g7))
        
        go_wp2_with fail
        go_ret
        exact ⟨rfl, HR.out _ H7.out, gtrans (gb HB6.out) G7.out⟩
      · generalize stV (s.sure G) = cs at *
        generalize (s.sure G).frame = sf at *
        generalize stV (s.now G) = ns at *
        generalize (s.now G).frame = q at *
        generalize gv s.h (k + 1) = was at *
        generalize (In.getP s.h f).2 = bb at *
        generalize s.me = me at *
        generalize remS s G f x = rs at *
        generalize G.cap = cap at *
        clear h hgs hcap hA hk ek hm hme ho hok e0 hA0 hr hS n12 c
        go_enter Tryz.func16, Tryz.ntmps16
        go_wp2_with (first
              | (go_at_call 21; refine CS.out.mono ?_; rintro e w1 ⟨rfl, B1⟩)
              | (refine wpList_alloc_row rfl 48 rfl zeroS HZ.out ?_; intro W2 hc2 B2 _)
              | (refine wpList_store_rw rfl 48 (.tmp 7) (.tmp 24) rfl w1.heap.size zeroS cs 48 rfl rfl ?_ ZS HL HO.out ?_; exact hc2; intro W3 hc3 O3; have q18 := (hc3.cell 18).trans HX.out; have q0 := (hc3.cell 0).trans HF.out; have HB3 := hid_into ((B1.trans (B2.mono B1.size)).trans (O3.below B1.size)); clear B1 B2 O3))
        have HB4 := hid_into HB3.out.drew
        have sE := (CG.out _ HB4.out).1
        go_region_held3 (fun V => V.cell? ⟨Y.sb, 4, none⟩ = some (.int .i64 me) ∧ V.cell? ⟨Y.sb, 5, none⟩ = some (.pointer (some ⟨Y.qb, 0, none⟩))) (exact sE)
          (first | (go_at_call 43; refine (CG.out _ HB4.out).2.mono ?_; rintro e w4 ⟨rfl, hx4⟩; replace hx4 := hx4.symm; subst hx4))
        go_wp2_with (go_at_call 19; refine (CN.out _ HB4.out).mono ?_; rintro e w5 ⟨rfl, B5⟩; have HB5 := hid_into (HB4.out.trans (B5.mono HB4.out.size)); have HB6 := hid_into HB5.out.drew; clear B5)
        have sF := (CM.out _ HB6.out).1
        go_region_held3 (fun V => V.cell? ⟨Y.sb, 4, none⟩ = some (.int .i64 me) ∧ V.cell? ⟨Y.sb, 5, none⟩ = some (.pointer (some ⟨Y.qb, 0, none⟩))) (first | exact sG | exact sF)
          (first | (go_at_call 39; refine (CM.out _ HB6.out).2.mono ?_; rintro e w7 ⟨rfl, sG, h7, g7⟩; have H7 := hid_into h7; have G7 := hid_into g7; clear h7 g7))
        
        go_wp2_with fail
        go_ret
        exact ⟨rfl, HR.out _ H7.out, gtrans (gb HB6.out) G7.out⟩
  · have hS : remS s G f x = s := by unfold remS; rw [if_neg (by rw [hA]; exact e0)]
    have HR : Hid (∀ W, Ry W lo hi Y G s s → Rx W lo hi Y G s) := fun W hW => hW.rx h.x h.ok h.g h.nc rfl
    rw [hA, hS]
    rw [if_neg e0] at CM
    generalize In.putE s.h f x = e2 at *
    have e0' : (e2 == 0) = false := by simp [e0]
    generalize stV (s.sure G) = cs at *
    generalize (s.sure G).frame = sf at *
    generalize stV (s.now G) = ns at *
    generalize (s.now G).frame = q at *
    generalize gv s.h (k + 1) = was at *
    generalize (In.getP s.h f).2 = bb at *
    generalize s.me = me at *
    generalize G.cap = cap at *
    clear h hgs hcap hA hk ek hm hme ho hok hS n12
    go_enter Tryz.func16, Tryz.ntmps16
    go_wp2_with (first
          | (go_at_call 21; refine CS.out.mono ?_; rintro e w1 ⟨rfl, B1⟩)
          | (refine wpList_alloc_row rfl 48 rfl zeroS HZ.out ?_; intro W2 hc2 B2 _)
          | (refine wpList_store_rw rfl 48 (.tmp 7) (.tmp 24) rfl w1.heap.size zeroS cs 48 rfl rfl ?_ ZS HL HO.out ?_; exact hc2; intro W3 hc3 O3; have q18 := (hc3.cell 18).trans HX.out; have q0 := (hc3.cell 0).trans HF.out; have HB3 := hid_into ((B1.trans (B2.mono B1.size)).trans (O3.below B1.size)); clear B1 B2 O3))
    have HB4 := hid_into HB3.out.drew
    have sE := (CG.out _ HB4.out).1
    go_region_held3 (fun V => V.cell? ⟨Y.sb, 4, none⟩ = some (.int .i64 me) ∧ V.cell? ⟨Y.sb, 5, none⟩ = some (.pointer (some ⟨Y.qb, 0, none⟩))) (exact sE)
      (first | (go_at_call 43; refine (CG.out _ HB4.out).2.mono ?_; rintro e w4 ⟨rfl, hx4⟩; replace hx4 := hx4.symm; subst hx4))
    go_wp2_with (go_at_call 19; refine (CN.out _ HB4.out).mono ?_; rintro e w5 ⟨rfl, B5⟩; have HB5 := hid_into (HB4.out.trans (B5.mono HB4.out.size)); have HB6 := hid_into HB5.out.drew; clear B5)
    have sF := (CM.out _ HB6.out).1
    go_region_held3 (fun V => V.cell? ⟨Y.sb, 4, none⟩ = some (.int .i64 me) ∧ V.cell? ⟨Y.sb, 5, none⟩ = some (.pointer (some ⟨Y.qb, 0, none⟩))) (first | exact sG | exact sF)
      (first | (go_at_call 39; refine (CM.out _ HB6.out).2.mono ?_; rintro e w7 ⟨rfl, sG, h7, g7⟩; have H7 := hid_into h7; have G7 := hid_into g7; clear h7 g7))
    
    go_wp2_with fail
    go_ret
    exact ⟨rfl, HR.out _ H7.out, gtrans (gb HB6.out) G7.out⟩
end
end Go.Proofs.YtbfldcieibdapaaGreat
end

section
/-
  The document's New, by contracts.
-/
namespace Go.Proofs.YtbfldcieibdapaaGreat
open Go.RowKit
set_option maxRecDepth 20000 in
set_option maxHeartbeats 2000000 in
theorem rNew_no (w : World) (cv : Value) (l : List Ii) (cap fuel seed me : Int) (hl : Ls w cv l) (hc : chkG l cap fuel ≠ 0) : Calls Tryz.prog 11 #[gameV cv cap fuel, .int .u32 seed, .int .i64 me] w fun e w' => e = .returned (.tuple #[.pointer none, .int .i64 (chkG l cap fuel)]) ∧ Below w.heap.size w w' := by
  obtain ⟨ao, cp, rfl, hm⟩ := hl.len
  have b0 : Below w.heap.size w (w.alloc (.cells #[.slice ao l.length cp, .int .i64 cap, .int .i64 fuel] 24)) := (Below.refl _ _).alloc (Nat.le_refl _) _
  have CK := hid_into (rChk_any _ l cap fuel _ (hl.below b0))
  generalize chkG l cap fuel = e2 at *
  have e0' : (e2 == 0) = false := by simp [hc]
  have HB0 := hid_into b0
  clear hl b0 hm
  unfold gameV at *
  go_enter Tryz.func11, Tryz.ntmps11
  go_wp2_with (go_at_call 24; refine CK.out.mono ?_; rintro e w1 ⟨rfl, B1⟩)
  go_ret2
  exact ⟨rfl, HB0.out.trans (B1.mono HB0.out.size)⟩
set_option maxRecDepth 20000 in
set_option maxHeartbeats 2000000 in
theorem rNew_me (w : World) (cv : Value) (l : List Ii) (cap fuel seed me : Int) (hl : Ls w cv l) (hc : chkG l cap fuel = 0) (h0 : me < 0 ∨ 1 < me) : Calls Tryz.prog 11 #[gameV cv cap fuel, .int .u32 seed, .int .i64 me] w fun e w' => e = .returned (.tuple #[.pointer none, .int .i64 1]) ∧ Below w.heap.size w w' := by
  obtain ⟨ao, cp, rfl, hm⟩ := hl.len
  have b0 : Below w.heap.size w (w.alloc (.cells #[.slice ao l.length cp, .int .i64 cap, .int .i64 fuel] 24)) := (Below.refl _ _).alloc (Nat.le_refl _) _
  have CK := hid_into (rChk_any _ l cap fuel _ (hl.below b0))
  rw [hc] at CK
  have HB0 := hid_into b0
  clear hl b0 hm hc
  unfold gameV at *
  by_cases h1 : me < 0
  · clear h0
    go_enter Tryz.func11, Tryz.ntmps11
    go_wp2_with (go_at_call 24; refine CK.out.mono ?_; rintro e w1 ⟨rfl, B1⟩)
    go_ret2
    exact ⟨rfl, HB0.out.trans (B1.mono HB0.out.size)⟩
  · have h2 : 1 < me := by omega
    clear h0
    go_enter Tryz.func11, Tryz.ntmps11
    go_wp2_with (go_at_call 24; refine CK.out.mono ?_; rintro e w1 ⟨rfl, B1⟩)
    go_ret2
    exact ⟨rfl, HB0.out.trans (B1.mono HB0.out.size)⟩
theorem built52 (ao : Option Addr) (n c : Nat) (cap fuel seed me : Int) (q : Addr) : Tryz.prog.built 52 [(0, .agg #[.slice ao n c, .int .i64 cap, .int .i64 fuel]), (1, .int .u32 seed), (2, .int .i64 me), (3, .pointer (some q))] = some [.slice ao n c, .int .i64 cap, .int .i64 fuel, .int .u32 seed, .int .i64 me, .pointer (some q), .int .i64 0, .int .i64 0, .int .i64 0].toArray := by kernel_rfl
set_option maxRecDepth 20000 in
set_option maxHeartbeats 4000000 in
theorem rNew_any (w : World) (cv : Value) (G : Gm) (me : Int) (hl : Ls w cv G.l) (hG : G.Ok) (hm : me = 0 ∨ me = 1) : Calls Tryz.prog 11 #[gameV cv G.cap G.fuel, .int .u32 G.seed, .int .i64 me] w fun e w' => ∃ Y, e = .returned (.tuple #[.pointer (some ⟨Y.sb, 0, none⟩), .int .i64 0]) ∧ Rx w' w.heap.size w'.heap.size Y G (newS me G.cap) ∧ Y.cv = cv ∧ Below w.heap.size w w' := by
  obtain ⟨ao, cp, rfl, hmx⟩ := hl.len
  have b0 : Below w.heap.size w (w.alloc (.cells #[.slice ao G.l.length cp, .int .i64 G.cap, .int .i64 G.fuel] 24)) := (Below.refl _ _).alloc (Nat.le_refl _) _
  have HK0 : Hid (Cw (w.alloc (.cells #[.slice ao G.l.length cp, .int .i64 G.cap, .int .i64 G.fuel] 24)) w.heap.size [.slice ao G.l.length cp, .int .i64 G.cap, .int .i64 G.fuel] 24) := Cw.new w [.slice ao G.l.length cp, .int .i64 G.cap, .int .i64 G.fuel] 24
  have CK := hid_into (rChk_any _ G.l G.cap G.fuel _ (hl.below b0))
  rw [hG.c] at CK
  have hcap := chkG_cap hG.c
  obtain ⟨n, hn⟩ : ∃ n : Nat, G.cap = (n : Int) := ⟨G.cap.toNat, by omega⟩
  have CQ : Hid (∀ W, Calls Tryz.prog 33 #[.int .i64 G.cap] W fun e w' => ∃ qb a0 a1 b0 b1, e = .returned (.tuple #[.pointer (some ⟨qb, 0, none⟩), .int .i64 0]) ∧ In.Rq w' W.heap.size (W.heap.size + 5) qb a0 a1 b0 b1 (newS me G.cap).r0 (newS me G.cap).r1 ∧ Below W.heap.size W w' ∧ w'.heap.size = W.heap.size + 5) := fun W => by
    have e0 : (newS me G.cap).r0 = In.zeros n := by unfold Sa.r0 newS; rw [hn]; simp
    have e1 : (newS me G.cap).r1 = In.zeros n := by unfold Sa.r1 newS; rw [hn]; simp
    rw [e0, e1, hn]
    exact In.rnew_any W n (by omega) (by omega)
  have H24 : Hid ((Tryz.prog.info? 24).map (·.size) = some 3) := size24
  have HL := hid_into hl
  have HG := hid_into hG
  have HB0 := hid_into b0
  clear hn hcap b0 hl hG hmx
  unfold gameV at *
  have h0 : ¬ me < 0 := by omega
  have h1 : ¬ 1 < me := by omega
  have HM := hid_into hm
  clear hm
  go_enter Tryz.func11, Tryz.ntmps11
  go_wp2_with (first
    | (go_at_call 24; refine CK.out.mono ?_; rintro e w1 ⟨rfl, B1⟩; have K1 := hid_into (HK0.out.below B1 HK0.out.lt); have HB1 := hid_into (HB0.out.trans (B1.mono HB0.out.size)); have c1 := (K1.out.cell 1).trans rfl; clear B1)
    | (go_at_call 33; refine (CQ.out _).mono ?_; rintro e w2 ⟨qb, a0, a1, b0, b1, rfl, q2, B2, z2⟩; have Q2 := hid_into q2; have HB2 := hid_into B2; have Z2 := hid_into z2; have K2 := hid_into (K1.out.below B2 K1.out.lt); clear q2 B2 z2)
    | (refine wpList_load_rw rfl 24 (.tmp 3) rfl w.heap.size [.slice ao G.l.length cp, .int .i64 G.cap, .int .i64 G.fuel] 24 _ rfl ?_ Tryz.underlying24 rfl H24 ?_; exact K2.out)
    | (refine wpList_build_row rfl 52 #[(0, .tmp 28), (1, .tmp 29), (2, .tmp 30), (3, .tmp 31)] rfl [.slice ao G.l.length cp, .int .i64 G.cap, .int .i64 G.fuel, .int .u32 G.seed, .int .i64 me, .pointer (some ⟨qb, 0, none⟩), .int .i64 0, .int .i64 0, .int .i64 0] _ rfl ?_ ?_; exact built52 _ _ _ _ _ _ _ _))
  go_ret2
  have hc8 := Cw.new w2 [.slice ao G.l.length cp, .int .i64 G.cap, .int .i64 G.fuel, .int .u32 G.seed, .int .i64 me, .pointer (some ⟨qb, 0, none⟩), .int .i64 0, .int .i64 0, .int .i64 0] 52
  have B8 : Below w2.heap.size w2 (w2.alloc (.cells [Value.slice ao G.l.length cp, .int .i64 G.cap, .int .i64 G.fuel, .int .u32 G.seed, .int .i64 me, .pointer (some ⟨qb, 0, none⟩), .int .i64 0, .int .i64 0, .int .i64 0].toArray 52)) := (Below.refl _ _).alloc (Nat.le_refl _) _
  have hz8 := World.size_alloc w2 (.cells [Value.slice ao G.l.length cp, .int .i64 G.cap, .int .i64 G.fuel, .int .u32 G.seed, .int .i64 me, .pointer (some ⟨qb, 0, none⟩), .int .i64 0, .int .i64 0, .int .i64 0].toArray 52)
  generalize (w2.alloc (.cells [Value.slice ao G.l.length cp, .int .i64 G.cap, .int .i64 G.fuel, .int .u32 G.seed, .int .i64 me, .pointer (some ⟨qb, 0, none⟩), .int .i64 0, .int .i64 0, .int .i64 0].toArray 52)) = W8 at *
  have hb1 := HB1.out.size
  have hz2 := Z2.out
  have hB : Below w.heap.size w W8 := (HB1.out.trans (HB2.out.mono hb1)).trans (B8.mono (by omega))
  refine ⟨⟨w2.heap.size, qb, w1.heap.size, w1.heap.size + 5, a0, a1, b0, b1, .slice ao G.l.length cp⟩, rfl, ⟨?_, Q2.out.keep fun k h1 h2 => B8.block k (by omega), HL.out.below hB, ⟨?_, ?_, ?_⟩, Nat.le_refl _, newS_ok HG.out HM.out, HG.out, fun hne k hk => HL.out.lt hne k hk⟩, rfl, hB⟩
  · unfold Yx.cells
    rw [newS_P]
    exact hc8
  · show w.heap.size ≤ w2.heap.size ∧ w2.heap.size < W8.heap.size; omega
  · show w.heap.size ≤ w1.heap.size ∧ w1.heap.size + 5 ≤ W8.heap.size; omega
  · show w2.heap.size < w1.heap.size ∨ w1.heap.size + 5 ≤ w2.heap.size; omega
end Go.Proofs.YtbfldcieibdapaaGreat
end
