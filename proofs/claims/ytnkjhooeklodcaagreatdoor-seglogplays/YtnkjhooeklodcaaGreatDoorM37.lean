/-
  Joined from: SegXn, SegOpen, SegPl.
-/
import Derived.Test.YtnkjhooeklodcaaGreatDoorM36
import Derived.Test.YtnkjhooeklodcaaGreatDoorM31
import Derived.Test.YtnkjhooeklodcaaGreatDoorM34
section
/-
  The document's log: Append behind a full segment; what it refuses.
-/
namespace Go.Proofs.YtnkjhooeklodcaaGreatDoor
open Go.RowKit Go.Maps Go.Sort

variable {w w' W : World} {D F : Nat → Prop} {lb wb : Nat} {u : Ud} {pre : List UInt8} {ev sv : Value} {es : List En} {ss : List Nat} {sure : Nat} {dead : Bool}
theorem syX_dead (u : Ud) (n sure : Nat) (x : List UInt8) (h : (syX u n sure x false).1 = 0) : (syX u n sure x false).2.2.2 = false := by
  unfold syX at h ⊢
  rw [if_neg (by decide)] at h ⊢
  split at h
  · rw [if_pos (by assumption)]
  · rw [if_neg (by assumption)]
    simp only at h ⊢
    rw [if_pos h]
set_option maxHeartbeats 2000000 in
set_option maxRecDepth 100000 in
theorem XAppend_dead (v : Value) (w : World) (h : Xg w F lb wb pre ev sv es ss sure true) :
    Calls Tryz.prog 17 #[.pointer (some ⟨lb, 0, none⟩), v] w fun e w' => e = .returned (.tuple #[.int .i64 0, .int .i64 9]) ∧ w' = w := by
  have c5 : w.cell? ⟨lb, 5, none⟩ = some (.bool true) := h.blk.cell 5
  clear h
  go_enter Tryz.func17, Tryz.ntmps17
  go_wp2_with fail
  go_ret2
  exact ⟨rfl, rfl⟩
set_option maxHeartbeats 2000000 in
set_option maxRecDepth 100000 in
theorem XAppend_long (ao : Option Addr) (n cap : Nat) (w : World) (h : Xg w F lb wb pre ev sv es ss sure false) (hn : 65526 < n) :
    Calls Tryz.prog 17 #[.pointer (some ⟨lb, 0, none⟩), .slice ao n cap] w fun e w' => e = .returned (.tuple #[.int .i64 0, .int .i64 5]) ∧ w' = w := by
  have c5 : w.cell? ⟨lb, 5, none⟩ = some (.bool false) := h.blk.cell 5
  have f0 : (65526 : Int) < (n : Int) := by omega
  clear h hn
  go_enter Tryz.func17, Tryz.ntmps17
  go_wp2_with fail
  go_ret2
  exact ⟨rfl, rfl⟩
set_option maxHeartbeats 4000000 in
set_option maxRecDepth 100000 in
theorem XAppend_nosync (ao : Option Addr) (cap : Nat) (zs : List Int) (w : World) (h : Xd w D F lb wb u pre es ss sure false) (hg : Gd u) (hz : zs.length ≤ 65526)
    (hs : ss ≠ []) (h5 : ¬ (at0U u.us (nameN pre (lastS ss))).1.length < 512) (s : Int × Ud × Nat × Bool) (hss : syX u es.length sure (nameN pre (lastS ss)) false = s) (hs0 : s.1 ≠ 0) :
    Calls Tryz.prog 17 #[.pointer (some ⟨lb, 0, none⟩), .slice ao zs.length cap] w fun e w' => e = .returned (.tuple #[.int .i64 0, .int .i64 s.1]) ∧ XRes w D F lb wb pre s.2.1 es ss s.2.2.1 s.2.2.2 w' := by
  obtain ⟨ev, sv, hl⟩ := h.l
  have CZ := size_any w h hg hs
  obtain ⟨m, hm, hxm⟩ := lastS_get hs
  obtain ⟨g, cg, rfl⟩ := hl.segSome hs
  obtain ⟨ae, ce, hee⟩ := hl.evform
  subst hee
  have hfew := hl.few
  have c2 : w.cell? ⟨lb, 2, none⟩ = some (.slice ae es.length ce) := hl.blk.cell 2
  have c5 : w.cell? ⟨lb, 5, none⟩ = some (.bool false) := hl.blk.cell 5
  have c3 : w.cell? ⟨lb, 3, none⟩ = some (.slice (some ⟨g, 0, none⟩) ss.length cg) := hl.blk.cell 3
  have CS : Hid (∀ w1, Below w.heap.size w w1 → Calls Tryz.prog 19 #[.pointer (some ⟨lb, 0, none⟩)] w1 fun e w' => e = .returned (.int .i64 s.1) ∧ XRes w D F lb wb pre s.2.1 es ss s.2.2.1 s.2.2.2 w') := by
    intro w1 hb1
    refine (XSync_any w1 (h.below hb1) hg fun _ => hs).mono ?_
    rw [hss]
    rintro e w2 ⟨rfl, hR⟩
    exact ⟨rfl, XRes.after hb1 hR⟩
  have q1 : IntKind.i64.wrap ((es.length : Int) + 1) = (es.length : Int) + 1 := by rw [IntKind.wrap_i64]; omega
  have f0 : ¬ (65526 : Int) < (zs.length : Int) := by omega
  have f3 : ((ss.length : Int) == 0) = false := beq_eq_false_iff_ne.2 (by omega)
  have f4 : (512 : Int) ≤ ((at0U u.us (nameN pre (lastS ss))).1.length : Int) := by omega
  clear h hl hxm hs hm hfew h5 hss
  generalize (at0U u.us (nameN pre (lastS ss))).1.length = sz at *
  obtain ⟨s1, s2, s3, s4⟩ := s
  simp only at CS hs0 ⊢
  have f5 : (s1 == 0) = false := beq_eq_false_iff_ne.2 hs0
  go_enter Tryz.func17, Tryz.ntmps17
  go_wp2_with fail
  refine CZ.mono ?_
  rintro e w1 ⟨rfl, hB1⟩
  clear CZ
  go_wp2_with fail
  refine (CS.out _ hB1).mono ?_
  rintro e w2 ⟨rfl, hR2⟩
  have HR := hid_into hR2
  clear hR2 CS
  go_wp2_with fail
  go_ret2
  exact ⟨rfl, HR.out⟩
set_option maxHeartbeats 4000000 in
set_option maxRecDepth 100000 in
theorem XAppend_next (ao : Option Addr) (cap : Nat) (zs : List Int) (w : World) (h : Xd w D F lb wb u pre es ss sure false) (hg : Gd u) (hb : Bs w (.slice ao zs.length cap) zs) (hy : Byt zs) (hz : zs.length ≤ 65526) (hk : zs ≠ [] → ∀ k, (Value.slice ao zs.length cap).ownBlock = some k → ¬ D k ∧ ¬ F k)
    (hs : ss ≠ []) (h5 : ¬ (at0U u.us (nameN pre (lastS ss))).1.length < 512) (s : Int × Ud × Nat × Bool) (hss : syX u es.length sure (nameN pre (lastS ss)) false = s) (hs0 : s.1 = 0) (hg1 : Gd s.2.1)
    (hfe : es.length + 1 ≤ 10000000) (hfs : ss.length + 1 ≤ 10000000) (r : Int × Ud) (hr : s.2.1.five [nameN pre (es.length + 1)] (wrU (nameN pre (es.length + 1)) (Fr.entN ((es.length : Int) + 1) zs) s.2.1.room) = r) (hey : Byt (Fr.entN ((es.length : Int) + 1) zs)) (hel : (Fr.entN ((es.length : Int) + 1) zs).length ≤ 70000) :
    Calls Tryz.prog 17 #[.pointer (some ⟨lb, 0, none⟩), .slice ao zs.length cap] w (ApP w D F lb wb pre es zs ss (ss ++ [es.length + 1]) s.2.2.1 r) := by
  obtain ⟨ev, sv, hl⟩ := h.l
  have CZ := size_any w h hg hs
  obtain ⟨m, hm, hxm⟩ := lastS_get hs
  obtain ⟨g, cg, rfl⟩ := hl.segSome hs
  obtain ⟨ae, ce, hee⟩ := hl.evform
  subst hee
  have hfew := hl.few
  have c2 : w.cell? ⟨lb, 2, none⟩ = some (.slice ae es.length ce) := hl.blk.cell 2
  have c5 : w.cell? ⟨lb, 5, none⟩ = some (.bool false) := hl.blk.cell 5
  have c3 : w.cell? ⟨lb, 3, none⟩ = some (.slice (some ⟨g, 0, none⟩) ss.length cg) := hl.blk.cell 3
  have CS : Hid (∀ w1, Below w.heap.size w w1 → Calls Tryz.prog 19 #[.pointer (some ⟨lb, 0, none⟩)] w1 fun e w' => e = .returned (.int .i64 s.1) ∧ XRes w D F lb wb pre s.2.1 es ss s.2.2.1 s.2.2.2 w') := by
    intro w1 hb1
    refine (XSync_any w1 (h.below hb1) hg fun _ => hs).mono ?_
    rw [hss]
    rintro e w2 ⟨rfl, hR⟩
    exact ⟨rfl, XRes.after hb1 hR⟩
  have CN : ∀ w1, Calls Tryz.prog 28 #[encStr pre, .int .i64 ((es.length : Int) + 1)] w1 fun e w' => e = .returned (encStr (nameN pre (es.length + 1))) ∧ Below w1.heap.size w1 w' := fun w1 => name_ref pre (es.length + 1) (by omega) (by omega) w1
  have hnm := nameN_len pre (es.length + 1) (by omega)
  have q1 : IntKind.i64.wrap ((es.length : Int) + 1) = (es.length : Int) + 1 := by rw [IntKind.wrap_i64]; omega
  have f0 : ¬ (65526 : Int) < (zs.length : Int) := by omega
  have f3 : ((ss.length : Int) == 0) = false := beq_eq_false_iff_ne.2 (by omega)
  have f4 : (512 : Int) ≤ ((at0U u.us (nameN pre (lastS ss))).1.length : Int) := by omega
  have hdd : s.2.2.2 = false := by rw [← hss] at hs0 ⊢; exact syX_dead _ _ _ _ hs0
  have HW : Hid (∀ W W4 W5 ap cp, XRes w D F lb wb pre s.2.1 es ss s.2.2.1 false W → Below W.heap.size W W4 → Ow W4 W.heap.size (.slice ap (Fr.entN ((es.length : Int) + 1) zs).length cp) (Fr.entN ((es.length : Int) + 1) zs) → Below W4.heap.size W4 W5 → Calls Tryz.prog 30 #[.pointer (some ⟨wb, 0, none⟩), encStr (nameN pre (es.length + 1)), .slice ap (Fr.entN ((es.length : Int) + 1) zs).length cp] W5 fun e w' => e = .returned (.int .i64 r.1) ∧ XRes w D F lb wb pre r.2 es ss s.2.2.1 false w') := by
    intro W W4 W5 ap cp hR hb4 ho hb5
    have := XRes.write hR hg1 (nameN pre (es.length + 1)) (by omega) ap cp _ W4 W5 hb4 ho hb5 hey (by omega)
    rw [hr] at this
    exact this
  have HB := hid_into hb
  clear h hl hb hxm hs hm hfew hr hey hel hnm h5 hss hg1
  generalize (at0U u.us (nameN pre (lastS ss))).1.length = sz at *
  generalize nameN pre (es.length + 1) = nm at *
  obtain ⟨s1, s2, s3, s4⟩ := s
  simp only at CS hs0 hdd HW ⊢
  subst hs0
  subst hdd
  obtain ⟨r1, r2⟩ := r
  go_enter Tryz.func17, Tryz.ntmps17
  go_wp2_with fail
  refine CZ.mono ?_
  rintro e w1 ⟨rfl, hB1⟩
  clear CZ
  go_wp2_with fail
  refine (CS.out _ hB1).mono ?_
  rintro e WW ⟨rfl, hR2⟩
  have HX := hid_into hR2
  clear hR2 CS
  go_wp2_with fail
  have hbW := XRes.bs HX.out HB.out hk
  have HN : Hid (Fr.entN ((es.length : Int) + 1) zs = Fr.recN (Fr.numOf ((es.length : Int) + 1) ++ zs)) := rfl
  have hnl := Fr.numOf_length ((es.length : Int) + 1)
  have hny := Fr.numOf_byt ((es.length : Int) + 1) (by omega) (by omega)
  have CM := Fr.refNum_any ((es.length : Int) + 1) WW (by omega) (by omega)
  have CE := fun (v : Value) (ys : List Int) (w : World) (h : Bs w v ys) (h1 : Byt ys) (h2 : ys.length ≤ 65536) => Fr.renc_any v ys w h h1 h2
  generalize Fr.numOf ((es.length : Int) + 1) = nb at *
  refine CM.mono ?_
  rintro e w2 ⟨a2, p2, rfl, ho2, hB2⟩
  have hb2 := hbW.below hB2 (Nat.le_refl _)
  have h63 : nb.length + zs.length ≤ 140737488355328 := by omega
  have hw2 := hB2.size
  have HYN : Hid (Byt (nb ++ zs) ∧ (nb ++ zs).length ≤ 65536) := ⟨hny.app hy, by rw [List.length_append]; omega⟩
  go_wp2_with (at_builtin; refine wpList_append_bs _ rfl (.tmp 61) (.tmp 62) rfl WW.heap.size _ nb rfl ho2 _ zs rfl hb2 h63 hw2 ?_)
  intro a3 p3 w3 ho3 hg3 hat3
  have B3 : Below WW.heap.size WW w3 := hB2.trans (Fr.grown_below hg3 hw2 (Fr.Ow.from ho2))
  rw [← List.length_append] at ho3
  rw [← List.length_append]
  clear ho2 hg3 hat3 hB2 hb2 hny hnl h63 CM hbW
  generalize nb ++ zs = nz at *
  go_wp2_with fail
  refine (CE _ nz _ ho3.bs HYN.out.1 HYN.out.2).mono ?_
  rintro e w4 ⟨a4, p4, rfl, ho4, hB4⟩
  have B4 : Below WW.heap.size WW w4 := B3.trans (hB4.mono B3.size)
  have HO4 : Hid (Ow w4 WW.heap.size (.slice a4 (Fr.recN nz).length p4) (Fr.recN nz)) := Ow.mono ho4 B3.size
  rw [← HN.out] at HO4 ⊢
  clear ho4 hB4 B3 ho3 HN HYN CE
  generalize Fr.entN ((es.length : Int) + 1) zs = rc at *
  have hX4 : XRes w D F lb wb pre s2 es ss s3 false w4 := by
    obtain ⟨D1, F1, h1, h2, h3, h4⟩ := HX.out
    exact XRes.then h2 h3 h4 (XRes.refl h1 B4)
  obtain ⟨F4, ev4, sv4, hl4⟩ := hX4.log
  have d0 : w4.cell? ⟨lb, 0, none⟩ = some (.pointer (some ⟨wb, 0, none⟩)) := hl4.blk.cell 0
  have d1 : w4.cell? ⟨lb, 1, none⟩ = some (encStr pre) := hl4.blk.cell 1
  have hll := hl4.blk.lt
  clear hX4 hl4
  go_wp2_with fail
  go_region_held3 (fun u => u.cell? ⟨lb, 0, none⟩ = some (.pointer (some ⟨wb, 0, none⟩)) ∧ u.cell? ⟨lb, 1, none⟩ = some (encStr pre)) (first | exact ⟨d0, d1⟩ | assumption)
    (first
      | (go_at_call 28; refine (CN _).mono ?_; rintro e w5 ⟨rfl, hB5⟩; replace hB5 : Below w4.heap.size w4 w5 := ⟨hB5.os, hB5.tape, hB5.output, hB5.size, hB5.block⟩; have ht5 := And.intro (cell_below hB5 d0 hll) (cell_below hB5 d1 hll))
      | (go_at_call 30; refine (HW.out WW w4 w5 a4 p4 HX.out B4 HO4.out hB5).mono ?_; rintro e w6 ⟨rfl, hX6⟩; obtain ⟨F6, ev6, sv6, hl6⟩ := hX6.log; have ht6 := And.intro (hl6.blk.cell 0) (hl6.blk.cell 1)))
  have HX6 := hid_into hX6
  clear hX6 ht5 ht6 hB5 B4 HO4 HW CN d0 d1
  by_cases h0 : r1 = 0
  · subst h0
    clear hl6
    obtain ⟨a6, p6, c36, hseg, HT⟩ := HX6.out.segTab (es.length + 1) (by omega) hfs
    have hcl : (w6.alloc (.cells #[.int .i64 ((es.length : Int) + 1)] 3)).cell? ⟨w6.heap.size, 0, none⟩ = some (.int .i64 ((es.length : Int) + 1)) := by
      rw [cell_of_row _ _ 0 _ _ _ (heap_alloc_new w6 _)]; rfl
    have hn9 : ss.length ≤ 1000000000 := by omega
    have HTT := hid_into HT
    have hWs : (w6.alloc (.cells #[.int .i64 ((es.length : Int) + 1)] 3)).heap.size = w6.heap.size + 1 := World.size_alloc _ _
    have HWS := hid_into hWs
    clear HT HX6 hWs
    go_wp2_with (at_builtin; refine wpList_append_num _ rfl (.tmp 89) (.tmp 91) rfl (.slice a6 ss.length p6) ss.length (numsOf ss) (by rfl) hseg w6.heap.size (.int .i64 ((es.length : Int) + 1)) rfl (by rfl) hcl hn9 ?_)
    intro a8 p8 w8 hrow hg8 hat8
    obtain ⟨c8, z8, hX7⟩ := HTT.out w8 a8 p8 hrow hg8 (by first | exact hat8 | (rw [HWS.out] at hat8; exact hat8))
    have HX7 := hid_into hX7
    clear hX7 hrow hg8 hat8 HTT hseg hcl HWS c36
    go_wp2_with fail
    generalize w8.setCell ⟨lb, 3, none⟩ (.slice a8 (ss.length + 1) p8) = w7 at *
    have hX7 := HX7.out
    have hb7 := hX7.bs HB.out hk
    obtain ⟨D3, F3, h1, h2, h3, h4⟩ := hX7
    obtain ⟨ev3, sv3, hl3⟩ := h1.l
    obtain ⟨ae3, ce3, hev⟩ := hl3.evform
    subst hev
    have e2 : w7.cell? ⟨lb, 2, none⟩ = some (.slice ae3 es.length ce3) := hl3.blk.cell 2
    have HHa := hid_into h1
    have H2 := hid_into h2
    have H3 := hid_into h3
    have H4 := hid_into h4
    have HL := hid_into hl3
    have HB3 := hid_into hb7
    clear h1 h2 h3 h4 hl3 hb7
    have hS : w7.drew.cell? ⟨lb, 2, none⟩ = some (.slice ae3 es.length ce3) := e2
    refine wp_region_L 12 (fun w' => w'.cell? ⟨lb, 2, none⟩ = some (.slice ae3 es.length ce3)) (by kernel_rfl) ?_
    refine' wpL_take 0 95 rfl rfl (by kernel_rfl) (by kernel_rfl) (by kernel_rfl) (by kernel_rfl) (fun _ _ _ h => h) (by rfl) hS ?y95 ?r95
    case y95 => (intro u hSu; (try dsimp only at hSu); go_simp; try with_reducible rfl)
    simp only [Act.put, List.setIfInBounds_toArray, List.set_cons_zero, List.set_cons_succ]
    refine' wpL_take 1 96 rfl rfl (by kernel_rfl) (by kernel_rfl) (by kernel_rfl) (by kernel_rfl) (fun _ _ _ h => h) (by rfl) hS ?y96 ?r96
    case y96 => (intro u hSu; (try dsimp only at hSu); go_simp; try with_reducible rfl)
    simp only [Act.put, List.setIfInBounds_toArray, List.set_cons_zero, List.set_cons_succ]
    refine' wpL_take 2 97 rfl rfl (by kernel_rfl) (by kernel_rfl) (by kernel_rfl) (by kernel_rfl) (fun _ _ _ h => h) (by rfl) hS ?y97 ?r97
    case y97 => (intro u hSu; (try dsimp only at hSu); go_simp; try with_reducible rfl)
    simp only [Act.put, List.setIfInBounds_toArray, List.set_cons_zero, List.set_cons_succ]
    refine' wpL_take 3 98 rfl rfl (by kernel_rfl) (by kernel_rfl) (by kernel_rfl) (by kernel_rfl) (fun _ _ _ h => h) (by rfl) hS ?y98 ?r98
    case y98 => (intro u hSu; (try dsimp only at hSu); go_simp; try with_reducible rfl)
    simp only [Act.put, List.setIfInBounds_toArray, List.set_cons_zero, List.set_cons_succ]
    refine' wpL_take 4 99 rfl rfl (by kernel_rfl) (by kernel_rfl) (by kernel_rfl) (by kernel_rfl) (fun _ _ _ h => h) (by rfl) hS ?y99 ?r99
    case y99 => (intro u hSu; (try dsimp only at hSu); go_simp; try with_reducible rfl)
    simp only [Act.put, List.setIfInBounds_toArray, List.set_cons_zero, List.set_cons_succ]
    refine' wpL_take 6 101 rfl rfl (by kernel_rfl) (by kernel_rfl) (by kernel_rfl) (by kernel_rfl) (fun _ _ _ h => h) (by rfl) hS ?y101 ?r101
    case y101 => (intro u hSu; (try dsimp only at hSu); go_simp; try with_reducible rfl)
    simp only [Act.put, List.setIfInBounds_toArray, List.set_cons_zero, List.set_cons_succ]
    refine wpL_one (i := 5) (by kernel_rfl) rfl (fun K hK => ?_)
    rw [if_pos (by rfl)]
    go_simp
    have hA8 : Below w7.heap.size w7 (w7.drew.alloc (.cells #[] 5)) := (show Below w7.heap.size w7 w7.drew from ⟨rfl, rfl, rfl, Nat.le_refl _, fun _ _ => rfl⟩).alloc (Nat.le_refl _) _
    have hl8 := HL.out.below hA8
    have ho8 : Ow (w7.drew.alloc (.cells #[] 5)) w7.heap.size (.slice (some ⟨w7.heap.size, 0, none⟩) 0 0) [] := Ow_of_block (heap_alloc_new w7.drew _) (by simp) (Nat.le_refl _)
    have hbs8 : Bs (w7.drew.alloc (.cells #[] 5)) (.slice ao zs.length cap) zs := HB3.out.below hA8 (Nat.le_refl _)
    refine hK.out _ _ (fun _ => hl8.blk.cell 2) ?_
    clear hK K
    refine wpL_one (i := 7) (by kernel_rfl) rfl (fun K hK => ?_)
    refine step_append_bs rfl (.tmp 100) (.tmp 101) rfl w7.heap.size _ [] rfl ho8 (.slice ao zs.length cap) zs rfl hbs8 (by simp; omega) hA8.size ?_
    intro a9 p9 w9 ho9 hg9 hat9
    simp only [List.length_nil, Nat.zero_add, List.nil_append] at ho9 hat9 ⊢
    have hB9 : Below w7.heap.size w7 w9 := hA8.trans (Fr.grown_below hg9 hA8.size (Fr.Ow.from ho8))
    have hl9 := HL.out.below hB9
    refine hK.out _ _ (fun _ => hl9.blk.cell 2) ?_
    change wpL Tryz.prog _ _ _ _ _ _ _ (Act.put _ (some 102) _) _
    clear hK K
    simp only [Act.put, List.setIfInBounds_toArray, List.set_cons_zero, List.set_cons_succ]
    refine wpL_one (i := 8) (by kernel_rfl) rfl (fun K hK => ?_)
    refine step_made_row rfl (.tmp 102) rfl a9 zs.length p9 rfl ?_
    have hA5 : Below w7.heap.size w7 (w9.alloc (.cells #[.slice a9 zs.length p9] 38)) := hB9.alloc hB9.size _
    have hl5 := HL.out.below hA5
    refine hK.out _ _ (fun _ => hl5.blk.cell 2) ?_
    change wpL Tryz.prog _ _ _ _ _ _ _ (Act.put _ (some 103) _) _
    clear hK K
    simp only [Act.put, List.setIfInBounds_toArray, List.set_cons_zero, List.set_cons_succ]
    refine wpL_one (i := 9) (by kernel_rfl) rfl (fun K hK => ?_)
    refine step_append_en rfl (.tmp 99) (.tmp 103) rfl (.slice ae3 es.length ce3) es.length (enOf es) rfl hl5.ent w9.heap.size (.slice a9 zs.length p9) rfl rfl (by rw [cell_of_row _ _ 0 _ _ _ (heap_alloc_new w9 _)]; rfl) (by omega) ?_
    intro ao6 cap6 wa ho6 hg6 hat6
    have hb6 := hl5.blk.keep (hg6.block lb hl5.blk.lt fun e => (hl5.sep.1 lb e.symm).2.1 rfl)
    have c6b : wa.cell? ⟨lb, 2, none⟩ = some (.slice ae3 es.length ce3) := hb6.cell 2
    have f6b := hb6.frozen 2
    refine hK.out _ _ (fun _ => c6b) ?_
    change wpL Tryz.prog _ _ _ _ _ _ _ (Act.put _ (some 104) _) _
    clear hK K
    simp only [Act.put, List.setIfInBounds_toArray, List.set_cons_zero, List.set_cons_succ]
    have hcb : ∀ k, (Value.slice a9 zs.length p9).ownBlock = some k → w7.heap.size ≤ k ∧ k < (w9.alloc (.cells #[.slice a9 zs.length p9] 38)).heap.size := fun k hk => by
      have := World.ownsRow.lt ho9 k hk
      rw [World.size_alloc]
      exact ⟨this.1, by omega⟩
    have hcv : Bs (w9.alloc (.cells #[.slice a9 zs.length p9] 38)) (.slice a9 zs.length p9) zs := (Ow.bs ho9).keep fun k _ hk => Below.heap_alloc _ _ _ hk
    have HR : Hid (XRes w D F lb wb pre r2 (es ++ [(.slice a9 zs.length p9, zs)]) (ss ++ [es.length + 1]) s3 false (wa.setCell ⟨lb, 2, none⟩ (.slice ao6 (es.length + 1) cap6))) := XRes.addE HHa.out H2.out H3.out H4.out HL.out hA5 _ zs hcv hy (by omega) hcb _ ho6 hg6 hat6 hfe
    clear HHa H2 H3 H4 HL hA5 hcv hcb ho6 hg6 hat6 hb6 hl8 hl9 hl5 ho8 ho9 hg9 hat9 hB9 hA8 hbs8 HB3
    refine wpL_one (i := 10) (by kernel_rfl) rfl (fun K hK => ?_)
    rw [if_pos (by rfl)]
    go_simp
    refine hK.out _ _ (fun _ => c6b) ?_
    clear hK K
    refine wpL_one (i := 11) (by kernel_rfl) rfl (fun K hK => ?_)
    rw [if_pos (by rfl)]
    go_simp
    refine hK.out _ _ (fun _ => c6b) ?_
    clear hK K
    refine wpL_one (i := 12) (by kernel_rfl) rfl (fun K hK => ?_)
    rw [if_pos (by rfl)]
    go_simp
    refine hK.out _ _ (fun e => absurd rfl e) ?_
    clear hK K
    refine wpL_done (by kernel_rfl) ?_ _
    go_wp2_with fail
    go_ret2
    exact Or.inr ⟨rfl, rfl, _, HR.out⟩
  · have h7 : (r1 == 0) = false := beq_eq_false_iff_ne.2 h0
    have CF := fail_any r1 w6 hl6
    have HR : Hid (ApP w D F lb wb pre es zs ss (ss ++ [es.length + 1]) s3 (r1, r2) (.returned (.tuple #[.int .i64 0, .int .i64 r1])) (if r1 = 6 then w6 else w6.setCell ⟨lb, 5, none⟩ (.bool true))) := by
      refine Or.inl ⟨h0, rfl, ?_⟩
      show XRes w D F lb wb pre r2 es ss s3 (if r1 = 6 then false else true) _
      by_cases h6 : r1 = 6
      · rw [if_pos h6, if_pos h6]; exact HX6.out
      · rw [if_neg h6, if_neg h6]; exact HX6.out.cell 5 _ fun _ _ _ hh => hh.kill
    clear hl6
    go_wp2_with fail
    refine CF.mono ?_
    rintro e w8 ⟨rfl, hw8⟩
    rw [← hw8] at HR
    clear hw8 CF
    go_wp2_with fail
    go_ret2
    exact HR.out
end Go.Proofs.YtnkjhooeklodcaaGreatDoor
end

section
/-
  What stands in a segment is one thing alone; the opening in plain words.
-/
namespace Go.Proofs.YtnkjhooeklodcaaGreatDoor
open Go.RowKit Go.Maps Go.Sort
open Fr (Rw2 Osl bytesOf2 Sc takeR decN decE decP numR)

theorem Tk.uniq : ∀ {ps qs : List (List Int)} {n : Nat} {zs : List Int} {m k : Nat}, Tk n zs ps m → takeR (((n + ps.length : Nat) : Int) + 1) (zs.drop m) = none → Tk n zs qs k → takeR (((n + qs.length : Nat) : Int) + 1) (zs.drop k) = none → ps = qs ∧ m = k
  | [], [], _, _, m, k, h1, _, h2, _ => by
    have e1 : m = 0 := h1
    have e2 : k = 0 := h2
    exact ⟨rfl, by omega⟩
  | [], q :: qs, n, zs, m, k, h1, h3, h2, _ => by
    have e1 : m = 0 := h1
    subst e1
    obtain ⟨h4, _⟩ := h2
    simp at h3
    rw [h3] at h4
    cases h4
  | p :: ps, [], n, zs, m, k, h1, _, h2, h3 => by
    have e1 : k = 0 := h2
    subst e1
    obtain ⟨h4, _⟩ := h1
    simp at h3
    rw [h3] at h4
    cases h4
  | p :: ps, q :: qs, n, zs, m, k, ⟨a1, a2, a3⟩, h3, ⟨b1, b2, b3⟩, h4 => by
    rw [a1] at b1
    have hpq : p = q := Option.some.inj b1
    have e1 : zs.drop m = (zs.drop (decN zs)).drop (m - decN zs) := by rw [List.drop_drop]; congr 1; omega
    have e2 : zs.drop k = (zs.drop (decN zs)).drop (k - decN zs) := by rw [List.drop_drop]; congr 1; omega
    have l1 : n + (p :: ps).length = (n + 1) + ps.length := by simp; omega
    have l2 : n + (q :: qs).length = (n + 1) + qs.length := by simp; omega
    rw [l1, e1] at h3
    rw [l2, e2] at h4
    obtain ⟨r1, r2⟩ := Tk.uniq a3 h3 b3 h4
    exact ⟨by rw [hpq, r1], by omega⟩
theorem Tk.len {ps : List (List Int)} : ∀ {n : Nat} {zs : List Int} {m : Nat}, Tk n zs ps m → ∀ p ∈ ps, p.length ≤ 65536 := by
  induction ps with
  | nil => intro n zs m _ p hp; cases hp
  | cons q ps ih =>
    intro n zs m ⟨h1, _, h3⟩ p hp
    rcases List.mem_cons.1 hp with rfl | hp
    · exact (takeR_some h1).2
    · exact ih h3 p hp
/-- There is such a reading of every row of bytes. -/
theorem Tk.exists : ∀ (f n : Nat) (zs : List Int), zs.length ≤ f → ∃ ps m, Tk n zs ps m ∧ takeR (((n + ps.length : Nat) : Int) + 1) (zs.drop m) = none
  | 0, n, zs, h => by
    obtain rfl : zs = [] := List.eq_nil_of_length_eq_zero (by omega)
    refine ⟨[], 0, rfl, ?_⟩
    unfold Fr.takeR
    rw [if_neg]
    intro h
    have := Fr.decE_nil
    simp at h
    omega
  | f + 1, n, zs, h => by
    cases ht : takeR ((n : Int) + 1) zs with
    | none => exact ⟨[], 0, rfl, by simpa using ht⟩
    | some p =>
      have hd := (takeR_some ht).1
      have hl := Fr.decN_le zs
      obtain ⟨ps, m, h1, h2⟩ := Tk.exists f (n + 1) (zs.drop (decN zs)) (by rw [List.length_drop]; omega)
      refine ⟨p :: ps, decN zs + m, ⟨ht, by omega, ?_⟩, ?_⟩
      · rw [show decN zs + m - decN zs = m by omega]; exact h1
      · rw [List.drop_drop] at h2
        rw [show n + (p :: ps).length = n + 1 + ps.length by simp; omega]
        exact h2
/-- What stands in a segment: its entries from number n + 1 on, and how many bytes they have. -/
noncomputable def rdF (n : Nat) (zs : List Int) : List (List Int) × Nat := (Classical.choose (Tk.exists zs.length n zs (Nat.le_refl _)), Classical.choose (Classical.choose_spec (Tk.exists zs.length n zs (Nat.le_refl _))))
theorem rdF_spec (n : Nat) (zs : List Int) : Tk n zs (rdF n zs).1 (rdF n zs).2 ∧ takeR (((n + (rdF n zs).1.length : Nat) : Int) + 1) (zs.drop (rdF n zs).2) = none := Classical.choose_spec (Classical.choose_spec (Tk.exists zs.length n zs (Nat.le_refl _)))
theorem rdF_eq {n : Nat} {zs : List Int} {ps : List (List Int)} {m : Nat} (h1 : Tk n zs ps m) (h2 : takeR (((n + ps.length : Nat) : Int) + 1) (zs.drop m) = none) : rdF n zs = (ps, m) := by
  obtain ⟨k1, k2⟩ := rdF_spec n zs
  obtain ⟨e1, e2⟩ := Tk.uniq k1 k2 h1 h2
  exact Prod.ext e1 e2
/-- What read answers, in plain words. -/
theorem ReadP.plain {w w' : World} {n : Nat} {zs : List Int} {e : Ending} (h : ReadP w n zs e w') (hn : 1 ≤ n) : ∃ ao cap, ∃ (rs : List Rw2), e = .returned (.tuple #[.slice ao rs.length cap, .int .i64 ((rdF (n - 1) zs).2 : Int), .bool (decide ((rdF (n - 1) zs).2 = zs.length))]) ∧ Osl w' w.heap.size (.slice ao rs.length cap) rs ∧ bytesOf2 rs = (rdF (n - 1) zs).1 ∧ Below w.heap.size w w' := by
  obtain ⟨ao, cap, rs, m, b, rfl, h1, h2, h3⟩ := h
  obtain ⟨k1, k2, rfl⟩ := h2 hn
  have hb : (bytesOf2 rs).length = rs.length := Fr.bytesOf2_len rs
  have := rdF_eq k1 (by
    rw [hb]
    have e1 : (((n - 1 + rs.length : Nat) : Int) + 1) = (n : Int) + rs.length := by omega
    rw [e1]; exact k2)
  rw [this]
  exact ⟨ao, cap, rs, rfl, h1, rfl, h3⟩
/-- One of the five for each name, up to the first error. -/
def allU (f : Nm → Us → Int × Us) (u : Ud) : List Nm → Int × Ud
  | [] => (0, u)
  | x :: xs => if (u.five [x] (f x)).1 = 0 then allU f (u.five [x] (f x)).2 xs else u.five [x] (f x)
theorem allU_ok {f : Nm → Us → Int × Us} {u : Ud} {x : Nm} {xs : List Nm} (h : (u.five [x] (f x)).1 = 0) : allU f u (x :: xs) = allU f (u.five [x] (f x)).2 xs := if_pos h
theorem allU_err {f : Nm → Us → Int × Us} {u : Ud} {x : Nm} {xs : List Nm} (h : ¬ (u.five [x] (f x)).1 = 0) : allU f u (x :: xs) = u.five [x] (f x) := if_neg h
/-- An opening's reading and mending: the names that are left, the number that comes next; the error and the disk behind it, the entries, the segments' numbers. -/
noncomputable def opF (pre : List UInt8) (u : Ud) : List Nm → Nat → (Int × Ud) × List (List Int) × List Nat
  | [], _ => ((0, u), [], [])
  | x :: xs, next =>
    if numV (x.drop pre.length) = next ∧ (rdF (next - 1) (at0U u.us x).1).2 = (at0U u.us x).1.length then
      ((opF pre u xs (next + (rdF (next - 1) (at0U u.us x).1).1.length)).1, (rdF (next - 1) (at0U u.us x).1).1 ++ (opF pre u xs (next + (rdF (next - 1) (at0U u.us x).1).1.length)).2.1, next :: (opF pre u xs (next + (rdF (next - 1) (at0U u.us x).1).1.length)).2.2)
    else if (allU rmU u xs.reverse).1 ≠ 0 then (allU rmU u xs.reverse, [], [])
    else if numV (x.drop pre.length) ≠ next ∨ (rdF (next - 1) (at0U u.us x).1).2 = 0 then ((allU rmU u xs.reverse).2.five [x] (rmU x), [], [])
    else ((allU rmU u xs.reverse).2.five [x] (cuU x ((rdF (next - 1) (at0U u.us x).1).2 : Int)), (rdF (next - 1) (at0U u.us x).1).1, [next])
/-- An opening, whole: the error and the disk behind it, the entries, the segments' numbers. -/
noncomputable def openF (pre : List UInt8) (u : Ud) : (Int × Ud) × List (List Int) × List Nat :=
  if (opF pre u (segsN (u.us.map (·.1)) pre) 1).1.1 ≠ 0 then opF pre u (segsN (u.us.map (·.1)) pre) 1
  else (allU syU (opF pre u (segsN (u.us.map (·.1)) pre) 1).1.2 (namesN pre (opF pre u (segsN (u.us.map (·.1)) pre) 1).2.2), (opF pre u (segsN (u.us.map (·.1)) pre) 1).2)
end Go.Proofs.YtnkjhooeklodcaaGreatDoor
end

section
/-
  Names and numbers of segments; files' lengths; what an opening leaves, in plain words. No walk.
-/
namespace Go.Proofs.YtnkjhooeklodcaaGreatDoor
open Go.RowKit Go.Maps Go.Sort

theorem numV_rep (k : Nat) (l : List UInt8) : numV (List.replicate k 48 ++ l) = numV l := by
  induction k with
  | zero => rfl
  | succ k ih => rw [List.replicate_succ, List.cons_append]; exact ih
theorem dig_of (r : Nat) (h : r < 10) : dig (UInt8.ofNat (48 + r)) = true ∧ (UInt8.ofNat (48 + r)).toNat - 48 = r := by
  have e : (UInt8.ofNat (48 + r)).toNat = 48 + r := by rw [UInt8.toNat_ofNat']; omega
  unfold dig
  rw [e]
  refine ⟨?_, by omega⟩
  rw [decide_eq_true (by omega), decide_eq_true (by omega)]; rfl
theorem numV_dec (n : Nat) : numV (Lib.decDigits n) = n ∧ ∀ d ∈ Lib.decDigits n, dig d = true := by
  induction n using Nat.strongRecOn with
  | ind n ih =>
    by_cases h : n < 10
    · have e : Lib.decDigits n = [UInt8.ofNat (48 + n)] := by rw [Lib.decDigits, dif_pos h]
      rw [e]
      obtain ⟨h1, h2⟩ := dig_of n h
      refine ⟨?_, fun d hd => ?_⟩
      · rw [show numV [UInt8.ofNat (48 + n)] = 0 * 10 + ((UInt8.ofNat (48 + n)).toNat - 48) from rfl, h2]; omega
      · rw [List.mem_singleton.1 hd]; exact h1
    · rw [decDigits_more h]
      obtain ⟨i1, i2⟩ := ih (n / 10) (by omega)
      obtain ⟨h1, h2⟩ := dig_of (n % 10) (by omega)
      refine ⟨by rw [numV_snoc, i1, h2]; omega, fun d hd => ?_⟩
      rcases List.mem_append.1 hd with hd | hd
      · exact i2 d hd
      · rw [List.mem_singleton.1 hd]; exact h1
theorem numV_inj : ∀ (k : Nat) (t s : List UInt8), t.length = k → s.length = k → (∀ d ∈ t, dig d = true) → (∀ d ∈ s, dig d = true) → numV t = numV s → t = s
  | 0, t, s, ht, hs, _, _, _ => by rw [List.eq_nil_of_length_eq_zero ht, List.eq_nil_of_length_eq_zero hs]
  | k + 1, t, s, ht, hs, h1, h2, he => by
    rcases List.eq_nil_or_concat t with rfl | ⟨t', d, rfl⟩
    · simp at ht
    rcases List.eq_nil_or_concat s with rfl | ⟨s', e, rfl⟩
    · simp at hs
    simp only [List.concat_eq_append] at *
    rw [numV_snoc, numV_snoc] at he
    have d1 := h1 d (by simp)
    have d2 := h2 e (by simp)
    unfold dig at d1 d2
    simp only [Bool.and_eq_true, decide_eq_true_eq] at d1 d2
    have e1 : d = e := UInt8.toNat_inj.1 (by omega)
    have e2 : t' = s' := numV_inj k t' s' (by simpa using ht) (by simpa using hs) (fun x hx => h1 x (by simp [hx])) (fun x hx => h2 x (by simp [hx])) (by omega)
    rw [e1, e2]
theorem lkU_dl (x y : Nm) : ∀ us : Us, lkU (dlU us y) x = if x = y then none else lkU us x
  | [] => by simp [lkU, dlU]
  | p :: r => by
    have ih := lkU_dl x y r
    rw [dlU_cons]
    by_cases hp : p.1 = y
    · rw [if_pos hp, ih, lkU_cons]
      by_cases hx : x = y
      · rw [if_pos hx, if_pos hx]
      · rw [if_neg hx, if_neg hx, if_neg (fun e => hx (e.symm.trans hp))]
    · rw [if_neg hp, lkU_cons, ih, lkU_cons]
      by_cases hx : x = y
      · rw [if_pos hx, if_pos hx, if_neg (fun e => hp (e.trans hx))]
      · rw [if_neg hx, if_neg hx]
theorem lkU_ins (x y : Nm) (f : List Int × Nat) : ∀ us : Us, (∀ q ∈ us, q.1 ≠ y) → lkU (insU y f us) x = if x = y then some f else lkU us x
  | [], _ => by
    rw [insU, lkU_cons]
    by_cases hx : x = y
    · rw [if_pos hx.symm, if_pos hx]
    · rw [if_neg (Ne.symm hx), if_neg hx]
  | p :: r, h => by
    have ih := lkU_ins x y f r fun q hq => h q (List.mem_cons_of_mem _ hq)
    have hp := h p (by simp)
    simp only [insU]
    split
    · rw [lkU_cons]
      by_cases hx : x = y
      · rw [if_pos hx.symm, if_pos hx]
      · rw [if_neg (Ne.symm hx), if_neg hx]
    · rw [lkU_cons, ih, lkU_cons]
      by_cases hx : x = y
      · rw [if_pos hx, if_pos hx, if_neg (fun e => hp (e.trans hx))]
      · rw [if_neg hx, if_neg hx]
theorem lkU_pt (us : Us) (x y : Nm) (f : List Int × Nat) : lkU (ptU us y f) x = if x = y then some f else lkU us x := by
  unfold ptU
  rw [lkU_ins x y f _ dlU_ne, lkU_dl]
  split <;> rfl
theorem nameN_form (pre : List UInt8) (n : Nat) (h : n < 100000000) : ∃ t, nameN pre n = pre ++ t ∧ t.length = 8 ∧ (∀ d ∈ t, dig d = true) ∧ numV t = n := by
  have h8 := decDigits_len8 n h
  obtain ⟨h1, h2⟩ := numV_dec n
  refine ⟨_, nameN_pad pre n h, by simp; omega, fun d hd => ?_, by rw [numV_rep]; exact h1⟩
  rcases List.mem_append.1 hd with hd | hd
  · rw [List.eq_of_mem_replicate hd]; decide
  · exact h2 d hd
theorem seg_form {pre x : List UInt8} (h : isSeg x pre = true) : ∃ t, x = pre ++ t ∧ t.length = 8 ∧ (∀ d ∈ t, dig d = true) ∧ x.drop pre.length = t := by
  unfold isSeg at h
  rw [Bool.and_eq_true, Bool.and_eq_true, beq_iff_eq, seg_all] at h
  obtain ⟨h1, h2, h3⟩ := h
  have ht : Lib.trimPrefix x pre = x.drop pre.length := by unfold Lib.trimPrefix; rw [if_pos h1]
  rw [ht] at h2 h3
  have hp := hasPre h1
  refine ⟨x.drop pre.length, ?_, h2, fun d hd => List.all_eq_true.1 h3 d hd, rfl⟩
  have := List.take_append_drop pre.length x
  rw [hp] at this
  exact this.symm
theorem seg_name {pre x : List UInt8} (h : isSeg x pre = true) {n : Nat} (hn : n < 100000000) : x = nameN pre n ↔ numV (x.drop pre.length) = n := by
  obtain ⟨t, hx, h8, hd, he⟩ := seg_form h
  obtain ⟨s, hs, s8, sd, sn⟩ := nameN_form pre n hn
  rw [he]
  constructor
  · intro e
    rw [hx, hs] at e
    rw [List.append_cancel_left e]; exact sn
  · intro e
    rw [hx, hs, numV_inj 8 t s h8 s8 hd sd (by rw [e, sn])]
/-- How long a file is. -/
def lenU (us : Us) (x : Nm) : Nat := (at0U us x).1.length
/-- How long files are, together. -/
def tU (us : Us) (xs : List Nm) : Nat := (xs.map (lenU us)).sum
theorem lkU_of_mem : ∀ {us : Us}, RisU us → ∀ {p : List UInt8 × List Int × Nat}, p ∈ us → lkU us p.1 = some p.2
  | [], _, p, hp => by cases hp
  | q :: r, h, p, hp => by
    obtain ⟨h1, h2⟩ := List.pairwise_cons.1 h
    rw [lkU_cons]
    rcases List.mem_cons.1 hp with rfl | hp
    · rw [if_pos rfl]
    · rw [if_neg (bef_ne (h1 p hp)), lkU_of_mem h2 hp]
theorem lenU_of_mem {us : Us} (h : RisU us) {p : List UInt8 × List Int × Nat} (hp : p ∈ us) : lenU us p.1 = p.2.1.length := by
  unfold lenU at0U; rw [lkU_of_mem h hp]; rfl
theorem tU_filter {us : Us} (h : RisU us) (f : Nm → Bool) : tU us ((us.map (·.1)).filter f) ≤ totU us := by
  suffices H : ∀ r : Us, (∀ p ∈ r, p ∈ us) → tU us ((r.map (·.1)).filter f) ≤ totU r from H us fun p hp => hp
  intro r
  induction r with
  | nil => intro _; exact Nat.le_refl _
  | cons q r ih =>
    intro hm
    have i := ih fun p hp => hm p (List.mem_cons_of_mem _ hp)
    have e := lenU_of_mem h (hm q (by simp))
    have e2 : totU (q :: r) = q.2.1.length + totU r := by simp [totU]
    rw [List.map_cons, List.filter_cons, e2]
    split
    · have e3 : tU us (q.1 :: (r.map (·.1)).filter f) = lenU us q.1 + tU us ((r.map (·.1)).filter f) := by simp [tU]
      rw [e3]; omega
    · omega
theorem tU_cons (us : Us) (x : Nm) (xs : List Nm) : tU us (x :: xs) = lenU us x + tU us xs := by simp [tU]
theorem rdF_le (n : Nat) (zs : List Int) : (rdF n zs).1.length ≤ (rdF n zs).2 ∧ (rdF n zs).2 ≤ zs.length := ⟨(rdF_spec n zs).1.many, (rdF_spec n zs).1.le⟩
theorem opF_few (pre : List UInt8) (u : Ud) : ∀ (xs : List Nm) (next : Nat), (opF pre u xs next).2.1.length ≤ tU u.us xs ∧ (opF pre u xs next).2.2.length ≤ xs.length
  | [], next => ⟨Nat.le_refl _, Nat.le_refl _⟩
  | x :: xs, next => by
    obtain ⟨r1, r2⟩ := rdF_le (next - 1) (at0U u.us x).1
    have hl : (at0U u.us x).1.length = lenU u.us x := rfl
    rw [tU_cons]
    simp only [opF]
    split
    · obtain ⟨i1, i2⟩ := opF_few pre u xs (next + (rdF (next - 1) (at0U u.us x).1).1.length)
      simp only [List.length_append, List.length_cons]
      omega
    · split
      · simp
      · split
        · simp
        · simp only [List.length_cons, List.length_nil]
          omega
/-- What the five leave: the files as they were, or what is done. -/
theorem five_us (u : Ud) (ns : List Nm) (f : Us → Int × Us) : (u.five ns f).2.us = u.us ∨ (u.five ns f).2.us = (f u.us).2 := by
  unfold Ud.five
  split
  · exact Or.inl rfl
  · exact Or.inr rfl
theorem five_done {u : Ud} {ns : List Nm} {f : Us → Int × Us} (h : (u.five ns f).1 = 0) : (f u.us).1 = 0 ∧ (u.five ns f).2.us = (f u.us).2 := by
  unfold Ud.five at h ⊢
  split at h
  · exact absurd h (by assumption)
  · rw [if_neg (by assumption)]
    exact ⟨h, rfl⟩
theorem rm_else (u : Ud) {x y : Nm} (h : x ≠ y) : at0U (u.five [y] (rmU y)).2.us x = at0U u.us x := by
  rcases five_us u [y] (rmU y) with e | e
  · rw [e]
  · rw [e]
    unfold rmU at0U
    cases lkU u.us y with
    | none => rfl
    | some f => simp only; rw [lkU_dl, if_neg h]
theorem cut_else (u : Ud) {x y : Nm} (m : Int) (h : x ≠ y) : at0U (u.five [y] (cuU y m)).2.us x = at0U u.us x := by
  rcases five_us u [y] (cuU y m) with e | e
  · rw [e]
  · rw [e]
    unfold cuU at0U
    cases lkU u.us y with
    | none => rfl
    | some f =>
      simp only
      split
      · rfl
      · rw [lkU_pt, if_neg h]
theorem cut_len {u : Ud} {x : Nm} {m : Nat} (h : (u.five [x] (cuU x (m : Int))).1 = 0) : lenU (u.five [x] (cuU x (m : Int))).2.us x = m ∧ m ≤ lenU u.us x := by
  obtain ⟨h1, h2⟩ := five_done h
  unfold lenU
  rw [h2]
  unfold cuU at h1 ⊢
  unfold at0U
  cases hl : lkU u.us x with
  | none => rw [hl] at h1; cases h1
  | some f =>
    rw [hl] at h1
    simp only at h1 ⊢
    by_cases hc : (m : Int) < 0 ∨ (f.1.length : Int) < (m : Int)
    · rw [if_pos hc] at h1; cases h1
    · rw [if_neg hc, lkU_pt, if_pos rfl]
      simp
      omega
theorem sync_bytes (u : Ud) (x y : Nm) : (at0U (u.five [y] (syU y)).2.us x).1 = (at0U u.us x).1 := by
  rcases five_us u [y] (syU y) with e | e
  · rw [e]
  · rw [e]
    unfold syU at0U
    cases hl : lkU u.us y with
    | none => rfl
    | some f =>
      simp only
      rw [lkU_pt]
      by_cases hx : x = y
      · rw [if_pos hx, hx, hl]; rfl
      · rw [if_neg hx]
theorem allU_rm_else {x : Nm} : ∀ (xs : List Nm) (u : Ud), x ∉ xs → at0U (allU rmU u xs).2.us x = at0U u.us x
  | [], u, _ => rfl
  | y :: ys, u, h => by
    have hx : x ≠ y := fun e => h (by rw [e]; simp)
    simp only [allU]
    split
    · rw [allU_rm_else ys _ fun e => h (List.mem_cons_of_mem _ e), rm_else u hx]
    · exact rm_else u hx
theorem allU_sync_bytes (x : Nm) : ∀ (xs : List Nm) (u : Ud), (at0U (allU syU u xs).2.us x).1 = (at0U u.us x).1
  | [], u => rfl
  | y :: ys, u => by
    simp only [allU]
    split
    · rw [allU_sync_bytes x ys, sync_bytes]
    · exact sync_bytes u x y
/-- The last segment's size, as the program keeps it. -/
noncomputable def opS (pre : List UInt8) (u : Ud) : List Nm → Nat → Nat → Nat
  | [], _, sz => sz
  | x :: xs, next, sz =>
    if numV (x.drop pre.length) = next ∧ (rdF (next - 1) (at0U u.us x).1).2 = (at0U u.us x).1.length then
      opS pre u xs (next + (rdF (next - 1) (at0U u.us x).1).1.length) (rdF (next - 1) (at0U u.us x).1).2
    else if numV (x.drop pre.length) ≠ next ∨ (rdF (next - 1) (at0U u.us x).1).2 = 0 then sz
    else (rdF (next - 1) (at0U u.us x).1).2
theorem opF_else (pre : List UInt8) (u : Ud) {x : Nm} : ∀ (xs : List Nm) (next : Nat), x ∉ xs → at0U (opF pre u xs next).1.2.us x = at0U u.us x
  | [], _, _ => rfl
  | y :: ys, next, h => by
    have hx : x ≠ y := fun e => h (by rw [e]; simp)
    have hy : x ∉ ys := fun e => h (List.mem_cons_of_mem _ e)
    have hr : x ∉ ys.reverse := fun e => hy (List.mem_reverse.1 e)
    simp only [opF]
    split
    · exact opF_else pre u ys _ hy
    · split
      · exact allU_rm_else _ u hr
      · split
        · rw [rm_else _ hx, allU_rm_else _ u hr]
        · rw [cut_else _ _ hx, allU_rm_else _ u hr]
theorem opS_nil (pre : List UInt8) (u : Ud) : ∀ (xs : List Nm) (next sz : Nat), (opF pre u xs next).1.1 = 0 → (opF pre u xs next).2.2 = [] → opS pre u xs next sz = sz
  | [], _, _, _, _ => rfl
  | y :: ys, next, sz, h0, h1 => by
    simp only [opF] at h0 h1
    simp only [opS]
    split at h1
    · cases h1
    · rename_i hc
      rw [if_neg hc] at h0 ⊢
      split at h1
      · rename_i he
        rw [if_pos he] at h0
        exact absurd h0 he
      · rename_i he
        rw [if_neg he] at h0
        split at h1
        · rename_i hn
          rw [if_pos hn]
        · cases h1
theorem opF_last (pre : List UInt8) (u : Ud) : ∀ (xs : List Nm) (next sz : Nat), xs.Nodup → (∀ x ∈ xs, isSeg x pre = true) → (opF pre u xs next).1.1 = 0 → (opF pre u xs next).2.2 ≠ [] → next + tU u.us xs < 100000000 → lenU (opF pre u xs next).1.2.us (nameN pre (lastS (opF pre u xs next).2.2)) = opS pre u xs next sz
  | [], _, _, _, _, _, h1, _ => absurd rfl h1
  | y :: ys, next, sz, hd, hs, h0, h1, hn => by
    obtain ⟨d1, d2⟩ := List.nodup_cons.1 hd
    have sy := hs y (by simp)
    obtain ⟨r1, r2⟩ := rdF_le (next - 1) (at0U u.us y).1
    have hl : (at0U u.us y).1.length = lenU u.us y := rfl
    rw [tU_cons] at hn
    simp only [opF] at h0 h1 ⊢
    simp only [opS]
    by_cases hc : numV (y.drop pre.length) = next ∧ (rdF (next - 1) (at0U u.us y).1).2 = (at0U u.us y).1.length
    · rw [if_pos hc] at h0 h1 ⊢
      rw [if_pos hc]
      simp only at h0 h1 ⊢
      cases hss : (opF pre u ys (next + (rdF (next - 1) (at0U u.us y).1).1.length)).2.2 with
      | nil =>
        rw [opS_nil pre u ys _ _ h0 hss]
        have e : lastS (next :: []) = next := rfl
        have ey : nameN pre next = y := ((seg_name sy (by omega)).2 hc.1).symm
        rw [e, ey]
        unfold lenU
        rw [opF_else pre u ys _ d1, hc.2]
      | cons a bs =>
        have e : lastS (next :: a :: bs) = lastS (a :: bs) := rfl
        rw [e, ← hss]
        exact opF_last pre u ys _ _ d2 (fun x hx => hs x (List.mem_cons_of_mem _ hx)) h0 (by rw [hss]; simp) (by omega)
    · rw [if_neg hc] at h0 h1 ⊢
      rw [if_neg hc]
      by_cases he : (allU rmU u ys.reverse).1 ≠ 0
      · rw [if_pos he] at h1
        exact absurd rfl h1
      · rw [if_neg he] at h0 h1 ⊢
        by_cases hm : numV (y.drop pre.length) ≠ next ∨ (rdF (next - 1) (at0U u.us y).1).2 = 0
        · rw [if_pos hm] at h1
          exact absurd rfl h1
        · rw [if_neg hm] at h0 h1 ⊢
          rw [if_neg hm]
          have e : lastS [next] = next := rfl
          have hnn : numV (y.drop pre.length) = next := Classical.byContradiction fun e => hm (Or.inl e)
          have ey : nameN pre next = y := ((seg_name sy (by omega)).2 hnn).symm
          simp only at h0 ⊢
          rw [e, ey]
          exact (cut_len h0).1
end Go.Proofs.YtnkjhooeklodcaaGreatDoor
end
