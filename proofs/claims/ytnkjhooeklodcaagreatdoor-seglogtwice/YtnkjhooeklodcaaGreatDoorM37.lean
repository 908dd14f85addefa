/-
  Joined from: SegXf, SegXn.
-/
import Derived.Test.YtnkjhooeklodcaaGreatDoorM36
section
/-
  The document's log: Append, as the first of a new segment.
-/
namespace Go.Proofs.YtnkjhooeklodcaaGreatDoor
open Go.RowKit Go.Maps Go.Sort

variable {w w' W : World} {D F : Nat → Prop} {lb wb : Nat} {u : Ud} {pre : List UInt8} {ev sv : Value} {es : List En} {ss : List Nat} {sure : Nat} {dead : Bool}
theorem XRes.segTab (h : XRes w D F lb wb pre u es ss sure dead W) (n : Nat) (hn8 : n < 100000000) (hf : ss.length + 1 ≤ 10000000) : ∃ a6 p6, W.cell? ⟨lb, 3, none⟩ = some (.slice a6 ss.length p6) ∧ (W.alloc (.cells #[.int .i64 (n : Int)] 3)).ownsRow 0 3 1 (.slice a6 ss.length p6) ss.length (numsOf ss) ∧
    ∀ w8 a8 p8, w8.ownsRow 0 3 1 (.slice a8 (ss.length + 1) p8) (ss.length + 1) (numsOf ss ++ [.int .i64 (n : Int)]) → (W.alloc (.cells #[.int .i64 (n : Int)] 3)).grownBy w8 (Value.slice a6 ss.length p6).ownBlock → ((Value.slice a8 (ss.length + 1) p8).ownBlock = (Value.slice a6 ss.length p6).ownBlock ∨ (Value.slice a8 (ss.length + 1) p8).ownBlock = some (W.heap.size + 1)) →
      w8.cell? ⟨lb, 3, none⟩ = some (.slice a6 ss.length p6) ∧ w8.frozen? ⟨lb, 3, none⟩ = false ∧ XRes w D F lb wb pre u es (ss ++ [n]) sure dead (w8.setCell ⟨lb, 3, none⟩ (.slice a8 (ss.length + 1) p8)) := by
  obtain ⟨D6, F6, k1, k2, k3, k4⟩ := h
  obtain ⟨ev6, sv6, hl6⟩ := k1.l
  obtain ⟨a6, p6, rfl⟩ := hl6.svform
  have hA : Below W.heap.size W (W.alloc (.cells #[.int .i64 (n : Int)] 3)) := (Below.refl _ _).alloc (Nat.le_refl _) _
  have hl7 := hl6.below hA
  refine ⟨a6, p6, hl6.blk.cell 3, hl7.seg, fun w8 a8 p8 hrow hg hat => ?_⟩
  have hb8 := hl7.blk.keep (hg.block lb hl7.blk.lt fun e => (hl7.sep.2 lb e.symm).2 rfl)
  exact ⟨hb8.cell 3, hb8.frozen 3, XRes.addS k1 k2 k3 k4 hl6 n hn8 _ hrow hg hat hf⟩
set_option maxHeartbeats 4000000 in
set_option maxRecDepth 100000 in
theorem XAppend_first (ao : Option Addr) (cap : Nat) (zs : List Int) (w : World) (h : Xd w D F lb wb u pre es ss sure false) (hg : Gd u) (hb : Bs w (.slice ao zs.length cap) zs) (hy : Byt zs) (hz : zs.length ≤ 65526) (hk : zs ≠ [] → ∀ k, (Value.slice ao zs.length cap).ownBlock = some k → ¬ D k ∧ ¬ F k)
    (hs : ss = []) (hfe : es.length + 1 ≤ 10000000) (r : Int × Ud) (hr : u.five [nameN pre (es.length + 1)] (wrU (nameN pre (es.length + 1)) (Fr.entN ((es.length : Int) + 1) zs) u.room) = r) (hey : Byt (Fr.entN ((es.length : Int) + 1) zs)) (hel : (Fr.entN ((es.length : Int) + 1) zs).length ≤ 70000) :
    Calls Tryz.prog 17 #[.pointer (some ⟨lb, 0, none⟩), .slice ao zs.length cap] w (ApP w D F lb wb pre es zs ss (ss ++ [es.length + 1]) sure r) := by
  obtain ⟨ev, sv, hl⟩ := h.l
  obtain ⟨ag, cg, hsv⟩ := hl.svform
  subst hsv
  obtain ⟨ae, ce, hee⟩ := hl.evform
  subst hee
  have hfew := hl.few
  have c2 : w.cell? ⟨lb, 2, none⟩ = some (.slice ae es.length ce) := hl.blk.cell 2
  have c5 : w.cell? ⟨lb, 5, none⟩ = some (.bool false) := hl.blk.cell 5
  have c3 : w.cell? ⟨lb, 3, none⟩ = some (.slice ag ss.length cg) := hl.blk.cell 3
  have CN : ∀ w1, Calls Tryz.prog 28 #[encStr pre, .int .i64 ((es.length : Int) + 1)] w1 fun e w' => e = .returned (encStr (nameN pre (es.length + 1))) ∧ Below w1.heap.size w1 w' := fun w1 => name_ref pre (es.length + 1) (by omega) (by omega) w1
  have hnm := nameN_len pre (es.length + 1) (by omega)
  have q1 : IntKind.i64.wrap ((es.length : Int) + 1) = (es.length : Int) + 1 := by rw [IntKind.wrap_i64]; omega
  have f0 : ¬ (65526 : Int) < (zs.length : Int) := by omega
  have f3 : ((ss.length : Int) == 0) = true := by rw [hs]; rfl
  have hfs : ss.length + 1 ≤ 10000000 := by rw [hs]; decide
  have HW : Hid (∀ W W4 W5 ap cp, XRes w D F lb wb pre u es ss sure false W → Below W.heap.size W W4 → Ow W4 W.heap.size (.slice ap (Fr.entN ((es.length : Int) + 1) zs).length cp) (Fr.entN ((es.length : Int) + 1) zs) → Below W4.heap.size W4 W5 → Calls Tryz.prog 30 #[.pointer (some ⟨wb, 0, none⟩), encStr (nameN pre (es.length + 1)), .slice ap (Fr.entN ((es.length : Int) + 1) zs).length cp] W5 fun e w' => e = .returned (.int .i64 r.1) ∧ XRes w D F lb wb pre r.2 es ss sure false w') := by
    intro W W4 W5 ap cp hR hb4 ho hb5
    have := XRes.write hR hg (nameN pre (es.length + 1)) (by omega) ap cp _ W4 W5 hb4 ho hb5 hey (by omega)
    rw [hr] at this
    exact this
  have HX : Hid (XRes w D F lb wb pre u es ss sure false w) := XRes.refl h (Below.refl _ _)
  have HB := hid_into hb
  clear h hl hb hs hfew hr hey hel hnm
  generalize nameN pre (es.length + 1) = nm at *
  obtain ⟨r1, r2⟩ := r
  go_enter Tryz.func17, Tryz.ntmps17
  go_wp2_with fail
  have hbW := XRes.bs HX.out HB.out hk
  have HN : Hid (Fr.entN ((es.length : Int) + 1) zs = Fr.recN (Fr.numOf ((es.length : Int) + 1) ++ zs)) := rfl
  have hnl := Fr.numOf_length ((es.length : Int) + 1)
  have hny := Fr.numOf_byt ((es.length : Int) + 1) (by omega) (by omega)
  have CM := Fr.refNum_any ((es.length : Int) + 1) w (by omega) (by omega)
  have CE := fun (v : Value) (ys : List Int) (w : World) (h : Bs w v ys) (h1 : Byt ys) (h2 : ys.length ≤ 65536) => Fr.renc_any v ys w h h1 h2
  generalize Fr.numOf ((es.length : Int) + 1) = nb at *
  refine CM.mono ?_
  rintro e w2 ⟨a2, p2, rfl, ho2, hB2⟩
  have hb2 := hbW.below hB2 (Nat.le_refl _)
  have h63 : nb.length + zs.length ≤ 140737488355328 := by omega
  have hw2 := hB2.size
  have HYN : Hid (Byt (nb ++ zs) ∧ (nb ++ zs).length ≤ 65536) := ⟨hny.app hy, by rw [List.length_append]; omega⟩
  go_wp2_with (at_builtin; refine wpList_append_bs _ rfl (.tmp 61) (.tmp 62) rfl w.heap.size _ nb rfl ho2 _ zs rfl hb2 h63 hw2 ?_)
  intro a3 p3 w3 ho3 hg3 hat3
  have B3 : Below w.heap.size w w3 := hB2.trans (Fr.grown_below hg3 hw2 (Fr.Ow.from ho2))
  rw [← List.length_append] at ho3
  rw [← List.length_append]
  clear ho2 hg3 hat3 hB2 hb2 hny hnl h63 CM hbW
  generalize nb ++ zs = nz at *
  go_wp2_with fail
  refine (CE _ nz _ ho3.bs HYN.out.1 HYN.out.2).mono ?_
  rintro e w4 ⟨a4, p4, rfl, ho4, hB4⟩
  have B4 : Below w.heap.size w w4 := B3.trans (hB4.mono B3.size)
  have HO4 : Hid (Ow w4 w.heap.size (.slice a4 (Fr.recN nz).length p4) (Fr.recN nz)) := Ow.mono ho4 B3.size
  rw [← HN.out] at HO4 ⊢
  clear ho4 hB4 B3 ho3 HN HYN CE
  generalize Fr.entN ((es.length : Int) + 1) zs = rc at *
  have hX4 : XRes w D F lb wb pre u es ss sure false w4 := by
    obtain ⟨D1, F1, h1, h2, h3, h4⟩ := HX.out
    exact XRes.then h2 h3 h4 (XRes.refl h1 B4)
  obtain ⟨F4, ev4, sv4, hl4⟩ := hX4.log
  have d0 : w4.cell? ⟨lb, 0, none⟩ = some (.pointer (some ⟨wb, 0, none⟩)) := hl4.blk.cell 0
  have d1 : w4.cell? ⟨lb, 1, none⟩ = some (encStr pre) := hl4.blk.cell 1
  have hll := hl4.blk.lt
  clear hX4 hl4
  go_wp2_with fail
  go_region_held3 (fun u => u.cell? ⟨lb, 0, none⟩ = some (.pointer (some ⟨wb, 0, none⟩)) ∧ u.cell? ⟨lb, 1, none⟩ = some (encStr pre)) (first | exact ⟨d0, d1⟩ | assumption)
    (first
      | (go_at_call 28; refine (CN _).mono ?_; rintro e w5 ⟨rfl, hB5⟩; replace hB5 : Below w4.heap.size w4 w5 := ⟨hB5.os, hB5.tape, hB5.output, hB5.size, hB5.block⟩; have ht5 := And.intro (cell_below hB5 d0 hll) (cell_below hB5 d1 hll))
      | (go_at_call 30; refine (HW.out w w4 w5 a4 p4 HX.out B4 HO4.out hB5).mono ?_; rintro e w6 ⟨rfl, hX6⟩; obtain ⟨F6, ev6, sv6, hl6⟩ := hX6.log; have ht6 := And.intro (hl6.blk.cell 0) (hl6.blk.cell 1)))
  have HX6 := hid_into hX6
  clear hX6 ht5 ht6 hB5 B4 HO4 HW CN d0 d1
  by_cases h0 : r1 = 0
  · subst h0
    clear hl6
    obtain ⟨a6, p6, c36, hseg, HT⟩ := HX6.out.segTab (es.length + 1) (by omega) hfs
    have hcl : (w6.alloc (.cells #[.int .i64 ((es.length : Int) + 1)] 3)).cell? ⟨w6.heap.size, 0, none⟩ = some (.int .i64 ((es.length : Int) + 1)) := by
      rw [cell_of_row _ _ 0 _ _ _ (heap_alloc_new w6 _)]; rfl
    have hn9 : ss.length ≤ 1000000000 := by omega
    have HTT := hid_into HT
    have hWs : (w6.alloc (.cells #[.int .i64 ((es.length : Int) + 1)] 3)).heap.size = w6.heap.size + 1 := World.size_alloc _ _
    have HWS := hid_into hWs
    clear HT HX6 hWs
    go_wp2_with (at_builtin; refine wpList_append_num _ rfl (.tmp 89) (.tmp 91) rfl (.slice a6 ss.length p6) ss.length (numsOf ss) (by rfl) hseg w6.heap.size (.int .i64 ((es.length : Int) + 1)) rfl (by rfl) hcl hn9 ?_)
    intro a8 p8 w8 hrow hg8 hat8
    obtain ⟨c8, z8, hX7⟩ := HTT.out w8 a8 p8 hrow hg8 (by first | exact hat8 | (rw [HWS.out] at hat8; exact hat8))
    have HX7 := hid_into hX7
    clear hX7 hrow hg8 hat8 HTT hseg hcl HWS c36
    go_wp2_with fail
    generalize w8.setCell ⟨lb, 3, none⟩ (.slice a8 (ss.length + 1) p8) = w7 at *
    have hX7 := HX7.out
    have hb7 := hX7.bs HB.out hk
    obtain ⟨D3, F3, h1, h2, h3, h4⟩ := hX7
    obtain ⟨ev3, sv3, hl3⟩ := h1.l
    obtain ⟨ae3, ce3, hev⟩ := hl3.evform
    subst hev
    have e2 : w7.cell? ⟨lb, 2, none⟩ = some (.slice ae3 es.length ce3) := hl3.blk.cell 2
    have HHa := hid_into h1
    have H2 := hid_into h2
    have H3 := hid_into h3
    have H4 := hid_into h4
    have HL := hid_into hl3
    have HB3 := hid_into hb7
    clear h1 h2 h3 h4 hl3 hb7
    have hS : w7.drew.cell? ⟨lb, 2, none⟩ = some (.slice ae3 es.length ce3) := e2
    refine wp_region_L 12 (fun w' => w'.cell? ⟨lb, 2, none⟩ = some (.slice ae3 es.length ce3)) (by kernel_rfl) ?_
    refine' wpL_take 0 95 rfl rfl (by kernel_rfl) (by kernel_rfl) (by kernel_rfl) (by kernel_rfl) (fun _ _ _ h => h) (by rfl) hS ?y95 ?r95
    case y95 => (intro u hSu; (try dsimp only at hSu); go_simp; try with_reducible rfl)
    simp only [Act.put, List.setIfInBounds_toArray, List.set_cons_zero, List.set_cons_succ]
    refine' wpL_take 1 96 rfl rfl (by kernel_rfl) (by kernel_rfl) (by kernel_rfl) (by kernel_rfl) (fun _ _ _ h => h) (by rfl) hS ?y96 ?r96
    case y96 => (intro u hSu; (try dsimp only at hSu); go_simp; try with_reducible rfl)
    simp only [Act.put, List.setIfInBounds_toArray, List.set_cons_zero, List.set_cons_succ]
    refine' wpL_take 2 97 rfl rfl (by kernel_rfl) (by kernel_rfl) (by kernel_rfl) (by kernel_rfl) (fun _ _ _ h => h) (by rfl) hS ?y97 ?r97
    case y97 => (intro u hSu; (try dsimp only at hSu); go_simp; try with_reducible rfl)
    simp only [Act.put, List.setIfInBounds_toArray, List.set_cons_zero, List.set_cons_succ]
    refine' wpL_take 3 98 rfl rfl (by kernel_rfl) (by kernel_rfl) (by kernel_rfl) (by kernel_rfl) (fun _ _ _ h => h) (by rfl) hS ?y98 ?r98
    case y98 => (intro u hSu; (try dsimp only at hSu); go_simp; try with_reducible rfl)
    simp only [Act.put, List.setIfInBounds_toArray, List.set_cons_zero, List.set_cons_succ]
    refine' wpL_take 4 99 rfl rfl (by kernel_rfl) (by kernel_rfl) (by kernel_rfl) (by kernel_rfl) (fun _ _ _ h => h) (by rfl) hS ?y99 ?r99
    case y99 => (intro u hSu; (try dsimp only at hSu); go_simp; try with_reducible rfl)
    simp only [Act.put, List.setIfInBounds_toArray, List.set_cons_zero, List.set_cons_succ]
    refine' wpL_take 6 101 rfl rfl (by kernel_rfl) (by kernel_rfl) (by kernel_rfl) (by kernel_rfl) (fun _ _ _ h => h) (by rfl) hS ?y101 ?r101
    case y101 => (intro u hSu; (try dsimp only at hSu); go_simp; try with_reducible rfl)
    simp only [Act.put, List.setIfInBounds_toArray, List.set_cons_zero, List.set_cons_succ]
    refine wpL_one (i := 5) (by kernel_rfl) rfl (fun K hK => ?_)
    rw [if_pos (by rfl)]
    go_simp
    have hA8 : Below w7.heap.size w7 (w7.drew.alloc (.cells #[] 5)) := (show Below w7.heap.size w7 w7.drew from ⟨rfl, rfl, rfl, Nat.le_refl _, fun _ _ => rfl⟩).alloc (Nat.le_refl _) _
    have hl8 := HL.out.below hA8
    have ho8 : Ow (w7.drew.alloc (.cells #[] 5)) w7.heap.size (.slice (some ⟨w7.heap.size, 0, none⟩) 0 0) [] := Ow_of_block (heap_alloc_new w7.drew _) (by simp) (Nat.le_refl _)
    have hbs8 : Bs (w7.drew.alloc (.cells #[] 5)) (.slice ao zs.length cap) zs := HB3.out.below hA8 (Nat.le_refl _)
    refine hK.out _ _ (fun _ => hl8.blk.cell 2) ?_
    clear hK K
    refine wpL_one (i := 7) (by kernel_rfl) rfl (fun K hK => ?_)
    refine step_append_bs rfl (.tmp 100) (.tmp 101) rfl w7.heap.size _ [] rfl ho8 (.slice ao zs.length cap) zs rfl hbs8 (by simp; omega) hA8.size ?_
    intro a9 p9 w9 ho9 hg9 hat9
    simp only [List.length_nil, Nat.zero_add, List.nil_append] at ho9 hat9 ⊢
    have hB9 : Below w7.heap.size w7 w9 := hA8.trans (Fr.grown_below hg9 hA8.size (Fr.Ow.from ho8))
    have hl9 := HL.out.below hB9
    refine hK.out _ _ (fun _ => hl9.blk.cell 2) ?_
    change wpL Tryz.prog _ _ _ _ _ _ _ (Act.put _ (some 102) _) _
    clear hK K
    simp only [Act.put, List.setIfInBounds_toArray, List.set_cons_zero, List.set_cons_succ]
    refine wpL_one (i := 8) (by kernel_rfl) rfl (fun K hK => ?_)
    refine step_made_row rfl (.tmp 102) rfl a9 zs.length p9 rfl ?_
    have hA5 : Below w7.heap.size w7 (w9.alloc (.cells #[.slice a9 zs.length p9] 38)) := hB9.alloc hB9.size _
    have hl5 := HL.out.below hA5
    refine hK.out _ _ (fun _ => hl5.blk.cell 2) ?_
    change wpL Tryz.prog _ _ _ _ _ _ _ (Act.put _ (some 103) _) _
    clear hK K
    simp only [Act.put, List.setIfInBounds_toArray, List.set_cons_zero, List.set_cons_succ]
    refine wpL_one (i := 9) (by kernel_rfl) rfl (fun K hK => ?_)
    refine step_append_en rfl (.tmp 99) (.tmp 103) rfl (.slice ae3 es.length ce3) es.length (enOf es) rfl hl5.ent w9.heap.size (.slice a9 zs.length p9) rfl rfl (by rw [cell_of_row _ _ 0 _ _ _ (heap_alloc_new w9 _)]; rfl) (by omega) ?_
    intro ao6 cap6 wa ho6 hg6 hat6
    have hb6 := hl5.blk.keep (hg6.block lb hl5.blk.lt fun e => (hl5.sep.1 lb e.symm).2.1 rfl)
    have c6b : wa.cell? ⟨lb, 2, none⟩ = some (.slice ae3 es.length ce3) := hb6.cell 2
    have f6b := hb6.frozen 2
    refine hK.out _ _ (fun _ => c6b) ?_
    change wpL Tryz.prog _ _ _ _ _ _ _ (Act.put _ (some 104) _) _
    clear hK K
    simp only [Act.put, List.setIfInBounds_toArray, List.set_cons_zero, List.set_cons_succ]
    have hcb : ∀ k, (Value.slice a9 zs.length p9).ownBlock = some k → w7.heap.size ≤ k ∧ k < (w9.alloc (.cells #[.slice a9 zs.length p9] 38)).heap.size := fun k hk => by
      have := World.ownsRow.lt ho9 k hk
      rw [World.size_alloc]
      exact ⟨this.1, by omega⟩
    have hcv : Bs (w9.alloc (.cells #[.slice a9 zs.length p9] 38)) (.slice a9 zs.length p9) zs := (Ow.bs ho9).keep fun k _ hk => Below.heap_alloc _ _ _ hk
    have HR : Hid (XRes w D F lb wb pre r2 (es ++ [(.slice a9 zs.length p9, zs)]) (ss ++ [es.length + 1]) sure false (wa.setCell ⟨lb, 2, none⟩ (.slice ao6 (es.length + 1) cap6))) := XRes.addE HHa.out H2.out H3.out H4.out HL.out hA5 _ zs hcv hy (by omega) hcb _ ho6 hg6 hat6 hfe
    clear HHa H2 H3 H4 HL hA5 hcv hcb ho6 hg6 hat6 hb6 hl8 hl9 hl5 ho8 ho9 hg9 hat9 hB9 hA8 hbs8 HB3
    refine wpL_one (i := 10) (by kernel_rfl) rfl (fun K hK => ?_)
    rw [if_pos (by rfl)]
    go_simp
    refine hK.out _ _ (fun _ => c6b) ?_
    clear hK K
    refine wpL_one (i := 11) (by kernel_rfl) rfl (fun K hK => ?_)
    rw [if_pos (by rfl)]
    go_simp
    refine hK.out _ _ (fun _ => c6b) ?_
    clear hK K
    refine wpL_one (i := 12) (by kernel_rfl) rfl (fun K hK => ?_)
    rw [if_pos (by rfl)]
    go_simp
    refine hK.out _ _ (fun e => absurd rfl e) ?_
    clear hK K
    refine wpL_done (by kernel_rfl) ?_ _
    go_wp2_with fail
    go_ret2
    exact Or.inr ⟨rfl, rfl, _, HR.out⟩
  · have h7 : (r1 == 0) = false := beq_eq_false_iff_ne.2 h0
    have CF := fail_any r1 w6 hl6
    have HR : Hid (ApP w D F lb wb pre es zs ss (ss ++ [es.length + 1]) sure (r1, r2) (.returned (.tuple #[.int .i64 0, .int .i64 r1])) (if r1 = 6 then w6 else w6.setCell ⟨lb, 5, none⟩ (.bool true))) := by
      refine Or.inl ⟨h0, rfl, ?_⟩
      show XRes w D F lb wb pre r2 es ss sure (if r1 = 6 then false else true) _
      by_cases h6 : r1 = 6
      · rw [if_pos h6, if_pos h6]; exact HX6.out
      · rw [if_neg h6, if_neg h6]; exact HX6.out.cell 5 _ fun _ _ _ hh => hh.kill
    clear hl6
    go_wp2_with fail
    refine CF.mono ?_
    rintro e w8 ⟨rfl, hw8⟩
    rw [← hw8] at HR
    clear hw8 CF
    go_wp2_with fail
    go_ret2
    exact HR.out
end Go.Proofs.YtnkjhooeklodcaaGreatDoor
end

section
/-
  The document's log: Append behind a full segment; what it refuses.
-/
namespace Go.Proofs.YtnkjhooeklodcaaGreatDoor
open Go.RowKit Go.Maps Go.Sort

variable {w w' W : World} {D F : Nat → Prop} {lb wb : Nat} {u : Ud} {pre : List UInt8} {ev sv : Value} {es : List En} {ss : List Nat} {sure : Nat} {dead : Bool}
theorem syX_dead (u : Ud) (n sure : Nat) (x : List UInt8) (h : (syX u n sure x false).1 = 0) : (syX u n sure x false).2.2.2 = false := by
  unfold syX at h ⊢
  rw [if_neg (by decide)] at h ⊢
  split at h
  · rw [if_pos (by assumption)]
  · rw [if_neg (by assumption)]
    simp only at h ⊢
    rw [if_pos h]
set_option maxHeartbeats 2000000 in
set_option maxRecDepth 100000 in
theorem XAppend_dead (v : Value) (w : World) (h : Xg w F lb wb pre ev sv es ss sure true) :
    Calls Tryz.prog 17 #[.pointer (some ⟨lb, 0, none⟩), v] w fun e w' => e = .returned (.tuple #[.int .i64 0, .int .i64 9]) ∧ w' = w := by
  have c5 : w.cell? ⟨lb, 5, none⟩ = some (.bool true) := h.blk.cell 5
  clear h
  go_enter Tryz.func17, Tryz.ntmps17
  go_wp2_with fail
  go_ret2
  exact ⟨rfl, rfl⟩
set_option maxHeartbeats 2000000 in
set_option maxRecDepth 100000 in
theorem XAppend_long (ao : Option Addr) (n cap : Nat) (w : World) (h : Xg w F lb wb pre ev sv es ss sure false) (hn : 65526 < n) :
    Calls Tryz.prog 17 #[.pointer (some ⟨lb, 0, none⟩), .slice ao n cap] w fun e w' => e = .returned (.tuple #[.int .i64 0, .int .i64 5]) ∧ w' = w := by
  have c5 : w.cell? ⟨lb, 5, none⟩ = some (.bool false) := h.blk.cell 5
  have f0 : (65526 : Int) < (n : Int) := by omega
  clear h hn
  go_enter Tryz.func17, Tryz.ntmps17
  go_wp2_with fail
  go_ret2
  exact ⟨rfl, rfl⟩
set_option maxHeartbeats 4000000 in
set_option maxRecDepth 100000 in
theorem XAppend_nosync (ao : Option Addr) (cap : Nat) (zs : List Int) (w : World) (h : Xd w D F lb wb u pre es ss sure false) (hg : Gd u) (hz : zs.length ≤ 65526)
    (hs : ss ≠ []) (h5 : ¬ (at0U u.us (nameN pre (lastS ss))).1.length < 512) (s : Int × Ud × Nat × Bool) (hss : syX u es.length sure (nameN pre (lastS ss)) false = s) (hs0 : s.1 ≠ 0) :
    Calls Tryz.prog 17 #[.pointer (some ⟨lb, 0, none⟩), .slice ao zs.length cap] w fun e w' => e = .returned (.tuple #[.int .i64 0, .int .i64 s.1]) ∧ XRes w D F lb wb pre s.2.1 es ss s.2.2.1 s.2.2.2 w' := by
  obtain ⟨ev, sv, hl⟩ := h.l
  have CZ := size_any w h hg hs
  obtain ⟨m, hm, hxm⟩ := lastS_get hs
  obtain ⟨g, cg, rfl⟩ := hl.segSome hs
  obtain ⟨ae, ce, hee⟩ := hl.evform
  subst hee
  have hfew := hl.few
  have c2 : w.cell? ⟨lb, 2, none⟩ = some (.slice ae es.length ce) := hl.blk.cell 2
  have c5 : w.cell? ⟨lb, 5, none⟩ = some (.bool false) := hl.blk.cell 5
  have c3 : w.cell? ⟨lb, 3, none⟩ = some (.slice (some ⟨g, 0, none⟩) ss.length cg) := hl.blk.cell 3
  have CS : Hid (∀ w1, Below w.heap.size w w1 → Calls Tryz.prog 19 #[.pointer (some ⟨lb, 0, none⟩)] w1 fun e w' => e = .returned (.int .i64 s.1) ∧ XRes w D F lb wb pre s.2.1 es ss s.2.2.1 s.2.2.2 w') := by
    intro w1 hb1
    refine (XSync_any w1 (h.below hb1) hg fun _ => hs).mono ?_
    rw [hss]
    rintro e w2 ⟨rfl, hR⟩
    exact ⟨rfl, XRes.after hb1 hR⟩
  have q1 : IntKind.i64.wrap ((es.length : Int) + 1) = (es.length : Int) + 1 := by rw [IntKind.wrap_i64]; omega
  have f0 : ¬ (65526 : Int) < (zs.length : Int) := by omega
  have f3 : ((ss.length : Int) == 0) = false := beq_eq_false_iff_ne.2 (by omega)
  have f4 : (512 : Int) ≤ ((at0U u.us (nameN pre (lastS ss))).1.length : Int) := by omega
  clear h hl hxm hs hm hfew h5 hss
  generalize (at0U u.us (nameN pre (lastS ss))).1.length = sz at *
  obtain ⟨s1, s2, s3, s4⟩ := s
  simp only at CS hs0 ⊢
  have f5 : (s1 == 0) = false := beq_eq_false_iff_ne.2 hs0
  go_enter Tryz.func17, Tryz.ntmps17
  go_wp2_with fail
  refine CZ.mono ?_
  rintro e w1 ⟨rfl, hB1⟩
  clear CZ
  go_wp2_with fail
  refine (CS.out _ hB1).mono ?_
  rintro e w2 ⟨rfl, hR2⟩
  have HR := hid_into hR2
  clear hR2 CS
  go_wp2_with fail
  go_ret2
  exact ⟨rfl, HR.out⟩
set_option maxHeartbeats 4000000 in
set_option maxRecDepth 100000 in
theorem XAppend_next (ao : Option Addr) (cap : Nat) (zs : List Int) (w : World) (h : Xd w D F lb wb u pre es ss sure false) (hg : Gd u) (hb : Bs w (.slice ao zs.length cap) zs) (hy : Byt zs) (hz : zs.length ≤ 65526) (hk : zs ≠ [] → ∀ k, (Value.slice ao zs.length cap).ownBlock = some k → ¬ D k ∧ ¬ F k)
    (hs : ss ≠ []) (h5 : ¬ (at0U u.us (nameN pre (lastS ss))).1.length < 512) (s : Int × Ud × Nat × Bool) (hss : syX u es.length sure (nameN pre (lastS ss)) false = s) (hs0 : s.1 = 0) (hg1 : Gd s.2.1)
    (hfe : es.length + 1 ≤ 10000000) (hfs : ss.length + 1 ≤ 10000000) (r : Int × Ud) (hr : s.2.1.five [nameN pre (es.length + 1)] (wrU (nameN pre (es.length + 1)) (Fr.entN ((es.length : Int) + 1) zs) s.2.1.room) = r) (hey : Byt (Fr.entN ((es.length : Int) + 1) zs)) (hel : (Fr.entN ((es.length : Int) + 1) zs).length ≤ 70000) :
    Calls Tryz.prog 17 #[.pointer (some ⟨lb, 0, none⟩), .slice ao zs.length cap] w (ApP w D F lb wb pre es zs ss (ss ++ [es.length + 1]) s.2.2.1 r) := by
  obtain ⟨ev, sv, hl⟩ := h.l
  have CZ := size_any w h hg hs
  obtain ⟨m, hm, hxm⟩ := lastS_get hs
  obtain ⟨g, cg, rfl⟩ := hl.segSome hs
  obtain ⟨ae, ce, hee⟩ := hl.evform
  subst hee
  have hfew := hl.few
  have c2 : w.cell? ⟨lb, 2, none⟩ = some (.slice ae es.length ce) := hl.blk.cell 2
  have c5 : w.cell? ⟨lb, 5, none⟩ = some (.bool false) := hl.blk.cell 5
  have c3 : w.cell? ⟨lb, 3, none⟩ = some (.slice (some ⟨g, 0, none⟩) ss.length cg) := hl.blk.cell 3
  have CS : Hid (∀ w1, Below w.heap.size w w1 → Calls Tryz.prog 19 #[.pointer (some ⟨lb, 0, none⟩)] w1 fun e w' => e = .returned (.int .i64 s.1) ∧ XRes w D F lb wb pre s.2.1 es ss s.2.2.1 s.2.2.2 w') := by
    intro w1 hb1
    refine (XSync_any w1 (h.below hb1) hg fun _ => hs).mono ?_
    rw [hss]
    rintro e w2 ⟨rfl, hR⟩
    exact ⟨rfl, XRes.after hb1 hR⟩
  have CN : ∀ w1, Calls Tryz.prog 28 #[encStr pre, .int .i64 ((es.length : Int) + 1)] w1 fun e w' => e = .returned (encStr (nameN pre (es.length + 1))) ∧ Below w1.heap.size w1 w' := fun w1 => name_ref pre (es.length + 1) (by omega) (by omega) w1
  have hnm := nameN_len pre (es.length + 1) (by omega)
  have q1 : IntKind.i64.wrap ((es.length : Int) + 1) = (es.length : Int) + 1 := by rw [IntKind.wrap_i64]; omega
  have f0 : ¬ (65526 : Int) < (zs.length : Int) := by omega
  have f3 : ((ss.length : Int) == 0) = false := beq_eq_false_iff_ne.2 (by omega)
  have f4 : (512 : Int) ≤ ((at0U u.us (nameN pre (lastS ss))).1.length : Int) := by omega
  have hdd : s.2.2.2 = false := by rw [← hss] at hs0 ⊢; exact syX_dead _ _ _ _ hs0
  have HW : Hid (∀ W W4 W5 ap cp, XRes w D F lb wb pre s.2.1 es ss s.2.2.1 false W → Below W.heap.size W W4 → Ow W4 W.heap.size (.slice ap (Fr.entN ((es.length : Int) + 1) zs).length cp) (Fr.entN ((es.length : Int) + 1) zs) → Below W4.heap.size W4 W5 → Calls Tryz.prog 30 #[.pointer (some ⟨wb, 0, none⟩), encStr (nameN pre (es.length + 1)), .slice ap (Fr.entN ((es.length : Int) + 1) zs).length cp] W5 fun e w' => e = .returned (.int .i64 r.1) ∧ XRes w D F lb wb pre r.2 es ss s.2.2.1 false w') := by
    intro W W4 W5 ap cp hR hb4 ho hb5
    have := XRes.write hR hg1 (nameN pre (es.length + 1)) (by omega) ap cp _ W4 W5 hb4 ho hb5 hey (by omega)
    rw [hr] at this
    exact this
  have HB := hid_into hb
  clear h hl hb hxm hs hm hfew hr hey hel hnm h5 hss hg1
  generalize (at0U u.us (nameN pre (lastS ss))).1.length = sz at *
  generalize nameN pre (es.length + 1) = nm at *
  obtain ⟨s1, s2, s3, s4⟩ := s
  simp only at CS hs0 hdd HW ⊢
  subst hs0
  subst hdd
  obtain ⟨r1, r2⟩ := r
  go_enter Tryz.func17, Tryz.ntmps17
  go_wp2_with fail
  refine CZ.mono ?_
  rintro e w1 ⟨rfl, hB1⟩
  clear CZ
  go_wp2_with fail
  refine (CS.out _ hB1).mono ?_
  rintro e WW ⟨rfl, hR2⟩
  have HX := hid_into hR2
  clear hR2 CS
  go_wp2_with fail
  have hbW := XRes.bs HX.out HB.out hk
  have HN : Hid (Fr.entN ((es.length : Int) + 1) zs = Fr.recN (Fr.numOf ((es.length : Int) + 1) ++ zs)) := rfl
  have hnl := Fr.numOf_length ((es.length : Int) + 1)
  have hny := Fr.numOf_byt ((es.length : Int) + 1) (by omega) (by omega)
  have CM := Fr.refNum_any ((es.length : Int) + 1) WW (by omega) (by omega)
  have CE := fun (v : Value) (ys : List Int) (w : World) (h : Bs w v ys) (h1 : Byt ys) (h2 : ys.length ≤ 65536) => Fr.renc_any v ys w h h1 h2
  generalize Fr.numOf ((es.length : Int) + 1) = nb at *
  refine CM.mono ?_
  rintro e w2 ⟨a2, p2, rfl, ho2, hB2⟩
  have hb2 := hbW.below hB2 (Nat.le_refl _)
  have h63 : nb.length + zs.length ≤ 140737488355328 := by omega
  have hw2 := hB2.size
  have HYN : Hid (Byt (nb ++ zs) ∧ (nb ++ zs).length ≤ 65536) := ⟨hny.app hy, by rw [List.length_append]; omega⟩
  go_wp2_with (at_builtin; refine wpList_append_bs _ rfl (.tmp 61) (.tmp 62) rfl WW.heap.size _ nb rfl ho2 _ zs rfl hb2 h63 hw2 ?_)
  intro a3 p3 w3 ho3 hg3 hat3
  have B3 : Below WW.heap.size WW w3 := hB2.trans (Fr.grown_below hg3 hw2 (Fr.Ow.from ho2))
  rw [← List.length_append] at ho3
  rw [← List.length_append]
  clear ho2 hg3 hat3 hB2 hb2 hny hnl h63 CM hbW
  generalize nb ++ zs = nz at *
  go_wp2_with fail
  refine (CE _ nz _ ho3.bs HYN.out.1 HYN.out.2).mono ?_
  rintro e w4 ⟨a4, p4, rfl, ho4, hB4⟩
  have B4 : Below WW.heap.size WW w4 := B3.trans (hB4.mono B3.size)
  have HO4 : Hid (Ow w4 WW.heap.size (.slice a4 (Fr.recN nz).length p4) (Fr.recN nz)) := Ow.mono ho4 B3.size
  rw [← HN.out] at HO4 ⊢
  clear ho4 hB4 B3 ho3 HN HYN CE
  generalize Fr.entN ((es.length : Int) + 1) zs = rc at *
  have hX4 : XRes w D F lb wb pre s2 es ss s3 false w4 := by
    obtain ⟨D1, F1, h1, h2, h3, h4⟩ := HX.out
    exact XRes.then h2 h3 h4 (XRes.refl h1 B4)
  obtain ⟨F4, ev4, sv4, hl4⟩ := hX4.log
  have d0 : w4.cell? ⟨lb, 0, none⟩ = some (.pointer (some ⟨wb, 0, none⟩)) := hl4.blk.cell 0
  have d1 : w4.cell? ⟨lb, 1, none⟩ = some (encStr pre) := hl4.blk.cell 1
  have hll := hl4.blk.lt
  clear hX4 hl4
  go_wp2_with fail
  go_region_held3 (fun u => u.cell? ⟨lb, 0, none⟩ = some (.pointer (some ⟨wb, 0, none⟩)) ∧ u.cell? ⟨lb, 1, none⟩ = some (encStr pre)) (first | exact ⟨d0, d1⟩ | assumption)
    (first
      | (go_at_call 28; refine (CN _).mono ?_; rintro e w5 ⟨rfl, hB5⟩; replace hB5 : Below w4.heap.size w4 w5 := ⟨hB5.os, hB5.tape, hB5.output, hB5.size, hB5.block⟩; have ht5 := And.intro (cell_below hB5 d0 hll) (cell_below hB5 d1 hll))
      | (go_at_call 30; refine (HW.out WW w4 w5 a4 p4 HX.out B4 HO4.out hB5).mono ?_; rintro e w6 ⟨rfl, hX6⟩; obtain ⟨F6, ev6, sv6, hl6⟩ := hX6.log; have ht6 := And.intro (hl6.blk.cell 0) (hl6.blk.cell 1)))
  have HX6 := hid_into hX6
  clear hX6 ht5 ht6 hB5 B4 HO4 HW CN d0 d1
  by_cases h0 : r1 = 0
  · subst h0
    clear hl6
    obtain ⟨a6, p6, c36, hseg, HT⟩ := HX6.out.segTab (es.length + 1) (by omega) hfs
    have hcl : (w6.alloc (.cells #[.int .i64 ((es.length : Int) + 1)] 3)).cell? ⟨w6.heap.size, 0, none⟩ = some (.int .i64 ((es.length : Int) + 1)) := by
      rw [cell_of_row _ _ 0 _ _ _ (heap_alloc_new w6 _)]; rfl
    have hn9 : ss.length ≤ 1000000000 := by omega
    have HTT := hid_into HT
    have hWs : (w6.alloc (.cells #[.int .i64 ((es.length : Int) + 1)] 3)).heap.size = w6.heap.size + 1 := World.size_alloc _ _
    have HWS := hid_into hWs
    clear HT HX6 hWs
    go_wp2_with (at_builtin; refine wpList_append_num _ rfl (.tmp 89) (.tmp 91) rfl (.slice a6 ss.length p6) ss.length (numsOf ss) (by rfl) hseg w6.heap.size (.int .i64 ((es.length : Int) + 1)) rfl (by rfl) hcl hn9 ?_)
    intro a8 p8 w8 hrow hg8 hat8
    obtain ⟨c8, z8, hX7⟩ := HTT.out w8 a8 p8 hrow hg8 (by first | exact hat8 | (rw [HWS.out] at hat8; exact hat8))
    have HX7 := hid_into hX7
    clear hX7 hrow hg8 hat8 HTT hseg hcl HWS c36
    go_wp2_with fail
    generalize w8.setCell ⟨lb, 3, none⟩ (.slice a8 (ss.length + 1) p8) = w7 at *
    have hX7 := HX7.out
    have hb7 := hX7.bs HB.out hk
    obtain ⟨D3, F3, h1, h2, h3, h4⟩ := hX7
    obtain ⟨ev3, sv3, hl3⟩ := h1.l
    obtain ⟨ae3, ce3, hev⟩ := hl3.evform
    subst hev
    have e2 : w7.cell? ⟨lb, 2, none⟩ = some (.slice ae3 es.length ce3) := hl3.blk.cell 2
    have HHa := hid_into h1
    have H2 := hid_into h2
    have H3 := hid_into h3
    have H4 := hid_into h4
    have HL := hid_into hl3
    have HB3 := hid_into hb7
    clear h1 h2 h3 h4 hl3 hb7
    have hS : w7.drew.cell? ⟨lb, 2, none⟩ = some (.slice ae3 es.length ce3) := e2
    refine wp_region_L 12 (fun w' => w'.cell? ⟨lb, 2, none⟩ = some (.slice ae3 es.length ce3)) (by kernel_rfl) ?_
    refine' wpL_take 0 95 rfl rfl (by kernel_rfl) (by kernel_rfl) (by kernel_rfl) (by kernel_rfl) (fun _ _ _ h => h) (by rfl) hS ?y95 ?r95
    case y95 => (intro u hSu; (try dsimp only at hSu); go_simp; try with_reducible rfl)
    simp only [Act.put, List.setIfInBounds_toArray, List.set_cons_zero, List.set_cons_succ]
    refine' wpL_take 1 96 rfl rfl (by kernel_rfl) (by kernel_rfl) (by kernel_rfl) (by kernel_rfl) (fun _ _ _ h => h) (by rfl) hS ?y96 ?r96
    case y96 => (intro u hSu; (try dsimp only at hSu); go_simp; try with_reducible rfl)
    simp only [Act.put, List.setIfInBounds_toArray, List.set_cons_zero, List.set_cons_succ]
    refine' wpL_take 2 97 rfl rfl (by kernel_rfl) (by kernel_rfl) (by kernel_rfl) (by kernel_rfl) (fun _ _ _ h => h) (by rfl) hS ?y97 ?r97
    case y97 => (intro u hSu; (try dsimp only at hSu); go_simp; try with_reducible rfl)
    simp only [Act.put, List.setIfInBounds_toArray, List.set_cons_zero, List.set_cons_succ]
    refine' wpL_take 3 98 rfl rfl (by kernel_rfl) (by kernel_rfl) (by kernel_rfl) (by kernel_rfl) (fun _ _ _ h => h) (by rfl) hS ?y98 ?r98
    case y98 => (intro u hSu; (try dsimp only at hSu); go_simp; try with_reducible rfl)
    simp only [Act.put, List.setIfInBounds_toArray, List.set_cons_zero, List.set_cons_succ]
    refine' wpL_take 4 99 rfl rfl (by kernel_rfl) (by kernel_rfl) (by kernel_rfl) (by kernel_rfl) (fun _ _ _ h => h) (by rfl) hS ?y99 ?r99
    case y99 => (intro u hSu; (try dsimp only at hSu); go_simp; try with_reducible rfl)
    simp only [Act.put, List.setIfInBounds_toArray, List.set_cons_zero, List.set_cons_succ]
    refine' wpL_take 6 101 rfl rfl (by kernel_rfl) (by kernel_rfl) (by kernel_rfl) (by kernel_rfl) (fun _ _ _ h => h) (by rfl) hS ?y101 ?r101
    case y101 => (intro u hSu; (try dsimp only at hSu); go_simp; try with_reducible rfl)
    simp only [Act.put, List.setIfInBounds_toArray, List.set_cons_zero, List.set_cons_succ]
    refine wpL_one (i := 5) (by kernel_rfl) rfl (fun K hK => ?_)
    rw [if_pos (by rfl)]
    go_simp
    have hA8 : Below w7.heap.size w7 (w7.drew.alloc (.cells #[] 5)) := (show Below w7.heap.size w7 w7.drew from ⟨rfl, rfl, rfl, Nat.le_refl _, fun _ _ => rfl⟩).alloc (Nat.le_refl _) _
    have hl8 := HL.out.below hA8
    have ho8 : Ow (w7.drew.alloc (.cells #[] 5)) w7.heap.size (.slice (some ⟨w7.heap.size, 0, none⟩) 0 0) [] := Ow_of_block (heap_alloc_new w7.drew _) (by simp) (Nat.le_refl _)
    have hbs8 : Bs (w7.drew.alloc (.cells #[] 5)) (.slice ao zs.length cap) zs := HB3.out.below hA8 (Nat.le_refl _)
    refine hK.out _ _ (fun _ => hl8.blk.cell 2) ?_
    clear hK K
    refine wpL_one (i := 7) (by kernel_rfl) rfl (fun K hK => ?_)
    refine step_append_bs rfl (.tmp 100) (.tmp 101) rfl w7.heap.size _ [] rfl ho8 (.slice ao zs.length cap) zs rfl hbs8 (by simp; omega) hA8.size ?_
    intro a9 p9 w9 ho9 hg9 hat9
    simp only [List.length_nil, Nat.zero_add, List.nil_append] at ho9 hat9 ⊢
    have hB9 : Below w7.heap.size w7 w9 := hA8.trans (Fr.grown_below hg9 hA8.size (Fr.Ow.from ho8))
    have hl9 := HL.out.below hB9
    refine hK.out _ _ (fun _ => hl9.blk.cell 2) ?_
    change wpL Tryz.prog _ _ _ _ _ _ _ (Act.put _ (some 102) _) _
    clear hK K
    simp only [Act.put, List.setIfInBounds_toArray, List.set_cons_zero, List.set_cons_succ]
    refine wpL_one (i := 8) (by kernel_rfl) rfl (fun K hK => ?_)
    refine step_made_row rfl (.tmp 102) rfl a9 zs.length p9 rfl ?_
    have hA5 : Below w7.heap.size w7 (w9.alloc (.cells #[.slice a9 zs.length p9] 38)) := hB9.alloc hB9.size _
    have hl5 := HL.out.below hA5
    refine hK.out _ _ (fun _ => hl5.blk.cell 2) ?_
    change wpL Tryz.prog _ _ _ _ _ _ _ (Act.put _ (some 103) _) _
    clear hK K
    simp only [Act.put, List.setIfInBounds_toArray, List.set_cons_zero, List.set_cons_succ]
    refine wpL_one (i := 9) (by kernel_rfl) rfl (fun K hK => ?_)
    refine step_append_en rfl (.tmp 99) (.tmp 103) rfl (.slice ae3 es.length ce3) es.length (enOf es) rfl hl5.ent w9.heap.size (.slice a9 zs.length p9) rfl rfl (by rw [cell_of_row _ _ 0 _ _ _ (heap_alloc_new w9 _)]; rfl) (by omega) ?_
    intro ao6 cap6 wa ho6 hg6 hat6
    have hb6 := hl5.blk.keep (hg6.block lb hl5.blk.lt fun e => (hl5.sep.1 lb e.symm).2.1 rfl)
    have c6b : wa.cell? ⟨lb, 2, none⟩ = some (.slice ae3 es.length ce3) := hb6.cell 2
    have f6b := hb6.frozen 2
    refine hK.out _ _ (fun _ => c6b) ?_
    change wpL Tryz.prog _ _ _ _ _ _ _ (Act.put _ (some 104) _) _
    clear hK K
    simp only [Act.put, List.setIfInBounds_toArray, List.set_cons_zero, List.set_cons_succ]
    have hcb : ∀ k, (Value.slice a9 zs.length p9).ownBlock = some k → w7.heap.size ≤ k ∧ k < (w9.alloc (.cells #[.slice a9 zs.length p9] 38)).heap.size := fun k hk => by
      have := World.ownsRow.lt ho9 k hk
      rw [World.size_alloc]
      exact ⟨this.1, by omega⟩
    have hcv : Bs (w9.alloc (.cells #[.slice a9 zs.length p9] 38)) (.slice a9 zs.length p9) zs := (Ow.bs ho9).keep fun k _ hk => Below.heap_alloc _ _ _ hk
    have HR : Hid (XRes w D F lb wb pre r2 (es ++ [(.slice a9 zs.length p9, zs)]) (ss ++ [es.length + 1]) s3 false (wa.setCell ⟨lb, 2, none⟩ (.slice ao6 (es.length + 1) cap6))) := XRes.addE HHa.out H2.out H3.out H4.out HL.out hA5 _ zs hcv hy (by omega) hcb _ ho6 hg6 hat6 hfe
    clear HHa H2 H3 H4 HL hA5 hcv hcb ho6 hg6 hat6 hb6 hl8 hl9 hl5 ho8 ho9 hg9 hat9 hB9 hA8 hbs8 HB3
    refine wpL_one (i := 10) (by kernel_rfl) rfl (fun K hK => ?_)
    rw [if_pos (by rfl)]
    go_simp
    refine hK.out _ _ (fun _ => c6b) ?_
    clear hK K
    refine wpL_one (i := 11) (by kernel_rfl) rfl (fun K hK => ?_)
    rw [if_pos (by rfl)]
    go_simp
    refine hK.out _ _ (fun _ => c6b) ?_
    clear hK K
    refine wpL_one (i := 12) (by kernel_rfl) rfl (fun K hK => ?_)
    rw [if_pos (by rfl)]
    go_simp
    refine hK.out _ _ (fun e => absurd rfl e) ?_
    clear hK K
    refine wpL_done (by kernel_rfl) ?_ _
    go_wp2_with fail
    go_ret2
    exact Or.inr ⟨rfl, rfl, _, HR.out⟩
  · have h7 : (r1 == 0) = false := beq_eq_false_iff_ne.2 h0
    have CF := fail_any r1 w6 hl6
    have HR : Hid (ApP w D F lb wb pre es zs ss (ss ++ [es.length + 1]) s3 (r1, r2) (.returned (.tuple #[.int .i64 0, .int .i64 r1])) (if r1 = 6 then w6 else w6.setCell ⟨lb, 5, none⟩ (.bool true))) := by
      refine Or.inl ⟨h0, rfl, ?_⟩
      show XRes w D F lb wb pre r2 es ss s3 (if r1 = 6 then false else true) _
      by_cases h6 : r1 = 6
      · rw [if_pos h6, if_pos h6]; exact HX6.out
      · rw [if_neg h6, if_neg h6]; exact HX6.out.cell 5 _ fun _ _ _ hh => hh.kill
    clear hl6
    go_wp2_with fail
    refine CF.mono ?_
    rintro e w8 ⟨rfl, hw8⟩
    rw [← hw8] at HR
    clear hw8 CF
    go_wp2_with fail
    go_ret2
    exact HR.out
end Go.Proofs.YtnkjhooeklodcaaGreatDoor
end
