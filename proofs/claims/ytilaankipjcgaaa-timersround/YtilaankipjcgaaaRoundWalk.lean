/-
  TimersRound, walked.
-/
import Derived.Test.YtilaankipjcgaaaRoundT
import Derived.StillTailTactics
import Derived.Deep.DeepCutAuto
namespace Go.Proofs.Ytilaankipjcgaaa
open Go.RowKit Go.Maps
/-- What the second loop holds. -/
def Rl (w wr : World) (sb cb : Nat) (zs : List Int) (now : Nat) : Prop := ∃ s cs F, Rn w wr sb s cb cs F ∧ OI zs (now : Int) s cs
/-- What the third loop holds. -/
def Rj (w wr : World) (sb cb : Nat) (zs : List Int) (now : Nat) (v : Value) (ds : List Int) (j : Nat) : Prop := ∃ s cs F, Rn w wr sb s cb cs F ∧ Lr w wr cb F v ds ∧ II zs (now : Int) (ds.drop j) s cs
set_option maxRecDepth 20000 in
set_option maxHeartbeats 12800000 in
theorem round_walk (v : Value) (zs : List Int) (til : Int) (w : World) (h : Is w v zs) (hr : ∀ z ∈ zs, In64 z) : Calls Try.prog 7 #[v, .int .i64 til] w fun e w' => e = .returned (.bool true) ∧ Below w.heap.size w w' := by
  obtain ⟨ao, cap, hv, hl⟩ := h.len
  subst hv
  by_cases b1 : 12 < zs.length
  · have b1' : (12 : Int) < (zs.length : Int) := by omega
    go_enter Try.func7, Try.ntmps7
    go_wp2_with (go_at_call 19; refine (known_any _).mono ?_; rintro e w1 ⟨rfl, hB⟩)
    go_ret
    exact ⟨rfl, hB⟩
  by_cases b2 : til < 0
  · have b1' : ¬ (12 : Int) < (zs.length : Int) := by omega
    go_enter Try.func7, Try.ntmps7
    go_wp2_with (go_at_call 19; refine (known_any _).mono ?_; rintro e w1 ⟨rfl, hB⟩)
    go_ret
    exact ⟨rfl, hB⟩
  by_cases b3 : 300 < til
  · have b1' : ¬ (12 : Int) < (zs.length : Int) := by omega
    go_enter Try.func7, Try.ntmps7
    go_wp2_with (go_at_call 19; refine (known_any _).mono ?_; rintro e w1 ⟨rfl, hB⟩)
    go_ret
    exact ⟨rfl, hB⟩
  have b1' : (zs.length : Int) ≤ 12 := by omega
  have hlz : zs.length ≤ 12 := by omega
  obtain ⟨T, rfl⟩ : ∃ T : Nat, til = (T : Int) := ⟨til.toNat, by omega⟩
  have HE : Hid (∀ wr : World, Below w.heap.size w wr → ∀ i, i < zs.length → ∃ b off, ao = some ⟨b, off, none⟩ ∧ wr.cell? ⟨b, off + i, none⟩ = some (.int .i64 (zs.getD i 0))) := by
    intro wr hb i hi
    rcases h with ⟨e0, _⟩ | ⟨_, _, b, off, c2, hv, hc⟩
    · rw [e0] at hi; simp at hi
    · simp only [Value.slice.injEq] at hv
      refine ⟨b, off, hv.1, ?_⟩
      have h1 := hc i hi
      rw [hb.cell (p := ⟨b, off + i, none⟩) (World.block_lt_of_cell? w _ h1)]
      exact h1
  have HR := hid_into hr
  clear h hr b1
  go_enter Try.func7, Try.ntmps7
  go_wp2_with (go_at_call 8; refine (new_any _).mono ?_; rintro e w1 ⟨rfl, h1, B1⟩)
  have HT1 : Hid (To w.heap.size w1 w.heap.size []) := To.of h1 fun k hk => hk
  have HB1 := hid_into B1
  clear h1 B1
  go_loopw [6] (fun i wr => ∃ k : Nat, k ≤ zs.length ∧ i = .int .i64 (k : Int) ∧ Hid (∃ s, To w.heap.size wr w.heap.size s ∧ BI zs k s) ∧ Hid (Below w.heap.size w wr) ∧ Hid (∀ j, j < k → 1 ≤ zs.getD j 0 ∧ zs.getD j 0 ≤ 1000)) (fun i _ => zs.length - (intOf i).toNat)
  case atStart => exact ⟨0, Nat.zero_le _, rfl, ⟨[], HT1.out, BI.zero zs⟩, HB1.out, fun j hj => by omega⟩
  case round =>
    clear HT1 HB1
    obtain ⟨k, hk, rfl, HS, HB, HZ⟩ := hrel
    by_cases hlt : k < zs.length
    · obtain ⟨b, off, hao, hc⟩ := HE.out wr HB.out k hlt
      subst hao
      obtain ⟨z, hz⟩ : ∃ z, z = zs.getD k 0 := ⟨_, rfl⟩
      rw [← hz] at hc
      have hzr : In64 z := by rw [hz]; exact HR.out _ (by simp [List.getD, hlt])
      have HZK := hid_into hz
      clear hz
      by_cases z1 : z < 1
      · go_wp2_with (go_at_call 19; refine (known_any _).mono ?_; rintro e w2 ⟨rfl, hB2⟩)
        go_ret
        exact ⟨rfl, HB.out.trans (hB2.mono HB.out.size)⟩
      by_cases z2 : 1000 < z
      · go_wp2_with (go_at_call 19; refine (known_any _).mono ?_; rintro e w2 ⟨rfl, hB2⟩)
        go_ret
        exact ⟨rfl, HB.out.trans (hB2.mono HB.out.size)⟩
      obtain ⟨s, hT, hBI⟩ := HS.out
      have HT := hid_into hT
      have HBI := hid_into (hBI.step (by omega))
      clear HS hT hBI
      go_wp2_with (go_at_call 9; refine (set_own HT.out HB.out.size _ _ (in64 _ (by omega) (by omega)) hzr).mono ?_; rintro e w2 ⟨rfl, h2, B2⟩)
      go_roundw
      case rel =>
        rw [HZK.out] at h2
        refine ⟨k + 1, by omega, by go_num, ⟨_, h2, HBI.out.2⟩, HB.out.trans B2, fun j hj => ?_⟩
        by_cases e : j = k
        · subst e; rw [← HZK.out]; omega
        · exact HZ.out j (by omega)
      case measure => simp [intOf]; omega
    · have hkz : k = zs.length := by omega
      subst hkz
      have hmk := make_ints zs.length (by omega)
      have erep : ((List.replicate zs.length (0 : Int)).map (Value.int .i64)).toArray = Array.replicate zs.length (.int .i64 0) := by simp
      obtain ⟨s, hT, hBI⟩ := HS.out
      have hst : Hid (Rl w (wr.alloc (.cells ((List.replicate zs.length (0 : Int)).map (Value.int .i64)).toArray 3)) w.heap.size wr.heap.size zs 0) := by
        have hA : Below wr.heap.size wr (wr.alloc (.cells ((List.replicate zs.length (0 : Int)).map (Value.int .i64)).toArray 3)) := (Below.refl _ _).alloc (Nat.le_refl _) _
        have hsz := HB.out.size
        exact ⟨s, List.replicate zs.length 0, fun k => w.heap.size ≤ k ∧ k < wr.heap.size, ⟨hT.keep fun k _ hk => hA.block k hk, fun k hk => ⟨hk.1, by simp; omega⟩, Cw.new wr _ 3, fun hk => by omega, hsz, HB.out.trans (hA.mono hsz)⟩, hBI.start fun i hi => (HZ.out i hi).1⟩
      rw [erep] at hst hmk
      clear HS hT hBI HB erep
      go_wp2_with fail
      rename World => wz
      go_loopw [8] (fun i wx => ∃ now : Nat, now ≤ T + 1 ∧ i = .int .i64 (now : Int) ∧ Hid (Rl w wx w.heap.size wz.heap.size zs now)) (fun i _ => T + 1 - (intOf i).toNat)
      case atStart => exact ⟨0, by omega, rfl, hst.out⟩
      case round =>
        clear hst hmk
        obtain ⟨now, hnow, rfl, HL⟩ := hrel
        by_cases hnt : now ≤ T
        · obtain ⟨s2, cs, F, hRn, hOI⟩ := HL.out
          obtain ⟨ds, hds⟩ : ∃ ds, ds = dues s2 (now : Int) := ⟨_, rfl⟩
          obtain ⟨hII, hrise⟩ := hOI.due hRn.t.srt (by omega)
          have C14 := due_any hRn.t (now : Int) fun k hk => (hRn.tl k hk).2
          rw [← hds] at C14 hII hrise
          have HRn := hid_into hRn
          have HII := hid_into hII
          have HRi := hid_into hrise
          clear HL hRn hOI hII hrise hds
          go_wp2_with (go_at_call 14; refine C14.mono ?_; rintro e w6 ⟨v6, rfl, hi6, ho6, h6, hg6⟩; obtain ⟨ao6, cap6, hv6⟩ := hi6.form; subst hv6)
          have hst2 : Hid (Rj w w6 w.heap.size wz.heap.size zs now (.slice ao6 ds.length cap6) ds 0) := by
            refine ⟨_, cs, F, HRn.out.due h6 hg6, ⟨hi6, fun k hk => ?_⟩, HII.out⟩
            have h1 := ho6 k hk
            have h2 := HRn.out.b.size
            exact ⟨by omega, fun e => by have := (HRn.out.tl k e).2; omega, fun e => by have := HRn.out.c.lt; omega⟩
          have hdl : ds.length ≤ 12 := by have := HII.out.len; omega
          clear C14 HRn HII hi6 ho6 h6 hg6
          go_loopw [10] (fun i wx => ∃ j : Nat, j ≤ ds.length ∧ i = .int .i64 (j : Int) ∧ Hid (Rj w wx w.heap.size wz.heap.size zs now (.slice ao6 ds.length cap6) ds j)) (fun i _ => ds.length - (intOf i).toNat)
          case atStart => exact ⟨0, Nat.zero_le _, rfl, hst2.out⟩
          case round =>
            clear hst2
            obtain ⟨j, hj, rfl, HJ⟩ := hrel
            by_cases hjl : j < ds.length
            · obtain ⟨s3, cs3, F3, hRn, hLr, hII⟩ := HJ.out
              have hdrop : ds.drop j = ds[j] :: ds.drop (j + 1) := List.drop_eq_getElem_cons hjl
              rw [hdrop] at hII
              obtain ⟨i0, hi0, hx⟩ := hII.sub _ List.mem_cons_self
              rw [hx] at hII
              have hnin : (i0 : Int) ∉ ds.drop (j + 1) := by
                have h1 := List.Pairwise.sublist (List.drop_sublist j ds) HRi.out
                rw [hdrop, hx] at h1
                intro e
                have := (List.pairwise_cons.1 h1).1 _ e
                omega
              obtain ⟨g, hg, hcell⟩ := hLr.cells rfl (by omega)
              subst hg
              have y1 := hcell j hjl
              have hgx : ds.getD j 0 = (i0 : Int) := by simp [List.getD, hjl, hx]
              rw [hgx] at y1
              have HY : Hid (∀ j', j' + 1 = j → ∃ y : Int, wr.cell? ⟨g, j', none⟩ = some (.int .i64 y) ∧ y < (i0 : Int)) := by
                intro j' hj'
                refine ⟨_, hcell j' (by omega), ?_⟩
                have := List.pairwise_iff_getElem.1 HRi.out j' j (by omega) hjl (by omega)
                rw [hx] at this
                simpa [List.getD, show j' < ds.length by omega] using this
              have hi0l : (i0 : Int) < (zs.length : Int) := by omega
              have HRn := hid_into hRn
              have HLr := hid_into hLr
              have HII := hid_into hII
              have HNI := hid_into hnin
              have HGX := hid_into hgx
              clear HJ hRn hLr hII hdrop hx hnin hcell hgx
              go_upto_region 20 with fail
              go_cut [99] (fun t wx => t = .bool false ∧ Hid (Sm wr wx))
              case first =>
                have d1 : decide ((i0 : Int) < 0) = false := by simp
                have d2 : decide ((zs.length : Int) ≤ (i0 : Int)) = false := by simp; omega
                have d2n : decide (zs.length ≤ i0) = false := by simp; omega
                by_cases hj0 : j = 0
                · have d3 : decide ((0 : Int) < (j : Int)) = false := by simp [hj0]
                  have d3n : decide (0 < j) = false := by simp [hj0]
                  clear hj0
                  go_big_quiet (fail)
                  go_wp2_with fail
                  go_meet
                  exact ⟨rfl, Sm.drewN _ _⟩
                · obtain ⟨j', hj'⟩ : ∃ j', j' + 1 = j := ⟨j - 1, by omega⟩
                  obtain ⟨y, hy1, hy2⟩ := HY.out j' hj'
                  have d3 : decide ((0 : Int) < (j : Int)) = true := by simp; omega
                  have d3n : decide (0 < j) = true := by simp; omega
                  have d4 : decide ((i0 : Int) ≤ y) = false := by simp; omega
                  have hw1 : IntKind.i64.wrap ((j : Int) - 1) = (j' : Int) := by rw [IntKind.wrap_i64]; omega
                  have hw2 : wrap64 ((j : Int) - 1) = (j' : Int) := by simp only [wrap64]; omega
                  have hj'l : j' < ds.length := by omega
                  clear hj0 hj'
                  go_big_quiet (fail)
                  go_wp2_with fail
                  go_meet
                  exact ⟨rfl, Sm.drewN _ _⟩
              case rest =>
                rename World => wc
                obtain ⟨rfl, HSm⟩ := hcut
                have hRn := HRn.out.other (HSm.out.below _)
                have hLr := HLr.out.other (HSm.out.below _)
                have hII := HII.out
                obtain ⟨hz1, hz2⟩ := HZ.out i0 hi0
                obtain ⟨hc0, hc1⟩ := hII.count hi0 hz1
                obtain ⟨hst3, hnone⟩ := hII.step hz1 HNI.out
                obtain ⟨g', hg', hcell⟩ := hLr.cells rfl (by omega)
                simp only [Option.some.injEq, Addr.mk.injEq, and_true] at hg'
                subst hg'
                have y2 := hcell j hjl
                rw [HGX.out] at y2
                obtain ⟨eb, eo, hao, e1⟩ := HE.out wc hRn.b i0 hi0
                subst hao
                obtain ⟨z, hz⟩ : ∃ z, z = zs.getD i0 0 := ⟨_, rfl⟩
                obtain ⟨c, hc⟩ : ∃ c, c = cs3.getD i0 0 := ⟨_, rfl⟩
                obtain ⟨q, hq⟩ : ∃ q, q = (now : Int) + z := ⟨_, rfl⟩
                have hRn2 := hRn.count i0 (c + 1)
                have hLr2 := hLr.count i0 (.int .i64 (c + 1))
                obtain ⟨g2, hg2, hcell2⟩ := hLr2.cells rfl (by omega)
                simp only [Option.some.injEq, Addr.mk.injEq, and_true] at hg2
                subst hg2
                have y3 := hcell2 j hjl
                rw [HGX.out] at y3
                obtain ⟨eb', eo', hao', e2⟩ := HE.out _ hRn2.b i0 hi0
                simp only [Option.some.injEq, Addr.mk.injEq, and_true] at hao'
                obtain ⟨rfl, rfl⟩ := hao'
                have cc := hRn.cell (i := i0) (by rw [hII.cl]; exact hi0)
                have cfz := hRn.c.frozen i0
                rw [← hz] at hz1 hz2 e1 e2 hst3
                rw [← hc] at hc0 hc1 cc hst3
                rw [← hq] at hst3
                have hqr : In64 q := by rw [hq]; exact in64 _ (by omega) (by omega)
                have hws : IntKind.i64.wrap ((now : Int) + z) = q := by rw [IntKind.wrap_i64, hq]; omega
                have hws2 : wrap64 ((now : Int) + z) = q := by rw [hq]; simp only [wrap64]; omega
                have hsl3 : s3.length ≤ 12 := by have := hII.len; omega
                have hcan : canS s3 (i0 : Int) = true := by simp only [canS, Bool.or_eq_true, decide_eq_true_eq]; exact Or.inr (by omega)
                have hset : setS s3 (i0 : Int) q = put s3 (i0 : Int) q := by simp [setS, hcan]
                have HS3 := hid_into hst3
                have HRd := hid_into (hRn2.other ((Below.refl _ _).drew))
                have HLd := hid_into (hLr2.other ((Below.refl _ _).drew))
                have HS4 := hid_into hset
                have HIN : Hid (In64 (i0 : Int)) := in64 _ (by omega) (by omega)
                have hc300 : c ≤ 300 := by omega
                clear HRn HLr HII hRn hLr hII hst3 hnone hcell hcell2 hRn2 hLr2 hz hc hq hcan hset y1 HY HSm
                go_wp2_with fail
                refine wp_region_still_tail 14 (by kernel_rfl) (by kernel_rfl) ?_
                simp only [List.take_succ_cons, List.take_zero, List.drop_succ_cons, List.drop_zero]
                change wpStill _ _ (World.drew _) _ _ _
                repeat still_step
                refine wpStill_nil ?_
                change wpList _ _ _ _ _ (World.drew _)
                go_wp2_with (go_at_call 9; refine (set_any HRd.out.t _ _ HIN.out hqr).mono ?_; rintro e w8 ⟨rfl, h8, hg8⟩; rw [HS4.out] at h8)
                go_roundw
                case rel => exact ⟨j + 1, by omega, by go_num, ⟨_, _, _, HRd.out.set h8 hg8, HLd.out.set hg8, HS3.out⟩⟩
                case measure => simp [intOf]; omega
            · have hjd : ds.drop j = [] := List.drop_of_length_le (by omega)
              obtain ⟨s3, cs3, F3, hRn, hLr, hII⟩ := HJ.out
              rw [hjd] at hII
              have HRn := hid_into hRn
              have HO : Hid (OI zs ((now : Int) + 1) s3 cs3) := hII.done
              clear HJ hRn hLr hII hjd
              go_wp2_with fail
              go_roundw
              case rel => exact ⟨now + 1, by omega, by go_num, ⟨_, _, _, HRn.out, HO.out⟩⟩
              case measure => simp [intOf]; omega
        · have hnT : now = T + 1 := by omega
          obtain ⟨s2, cs, F, hRn, hOI⟩ := HL.out
          rw [show ((now : Nat) : Int) = (T : Int) + 1 by omega] at hOI
          have HRn := hid_into hRn
          have HOI := hid_into hOI
          clear HL hRn hOI
          go_wp2_with fail
          rename World => wy
          go_loopw [11] (fun i wx => ∃ k2 : Nat, k2 ≤ zs.length ∧ i = .int .i64 (k2 : Int) ∧ Hid (Sm wy wx)) (fun i _ => zs.length - (intOf i).toNat)
          case atStart => exact ⟨0, Nat.zero_le _, rfl, Sm.refl _⟩
          case round =>
            obtain ⟨k2, hk2, rfl, HSm⟩ := hrel
            have hRr := HRn.out.other (HSm.out.below _)
            by_cases hlt2 : k2 < zs.length
            · obtain ⟨eb, eo, hao, e1⟩ := HE.out wr hRr.b k2 hlt2
              subst hao
              have hz1 := (HZ.out k2 hlt2).1
              have hz2 := (HZ.out k2 hlt2).2
              have cc := hRr.cell (i := k2) (by rw [HOI.out.cl]; exact hlt2)
              have hend := HOI.out.end (by omega) hlt2 hz1
              obtain ⟨z, hz⟩ : ∃ z, z = zs.getD k2 0 := ⟨_, rfl⟩
              obtain ⟨c, hc⟩ : ∃ c, c = cs.getD k2 0 := ⟨_, rfl⟩
              rw [← hz] at hz1 hz2 e1 hend
              rw [← hc] at cc hend
              have htd : (T : Int).tdiv z = c := by rw [Int.tdiv_eq_ediv_of_nonneg (by omega)]; exact hend
              have hz0 : ¬ z = 0 := by omega
              have hzb : (z == 0) = false := by simp [hz0]
              have hcT : 0 ≤ c ∧ c ≤ 300 := by
                rw [← hend]
                exact ⟨Int.ediv_nonneg (by omega) (by omega), Int.le_trans (Int.ediv_le_self _ (by omega)) (by omega)⟩
              have hcw : IntKind.i64.wrap c = c := by rw [IntKind.wrap_i64]; omega
              have hcw2 : wrap64 c = c := by simp only [wrap64]; omega
              clear hz hc hRr
              go_wp2_with fail
              go_quiet (fail)
              go_wp2_with fail
              go_roundw
              case rel => exact ⟨k2 + 1, by omega, by go_num, HSm.out.trans (Sm.drewN _ _)⟩
              case measure => simp [intOf]; omega
            · have HR2 := hid_into hRr
              have HLn : Hid ((s2.length : Int) = (zs.length : Int)) := by show _ = _; rw [HOI.out.len]
              clear hRr
              go_wp2_with (first
                | (go_at_call 18; refine (tlen_any HR2.out.t).mono ?_; rintro e w9 ⟨rfl, rfl⟩; rw [HLn.out])
                | (go_at_call 19; refine (known_any _).mono ?_; rintro e w10 ⟨rfl, hB⟩))
              go_ret
              exact ⟨rfl, HR2.out.b.trans (hB.mono HR2.out.b.size)⟩
end Go.Proofs.Ytilaankipjcgaaa
