/-
  Joined from: RStates, RPlay.
-/
import Derived.Test.YtbfldcieibdapabGreatM23
import Derived.Test.YtbfldcieibdapabGreatM32
import Derived.Test.YtbfldcieibdapabGreatM33
section
/-
  The document's States and Play.
-/
namespace Go.Proofs.YtbfldcieibdapabGreat
open Go.RowKit
/-- A row of one state. -/
theorem So.one {w : World} {base g : Nat} {s : Sp} (hs : s.Wf) (h : Cw w g (stV s) 44) (hb : base ≤ g) : So w base (.slice (some ⟨g, 0, none⟩) 1 1) [s] := by
  have hl := (stV_c hs).len
  have e : cellsS [s] = stV s := by simp [cellsS]
  refine ⟨⟨by rw [e, hl]; rfl, Or.inr ⟨g, 1, (stV s).toArray, rfl, hb, h, Nat.le_refl _, by unfold maxLen; omega, by rw [List.size_toArray, hl], ?_⟩⟩, fun t ht => by rw [List.mem_singleton.1 ht]; exact hs⟩
  rw [e]
  show (stV s).take (1 * 20) = stV s
  exact List.take_of_length_le (by rw [hl]; omega)
/-- The game and the state. -/
structure Gv (w W : World) (b : Nat) (cv : Value) (cap fuel : Int) (cs : List Value) : Prop where
  g : Cw W w.heap.size [cv, .int .i64 cap, .int .i64 fuel] 24
  s : Cw W b cs 44
  lt : w.heap.size < b
  below : Below w.heap.size w W
theorem Gv.next {w W W' : World} {b : Nat} {cv : Value} {cap fuel : Int} {cs : List Value} (h : Gv w W b cv cap fuel cs) (hb : Below W.heap.size W W') : Gv w W' b cv cap fuel cs := ⟨h.g.below hb h.g.lt, h.s.below hb h.s.lt, h.lt, h.below.trans (hb.mono h.below.size)⟩
theorem Gv.set {w W W' : World} {b : Nat} {cv : Value} {cap fuel : Int} {cs ds : List Value} (h : Gv w W b cv cap fuel cs) (O : Only b W W') (hc : Cw W' b ds 44) : Gv w W' b cv cap fuel ds := ⟨O.cw h.g (by have := h.lt; omega), hc, h.lt, h.below.trans (O.below (by have := h.lt; omega))⟩
theorem Gv.grown {w W W' : World} {b : Nat} {cv v : Value} {cap fuel : Int} {cs : List Value} {xs : List Sp} (h : Gv w W b cv cap fuel cs) (ho : So W (b + 1) v xs) (hg : W.grownBy W' v.ownBlock) : Gv w W' b cv cap fuel cs := by
  have hl := h.lt
  have hn : ∀ k, k ≤ b → v.ownBlock ≠ some k := fun k hk e => by have := ho.lt k e; omega
  refine ⟨h.g.keep (hg.block _ h.g.lt fun e => hn _ (by omega) e.symm), h.s.keep (hg.block _ h.s.lt fun e => hn _ (by omega) e.symm), hl, h.below.trans ?_⟩
  exact Grows.below (Grows.grownBy (F := fun k => v.ownBlock = some k) hg fun k hk => hk) h.below.size fun k hk => by have := ho.lt k hk; omega
set_option maxRecDepth 20000 in
set_option maxHeartbeats 4000000 in
theorem rStates_any (cv : Value) (l : List Ii) (cap fuel seed : Int) (iv : Value) (ps : List (Int × Int)) (w : World) (hl : Ls w cv l) (hp : Ps w iv ps) (hin : InP ps) (hseed : 0 ≤ seed ∧ seed < 4294967296) (hK : ps.length < 100000) :
    Calls Tryz.prog 32 #[gameV cv cap fuel, .int .u32 seed, iv] w fun e w' => StsP w l cap fuel seed ps e w' := by
  obtain ⟨ao, cp, rfl, hm⟩ := hl.len
  obtain ⟨ai, ci, rfl, hmi⟩ := hp.len
  have HG1 : Hid (Cw (w.alloc (.cells #[.slice ao l.length cp, .int .i64 cap, .int .i64 fuel] 24)) w.heap.size [.slice ao l.length cp, .int .i64 cap, .int .i64 fuel] 24) := Cw.new w [.slice ao l.length cp, .int .i64 cap, .int .i64 fuel] 24
  have HB1 : Hid (Below w.heap.size w (w.alloc (.cells #[.slice ao l.length cp, .int .i64 cap, .int .i64 fuel] 24))) := (Below.refl _ _).alloc (Nat.le_refl _) _
  have C17 : Hid (∀ W, Below w.heap.size w W → Calls Tryz.prog 6 #[.agg #[.slice ao l.length cp, .int .i64 cap, .int .i64 fuel]] W fun e w' => e = .returned (.int .i64 (chkG l cap fuel)) ∧ Below W.heap.size W w') := fun W hW => rChk_any _ l cap fuel W (hl.below hW)
  unfold StsP gameV
  by_cases hc : chkG l cap fuel = 0
  · have hcap := chkG_cap hc
    have hg0 := startS_gs seed cap hseed hcap.2.1
    rw [hc] at C17 ⊢
    rw [if_pos rfl]
    have C20 := fun W => rStart_any seed W
    have HSteps : Hid (∀ W s p, Below w.heap.size w W → Gs cap s → s.over = false → p ∈ ps → Gs cap (stepS l cap fuel s p.1 p.2) ∧ Calls Tryz.prog 48 #[.agg #[.slice ao l.length cp, .int .i64 cap, .int .i64 fuel], .agg (stV s).toArray, .agg #[.int .u16 p.1, .int .u16 p.2]] W fun e w' => e = .returned (.tuple #[.agg (stV (stepS l cap fuel s p.1 p.2)).toArray, .int .i64 0]) ∧ Below W.heap.size W w') := fun W s p hW hs ho hpp => by
      have h := rStep_any _ l cap fuel s p.1 p.2 W (hl.below hW) hs.wf (hin p hpp).1 (hin p hpp).2
      have hE := hs.stepE hc ho
      rw [show stepF l cap fuel s p.1 p.2 = (stepS l cap fuel s p.1 p.2, 0) from if_pos hE] at h
      exact ⟨stepS_facts hs.wf (hin p hpp).1 (hin p hpp).2 hE, h⟩
    have HX : Hid ([startS seed] ++ goS l cap fuel (startS seed) (ps.drop 0) = startS seed :: goS l cap fuel (startS seed) ps) := rfl
    generalize startS seed :: goS l cap fuel (startS seed) ps = X at HX ⊢
    have HP := hid_into hp
    have HL0 := st_len hg0.wf
    have HO0 := st_one hg0.wf
    have HN0 := st_size hg0.wf
    have HR0 := hid_into (fun W => run_one_st W hg0.wf)
    have HZ : Hid ((Tryz.prog.info? 44).bind (·.zero) = some (.agg zeroS.toArray)) := Tryz.zero44
    have ZS := zeroS_size
    have HG0 := hid_into hg0
    generalize startS seed = s0 at C20 HX HL0 HO0 HN0 HR0 HG0
    clear hg0 hc hcap hl hp hin hm
    obtain ⟨c0, hc0⟩ : ∃ c0, c0 = stV s0 := ⟨_, rfl⟩
    rw [← hc0] at C20 HL0 HO0 HN0 HR0
    have HC0 := hid_into hc0
    clear hc0
    go_enter Tryz.func32, Tryz.ntmps32
    go_upto_block 0 with (go_big_may; first
      | (go_at_call 6; refine (C17.out _ HB1.out).mono ?_; rintro e w2 ⟨rfl, B2⟩; have HG2 := hid_into (HG1.out.below B2 (by rw [World.size_alloc]; omega)); have HB2 := hid_into (HB1.out.trans (B2.mono HB1.out.size)); clear B2)
      | (go_at_call 47; refine (C20 _).mono ?_; rintro e w4 ⟨rfl, B3⟩; have HG3 := hid_into (HG2.out.below B3 HG2.out.lt); have HB3 := hid_into (HB2.out.trans (B3.mono HB2.out.size)); clear B3)
      | (refine wpList_alloc_row rfl 44 rfl zeroS HZ.out ?_; intro V1 hn1 b1 hs1)
      | (refine wpList_store_rw rfl 44 (.tmp 9) (.tmp 18) rfl w4.heap.size zeroS c0 44 rfl rfl ?_ ZS HL0 HO0.out ?_; exact hn1; intro V2 hn2 o2; have HV2 : Hid (Gv w V2 w4.heap.size (.slice ao l.length cp) cap fuel c0) := ⟨o2.cw (HG3.out.below b1 HG3.out.lt) (by have := HG3.out.lt; omega), hn2, HG3.out.lt, (HB3.out.trans (b1.mono HB3.out.size)).trans (o2.below HB3.out.size)⟩; clear HG1 HG2 HG3 HB1 HB2 HB3 b1 hs1 hn1 o2)
      | (refine wpList_load_rw rfl 44 (.tmp 9) rfl w4.heap.size c0 44 _ rfl ?_ Tryz.underlying44 rfl HN0 ?_; exact HV2.out.s)
      | (refine wpList_one_st rfl (.tmp 19) rfl c0 HR0 rfl ?_; intro V3 hn3 b3 hs3; have HV3 := hid_into (HV2.out.next b3); have HO3 : Hid (So V3 (w4.heap.size + 1) (.slice (some ⟨V2.heap.size, 0, none⟩) 1 1) [s0]) := So.one HG0.out.wf (by rw [← HC0.out]; exact hn3) HV2.out.s.lt; clear HV2 hn3 b3 hs3))
    go_wp2_with fail
    go_loopw [10, 11] (fun lv i wr => ∃ (k : Nat) (s : Sp) (xs : List Sp) (av : Option Addr) (cx : Nat), k ≤ ps.length ∧ lv = .slice av xs.length cx ∧ i = .int .i64 (k : Int) ∧ Hid (Gs cap s) ∧ Hid (xs ++ goS l cap fuel s (ps.drop k) = X) ∧ Hid (xs.length = k + 1) ∧ Hid (So wr (w4.heap.size + 1) (.slice av xs.length cx) xs) ∧ Hid (Gv w wr w4.heap.size (.slice ao l.length cp) cap fuel (stV s))) (fun _ i _ => ps.length - (intOf i).toNat)
    case atStart => exact ⟨0, s0, [s0], _, 1, Nat.zero_le _, rfl, rfl, HG0.out, HX.out, rfl, HO3.out, by rw [HC0.out] at HV3; exact HV3.out⟩
    case round =>
      clear HX HG0 HO3 HV3 C20 HL0 HO0 HN0 HR0 HC0
      obtain ⟨k, s, xs, av, cx, hk, rfl, rfl, HG, HX, HXl, HO, HV⟩ := hrel
      have HCs := hid_into (stV_c HG.out.wf)
      have c18 := (HV.out.s.cell 18).trans HCs.out.over
      by_cases hlt : k < ps.length
      · have hlt' : (k : Int) < ps.length := by omega
        cases hov : s.over with
        | true =>
          rw [hov] at c18
          have HX2 := hid_into (HX.out.symm.trans (by rw [goS_over (ps.drop k) hov, List.append_nil]))
          go_wp2_with fail
          go_ret2
          exact ⟨_, rfl, by rw [HX2.out]; exact HO.out.mono (by have := HV.out.lt; omega), HV.out.below⟩
        | false =>
          rw [hov] at c18
          obtain ⟨p, hpk⟩ : ∃ p, ps[k]? = some p := ⟨_, List.getElem?_eq_getElem hlt⟩
          obtain ⟨ga, off, hao, x0, x1⟩ := HP.out.at HV.out.below (Nat.le_refl _) _ _ hpk
          subst hao
          have hpm := List.mem_of_getElem? hpk
          have HT := hid_into fun W hW => HSteps.out W s p hW HG.out hov hpm
          have HX2 := hid_into ((congrArg (xs ++ ·) (goS_step (l := l) (cap := cap) (fuel := fuel) hpk hov)).symm.trans HX.out)
          have HGt := hid_into (HSteps.out w s p (Below.refl _ _) HG.out hov hpm).1
          generalize stepS l cap fuel s p.1 p.2 = t at HT HX2 HGt
          have CT : Hid (∀ W, Below wr.heap.size wr W → Calls Tryz.prog 48 #[.agg #[.slice ao l.length cp, .int .i64 cap, .int .i64 fuel], .agg (stV s).toArray, .agg #[.int .u16 p.1, .int .u16 p.2]] W fun e w' => e = .returned (.tuple #[.agg (stV t).toArray, .int .i64 0]) ∧ Below W.heap.size W w') := fun W hW => (HT.out W (HV.out.below.trans (hW.mono HV.out.below.size))).2
          have HSk : Hid (∀ V, Below wr.heap.size wr V → ((V.cell? ⟨w.heap.size, 0, none⟩ = some (.slice ao l.length cp) ∧ V.cell? ⟨w.heap.size, 1, none⟩ = some (.int .i64 cap) ∧ V.cell? ⟨w.heap.size, 2, none⟩ = some (.int .i64 fuel)) ∧ V.rangeAt w4.heap.size 0 (stV s) ∧ V.cell? ⟨ga, off + k * 2, none⟩ = some (.int .u16 p.1) ∧ V.cell? ⟨ga, off + k * 2 + 1, none⟩ = some (.int .u16 p.2))) := fun V hV =>
            have hg := HV.out.g.below hV HV.out.g.lt
            have hal := World.block_lt_of_cell? wr _ x0
            ⟨⟨hg.cell 0, hg.cell 1, hg.cell 2⟩, (HV.out.s.below hV HV.out.s.lt).range, (hV.cell (p := ⟨ga, off + k * 2, none⟩) hal).trans x0, (hV.cell (p := ⟨ga, off + k * 2 + 1, none⟩) hal).trans x1⟩
          have HBr : Hid (Below wr.heap.size wr wr) := Below.refl _ _
          have HNs := st_size HG.out.wf
          have HLse : Hid ((stV s).length = (stV t).length) := by rw [(stV_c HG.out.wf).len, (stV_c HGt.out.wf).len]; exact hid_into rfl
          have HOe := st_one HGt.out.wf
          have HNe := st_size HGt.out.wf
          have HRe := hid_into (fun W => run_one_st W HGt.out.wf)
          obtain ⟨cs, hcs⟩ : ∃ cs, cs = stV s := ⟨_, rfl⟩
          obtain ⟨es, hes⟩ : ∃ es, es = stV t := ⟨_, rfl⟩
          rw [← hcs] at CT HSk HNs HLse HV HCs
          rw [← hes] at CT HLse HOe HNe HRe
          have HES := hid_into hes
          have HCb := hid_into HV.out.s
          have hk64 : (k : Int) + 1 ≤ 9223372036854775807 := by have h9 := hmi; unfold maxLen at h9; omega
          clear hcs hes HT x0 x1 hpk hpm HX
          go_upto_region 9 with fail
          have S1 := HSk.out wr.drew (Below.refl _ _).drew
          have HB0 : Hid (Below wr.heap.size wr wr.drew) := (Below.refl _ _).drew
          refine wp_region_M 10 (fun V => (V.cell? ⟨w.heap.size, 0, none⟩ = some (.slice ao l.length cp) ∧ V.cell? ⟨w.heap.size, 1, none⟩ = some (.int .i64 cap) ∧ V.cell? ⟨w.heap.size, 2, none⟩ = some (.int .i64 fuel)) ∧ V.rangeAt w4.heap.size 0 cs ∧ V.cell? ⟨ga, off + k * 2, none⟩ = some (.int .u16 p.1) ∧ V.cell? ⟨ga, off + k * 2 + 1, none⟩ = some (.int .u16 p.2)) (by kernel_rfl) ?_
          change wpM _ _ _ _ _ _ _ _ _ (World.drew _)
          refine wpM_take 0 33 (v := .agg #[.slice ao l.length cp, .int .i64 cap, .int .i64 fuel]) rfl rfl (by kernel_rfl) (by kernel_rfl) (by kernel_rfl) (by kernel_rfl) (by kernel_rfl) (by kernel_rfl) (fun _ _ _ h => h) S1 (Or.inl ⟨by kernel_rfl, by intro V hV; obtain ⟨⟨y0, y1, y2⟩, _, z0, z1⟩ := hV; go_simp⟩) ?_
          refine wpM_take 1 34 (v := .agg cs.toArray) rfl rfl (by kernel_rfl) (by kernel_rfl) (by kernel_rfl) (by kernel_rfl) (by kernel_rfl) (by kernel_rfl) (fun _ _ _ h => h) S1 (yieldsIf_load_mid (by kernel_rfl) 44 (.tmp 9) rfl w4.heap.size 0 rfl cs _ (fun V h => h.2.1) Tryz.underlying44 rfl HNs.out) ?_
          refine wpM_takeF 2 35 (v := .slice (some ⟨ga, off, none⟩) ps.length ci) rfl rfl (by kernel_rfl) (by kernel_rfl) (by kernel_rfl) (by kernel_rfl) (fun _ _ _ h => h) (fun _ => S1) (Or.inl ⟨by kernel_rfl, by intro V _; go_simp⟩) ?_
          refine wpM_takeF 3 36 (v := .int .i64 (k : Int)) rfl rfl (by kernel_rfl) (by kernel_rfl) (by kernel_rfl) (by kernel_rfl) (fun _ _ _ h => h) (fun _ => S1) (Or.inl ⟨by kernel_rfl, by intro V _; go_simp⟩) ?_
          refine wpM_takeF 4 37 (v := .pointer (some ⟨ga, off + k * 2, none⟩)) rfl rfl (by kernel_rfl) (by kernel_rfl) (by kernel_rfl) (by kernel_rfl) (fun _ _ _ h => h) (fun _ => S1) (Or.inl ⟨by kernel_rfl, by intro V _; go_simp⟩) ?_
          refine wpM_take 5 38 (v := .agg #[.int .u16 p.1, .int .u16 p.2]) rfl rfl (by kernel_rfl) (by kernel_rfl) (by kernel_rfl) (by kernel_rfl) (by kernel_rfl) (by kernel_rfl) (fun _ _ _ h => h) S1 (Or.inl ⟨by kernel_rfl, by intro V hV; obtain ⟨⟨y0, y1, y2⟩, _, z0, z1⟩ := hV; go_simp⟩) ?_
          refine wpM_one (i := 6) (by kernel_rfl) rfl (fun KK hK => ?_)
          go_simp
          refine (CT.out _ (HBr.out.trans (HB0.out.mono HBr.out.size))).mono ?_
          rintro e w3 ⟨rfl, Bx⟩
          have HB3 := hid_into (HB0.out.trans (Bx.mono HB0.out.size))
          have S3 := HSk.out w3 HB3.out
          dsimp only
          refine hK.out _ _ (fun _ _ => by exact S3) ?_
          clear hK KK Bx
          refine wpM_takeF 7 32 (v := .tuple #[.agg es.toArray, .int .i64 0]) rfl rfl (by kernel_rfl) (by kernel_rfl) (by kernel_rfl) (by kernel_rfl) (fun _ _ _ h => h) (fun _ => S3) (Or.inl ⟨by kernel_rfl, by intro V _; go_simp⟩) ?_
          refine wpM_takeF 8 40 (v := .agg es.toArray) rfl rfl (by kernel_rfl) (by kernel_rfl) (by kernel_rfl) (by kernel_rfl) (fun _ _ _ h => h) (fun _ => S3) (Or.inl ⟨by kernel_rfl, by intro V _; go_simp⟩) ?_
          refine wpM_takeF 9 41 (v := .int .i64 0) rfl rfl (by kernel_rfl) (by kernel_rfl) (by kernel_rfl) (by kernel_rfl) (fun _ _ _ h => h) (fun _ => S3) (Or.inl ⟨by kernel_rfl, by intro V _; go_simp⟩) ?_
          refine wpM_one (i := 10) (by kernel_rfl) rfl (fun KK hK => ?_)
          refine step_store_rw rfl 44 (.tmp 9) (.tmp 40) rfl w4.heap.size cs es 44 rfl rfl (HCb.out.below HB3.out HCb.out.lt) HNs HLse HOe ?_
          intro W4 hc4 O4
          refine hK.out _ _ (fun _ h => absurd rfl h) ?_
          clear hK KK S1 S3
          refine wpM_done (by kernel_rfl) ?_ _
          have HV4 := hid_into ((HV.out.next HB3.out).set O4 hc4)
          have HO4 := hid_into ((HO.out.below HB3.out).only O4 (fun e => by have := HO.out.lt _ e; omega))
          clear HB3 O4 hc4 HV HO HCb HSk CT HBr
          go_wp2_with (first
            | (refine wpList_load_rw rfl 44 (.tmp 9) rfl w4.heap.size es 44 _ rfl ?_ Tryz.underlying44 rfl HNe ?_; exact HV4.out.s)
            | (refine wpList_one_st rfl (.tmp 43) rfl es HRe rfl ?_; intro V5 hn5 b5 hs5; have HV5 := hid_into (HV4.out.next b5); have HO5 := hid_into (HO4.out.below b5); have HN5 : Hid (Cw V5 W4.heap.size (stV t) 44) := by rw [← HES.out]; exact hn5)
            | (at_builtin; refine wpList_append_st _ rfl (.tmp 42) (.tmp 44) rfl (w4.heap.size + 1) (.slice av xs.length cx) xs rfl ?_ W4.heap.size 1 t ?_ rfl ?_ ?_ ?_ ?_; exact HO5.out; exact HGt.out.wf; exact HN5.out; (rw [HXl.out]; omega); (have := HV5.out.s.lt; omega); intro ao6 cap6 W6 hO6 hG6 _; have HV6 := hid_into (HV5.out.grown HO5.out hG6); have HO6 := hid_into hO6))
          go_roundw
          case rel =>
            refine ⟨k + 1, t, xs ++ [t], ao6, cap6, by omega, by rw [List.length_append]; rfl, by go_num, HGt.out, ?_, ?_, ?_, ?_⟩
            · show (xs ++ [t]) ++ _ = _
              rw [List.append_assoc]; exact HX2.out
            · show (xs ++ [t]).length = _
              rw [List.length_append, HXl.out]; rfl
            · rw [List.length_append]; exact HO6.out
            · rw [HES.out] at HV6; exact HV6.out
          case measure => simp [intOf]; omega
      · have HX2 := hid_into (HX.out.symm.trans (by rw [goS_end (by omega), List.append_nil]))
        have hlt' : ¬ (k : Int) < ps.length := by omega
        go_wp2_with fail
        go_ret2
        exact ⟨_, rfl, by rw [HX2.out]; exact HO.out.mono (by have := HV.out.lt; omega), HV.out.below⟩
  · rw [if_neg hc]
    generalize chkG l cap fuel = E at hc C17 ⊢
    have hE' : (E != 0) = true := by simp [hc]
    clear hl hp hin hm
    go_enter Tryz.func32, Tryz.ntmps32
    go_wp2_with (go_at_call 6; refine (C17.out _ HB1.out).mono ?_; rintro e w2 ⟨rfl, B2⟩; have HB2 := hid_into (HB1.out.trans (B2.mono HB1.out.size)); clear B2)
    go_ret2
    exact ⟨_, rfl, So.nil _ _, HB2.out⟩
end Go.Proofs.YtbfldcieibdapabGreat
end

section
/-
  The document's Play.
-/
namespace Go.Proofs.YtbfldcieibdapabGreat
open Go.RowKit
set_option maxRecDepth 20000 in
set_option maxHeartbeats 4000000 in
theorem rPlay_any (cv : Value) (l : List Ii) (cap fuel seed : Int) (iv : Value) (ps : List (Int × Int)) (w : World) (hl : Ls w cv l) (hp : Ps w iv ps) (hin : InP ps) (hseed : 0 ≤ seed ∧ seed < 4294967296) (hK : ps.length < 100000) :
    Calls Tryz.prog 11 #[gameV cv cap fuel, .int .u32 seed, iv] w fun e w' => e = .returned (.tuple #[.agg (stV (playE l cap fuel seed ps).1).toArray, .int .i64 (playE l cap fuel seed ps).2]) ∧ Below w.heap.size w w' := by
  obtain ⟨os, hos⟩ : ∃ os, os = zeroS := ⟨_, rfl⟩
  have HZ : Hid ((Tryz.prog.info? 44).bind (·.zero) = some (.agg os.toArray)) := by rw [hos]; exact Tryz.zero44
  have HSo : Hid ((Tryz.prog.info? 44).map (·.size) = some os.length) := by rw [hos]; exact Tryz.size44
  have HBz : Hid (Tryz.prog.built 44 [] = some os.toArray) := by rw [hos]; exact built28z
  have HOo : Hid (∀ v ∈ os, v.oneCell' = true) := by rw [hos]; exact hid_into (by decide)
  obtain ⟨ao, cp, rfl, hm⟩ := hl.len
  have C13 : Hid (∀ W, Below w.heap.size w W → Calls Tryz.prog 32 #[.agg #[.slice ao l.length cp, .int .i64 cap, .int .i64 fuel], .int .u32 seed, iv] W fun e w' => StsP W l cap fuel seed ps e w') := fun W hW => rStates_any _ l cap fuel seed iv ps W (hl.below hW) (hp.below hW) hin hseed hK
  unfold gameV
  by_cases hc : chkG l cap fuel = 0
  · have hgl := goS_last l cap fuel ps (startS seed)
    have hgn := goS_len l cap fuel ps (startS seed)
    have hwf : (endG l cap fuel (startS seed) ps).Wf := (endG_gs hc ps _ hin (startS_gs seed cap hseed (chkG_cap hc).2.1)).wf
    rw [show playE l cap fuel seed ps = (endG l cap fuel (startS seed) ps, 0) from if_pos hc]
    have C13' : Hid (∀ W, Below w.heap.size w W → Calls Tryz.prog 32 #[.agg #[.slice ao l.length cp, .int .i64 cap, .int .i64 fuel], .int .u32 seed, iv] W fun e w' => ∃ v, e = .returned (.tuple #[v, .int .i64 0]) ∧ So w' W.heap.size v (startS seed :: goS l cap fuel (startS seed) ps) ∧ Below W.heap.size W w') := fun W hW => by
      have h := C13.out W hW
      unfold StsP at h
      rw [hc, if_pos rfl] at h
      exact h
    clear C13
    obtain ⟨m, hm1⟩ : ∃ m, (startS seed :: goS l cap fuel (startS seed) ps).length = m + 1 := ⟨_, rfl⟩
    have hm2 : m < 100000 := by rw [List.length_cons] at hm1; omega
    have HXm : Hid ((startS seed :: goS l cap fuel (startS seed) ps)[m]? = some (endG l cap fuel (startS seed) ps)) := by
      rw [← hgl, List.getLast_eq_getElem, List.getElem?_eq_getElem (by omega)]
      refine hid_into ?_
      congr 1
      congr 1
      omega
    have HN := st_size hwf
    have HLn : Hid (os.length = (stV (endG l cap fuel (startS seed) ps)).length) := by rw [hos, (stV_c hwf).len]; exact hid_into rfl
    have HOn := st_one hwf
    generalize startS seed :: goS l cap fuel (startS seed) ps = X at C13' hm1 HXm
    generalize endG l cap fuel (startS seed) ps = E at HXm HN HLn HOn
    have Hm1 := hid_into hm1
    obtain ⟨es, hes⟩ : ∃ es, es = stV E := ⟨_, rfl⟩
    rw [← hes] at HN HLn HOn ⊢
    have HES := hid_into hes
    have hm3 : (m : Int) < 100000 := by omega
    clear hes hm1 hwf hgl hgn hc hos hl hp hin hm hseed hK
    go_enter Tryz.func11, Tryz.ntmps11
    go_wp2_with (first
      | (refine wpList_alloc_row rfl 44 rfl os HZ.out ?_; intro W2 hr2 B2 HS2; have H := hid_into (Fh.make hr2 B2); have k0 := H.out.g.cell 0; have k1 := H.out.g.cell 1; have k2 := H.out.g.cell 2; simp only [List.getElem?_cons_zero, List.getElem?_cons_succ] at k0 k1 k2; clear hr2 B2 HS2)
      | (go_at_call 32; refine (C13'.out _ H.out.below).mono ?_; rintro e w3 ⟨v, rfl, hO, B3⟩; have H3 := hid_into (H.out.next B3); obtain ⟨av, cx, rfl⟩ := hO.form; obtain ⟨g, hav, _, _, hrg⟩ := hO.at m E HXm.out; subst hav; have HRg := hid_into hrg; have hXl := Hm1.out; rw [hXl]; clear hXl hrg hO B3 H k0 k1 k2 C13')
      | (refine wpList_load_mid rfl 44 (.tmp 25) rfl g (m * 20) rfl es _ ?_ Tryz.underlying44 rfl HN.out ?_; (rw [HES.out]; exact HRg.out))
      | (refine wpList_store_rw rfl 44 (.tmp 6) (.tmp 26) rfl (w.heap.size + 1) os es 44 rfl rfl ?_ HSo HLn HOn.out ?_; exact H3.out.r; intro W4 hr4 O4))
    exact ret_row2 rfl rfl rfl hr4 Tryz.underlying44 rfl HN ⟨rfl, H3.out.below.trans (O4.below (by omega))⟩
  · rw [show playE l cap fuel seed ps = (noS, chkG l cap fuel) from if_neg hc]
    show Calls Tryz.prog 11 _ w fun e w' => e = .returned (.tuple #[.agg zeroS.toArray, .int .i64 (chkG l cap fuel)]) ∧ Below w.heap.size w w'
    rw [← hos]
    have C13' : Hid (∀ W, Below w.heap.size w W → Calls Tryz.prog 32 #[.agg #[.slice ao l.length cp, .int .i64 cap, .int .i64 fuel], .int .u32 seed, iv] W fun e w' => ∃ v, e = .returned (.tuple #[v, .int .i64 (chkG l cap fuel)]) ∧ So w' W.heap.size v [] ∧ Below W.heap.size W w') := fun W hW => by
      have h := C13.out W hW
      unfold StsP at h
      rw [if_neg hc] at h
      exact h
    clear C13
    generalize chkG l cap fuel = E at hc C13' ⊢
    have hE' : (E != 0) = true := by simp [hc]
    clear hos hl hp hin hm hseed
    go_enter Tryz.func11, Tryz.ntmps11
    go_wp2_with (first
      | (refine wpList_alloc_row rfl 44 rfl os HZ.out ?_; intro W2 hr2 B2 HS2; have H := hid_into (Fh.make hr2 B2); have k0 := H.out.g.cell 0; have k1 := H.out.g.cell 1; have k2 := H.out.g.cell 2; simp only [List.getElem?_cons_zero, List.getElem?_cons_succ] at k0 k1 k2; clear hr2 B2 HS2)
      | (go_at_call 32; refine (C13'.out _ H.out.below).mono ?_; rintro e w3 ⟨v, rfl, hO, B3⟩; have H3 := hid_into (H.out.next B3); obtain ⟨av, cx, rfl⟩ := hO.form; clear hO B3 H k0 k1 k2 C13')
      | (refine wpList_build_row rfl 44 #[] rfl os [] rfl HBz.out ?_)
      | (refine wpList_store_rw rfl 44 (.tmp 6) (.tmp 19) rfl (w.heap.size + 1) os os 44 rfl rfl ?_ HSo (hid_into rfl) HOo.out ?_; exact H3.out.r; intro W4 hr4 O4))
    exact ret_row2 rfl rfl rfl hr4 Tryz.underlying44 rfl HSo ⟨rfl, H3.out.below.trans (O4.below (by omega))⟩
end Go.Proofs.YtbfldcieibdapabGreat
end
