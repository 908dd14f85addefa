/-
  VmRuns, its walk.
-/
import Derived.Test.YtlknolbfhfcflaaRStepC
import Derived.Test.YtlknolbfhfcflaaRStart
import Derived.Test.YtlknolbfhfcflaaDuelPlain
import Derived.Test.YtlknolbfhfcflaaPairRows
import Derived.Deep.RegionHeld3
import Derived.Test.YtlknolbfhfcflaaKnown
import Derived.Test.YtlknolbfhfcflaaStEq
namespace Go.Proofs.Ytlknolbfhfcflaa
open Go.RowKit
/-- The variables of the law: the game, both states, alike. -/
structure Rn (w W : World) (A : Nat) (cv : Value) (cap fuel : Int) (cs : List Value) : Prop where
  g : Cw W w.heap.size [cv, .int .i64 cap, .int .i64 fuel] 24
  a : Cw W A cs 28
  b : Cw W (A + 1) cs 28
  lt : w.heap.size < A
  below : Below w.heap.size w W
theorem Rn.next {w W W' : World} {A : Nat} {cv : Value} {cap fuel : Int} {cs : List Value} (h : Rn w W A cv cap fuel cs) (hb : Below W.heap.size W W') : Rn w W' A cv cap fuel cs :=
  ⟨h.g.below hb h.g.lt, h.a.below hb h.a.lt, h.b.below hb h.b.lt, h.lt, h.below.trans (hb.mono h.below.size)⟩
theorem Rn.make {w W V1 V2 V3 V4 : World} {cv : Value} {cap fuel : Int} {ds : List Value} (hg : Cw W w.heap.size [cv, .int .i64 cap, .int .i64 fuel] 24) (hB : Below w.heap.size w W) (hlt : w.heap.size < W.heap.size) (B1 : Below W.heap.size W V1) (s1 : V1.heap.size = W.heap.size + 1) (B2 : Below V1.heap.size V1 V2) (O3 : Only W.heap.size V2 V3) (h3 : Cw V3 W.heap.size ds 28) (O4 : Only V1.heap.size V3 V4) (h4 : Cw V4 V1.heap.size ds 28) : Rn w V4 W.heap.size cv cap fuel ds := by
  have e : V1.heap.size = W.heap.size + 1 := s1
  have b2 := B1.trans (B2.mono B1.size)
  refine ⟨O4.cw (O3.cw (hg.below b2 hlt) (by omega)) (by omega), O4.cw h3 (by omega), by rw [← e]; exact h4, hlt, ?_⟩
  exact ((hB.trans (b2.mono hB.size)).trans (O3.below (by omega))).trans (O4.below (by omega))
theorem Rn.set {w W V1 V2 : World} {A : Nat} {cv : Value} {cap fuel : Int} {cs ds : List Value} (h : Rn w W A cv cap fuel cs) (O3 : Only A W V1) (h3 : Cw V1 A ds 28) (O4 : Only (A + 1) V1 V2) (h4 : Cw V2 (A + 1) ds 28) : Rn w V2 A cv cap fuel ds :=
  ⟨O4.cw (O3.cw h.g (by have := h.lt; omega)) (by have := h.lt; omega), O4.cw h3 (by omega), h4, h.lt, (h.below.trans (O3.below (by have := h.lt; omega))).trans (O4.below (by have := h.lt; omega))⟩
set_option maxRecDepth 20000 in
set_option maxHeartbeats 8000000 in
theorem runs_walk (cv : Value) (l : List Ii) (cap fuel seed : Int) (iv : Value) (ps : List (Int × Int)) (w : World) (hl : Ls w cv l) (hseed : 0 ≤ seed ∧ seed < 4294967296) (hp : Ps w iv ps) (hin : InP ps) :
    Calls Try.prog 4 #[gameV cv cap fuel, .int .u32 seed, iv] w fun e w' => e = .returned (.bool true) ∧ Below w.heap.size w w' := by
  obtain ⟨ao, cp, rfl, hm⟩ := hl.len
  obtain ⟨ai, ci, rfl, hmi⟩ := hp.len
  have HG1 : Hid (Cw (w.alloc (.cells #[.slice ao l.length cp, .int .i64 cap, .int .i64 fuel] 24)) w.heap.size [.slice ao l.length cp, .int .i64 cap, .int .i64 fuel] 24) := Cw.new w [.slice ao l.length cp, .int .i64 cap, .int .i64 fuel] 24
  have HB1 : Hid (Below w.heap.size w (w.alloc (.cells #[.slice ao l.length cp, .int .i64 cap, .int .i64 fuel] 24))) := (Below.refl _ _).alloc (Nat.le_refl _) _
  unfold gameV
  by_cases h3 : 300 < l.length
  · have h3' : (300 : Int) < l.length := by omega
    go_enter Try.func4, Try.ntmps4
    go_wp2
    go_ret
    exact ⟨rfl, HB1.out⟩
  have h3' : (l.length : Int) ≤ 300 := by omega
  by_cases h4 : 100 < ps.length
  · have h4' : (100 : Int) < ps.length := by omega
    go_enter Try.func4, Try.ntmps4
    go_wp2
    go_ret
    exact ⟨rfl, HB1.out⟩
  have h4' : (ps.length : Int) ≤ 100 := by omega
  have hw0 := startS_wf seed hseed
  have C13 := fun W => Start_any seed W
  have C14 := fun W => rStart_any seed W
  have HL := hid_into hl
  have HP := hid_into hp
  have HIn := hid_into hin
  have CK := hid_into known_any
  have HZ : Hid ((Try.prog.info? 28).bind (·.zero) = some (.agg zeroS.toArray)) := Try.zero28
  have ZS := zeroS_size
  have HL0 := st_len hw0
  have HO0 := st_one hw0
  have HN0 := st_size hw0
  have HEq0 := hid_into (run_eqS _ _ hw0 hw0)
  rw [eqS_same] at HEq0
  have HW0 := hid_into hw0
  have HV0 : Hid (∃ s : Sp, s.Wf ∧ stV (startS seed) = stV s) := ⟨_, hw0, rfl⟩
  generalize stV (startS seed) = c0 at C13 C14 HL0 HO0 HN0 HEq0 HV0
  clear hw0 hl hp hin hm hmi
  go_enter Try.func4, Try.ntmps4
  have tok1 : True := trivial
  go_upto_block 0 with (go_big_may; first
    | (go_at_call 13; refine (C13 _).mono ?_; rintro e w2 ⟨rfl, B2⟩; have HG2 := hid_into (HG1.out.below B2 (by rw [World.size_alloc]; omega)); have HB2 := hid_into (HB1.out.trans (B2.mono HB1.out.size)); clear B2)
    | (go_at_call 14; refine (C14 _).mono ?_; rintro e w3 ⟨rfl, B3⟩; have HG3 := hid_into (HG2.out.below B3 HG2.out.lt); have HB3 := hid_into (HB2.out.trans (B3.mono HB2.out.size)); clear B3)
    | (have _t := tok1; refine wpList_alloc_row rfl 28 rfl zeroS HZ.out ?_; intro V1 hn1 b1 hs1; clear tok1)
    | (refine wpList_alloc_row rfl 28 rfl zeroS HZ.out ?_; intro V2 hn2 b2 hs2)
    | (refine wpList_store_rw rfl 28 (.tmp 7) (.tmp 24) rfl w3.heap.size zeroS c0 28 rfl rfl ?_ ZS HL0 HO0.out ?_; exact hn1.below b2 hn1.lt; intro V3 hn3 o3)
    | (refine wpList_store_rw rfl 28 (.tmp 8) (.tmp 26) rfl V1.heap.size zeroS c0 28 rfl rfl ?_ ZS HL0 HO0.out ?_; exact (o3.cw hn2 (by have := hs1.out; omega)); intro V4 hn4 o4; have HR := hid_into (Rn.make HG3.out HB3.out HG3.out.lt b1 hs1.out b2 o3 hn3 o4 hn4); have HS1 := hid_into hs1.out; clear HG1 HG2 HG3 HB1 HB2 HB3 b1 hs1 b2 hs2 hn1 hn2 hn3 o3 o4 hn4)
    | (refine wpList_load_rw rfl 28 (.tmp 7) rfl w3.heap.size c0 28 _ rfl ?_ Try.underlying28 rfl HN0 ?_; exact HR.out.a)
    | (refine wpList_load_rw rfl 28 (.tmp 8) rfl V1.heap.size c0 28 _ rfl ?_ Try.underlying28 rfl HN0 ?_; (rw [HS1.out]; exact HR.out.b))
    | (refine wpList_neq28 (by kernel_rfl) (.tmp 27) (.tmp 28) rfl c0 c0 true HEq0 rfl rfl ?_))
  rw [HS1.out]
  go_wp2_with fail
  go_loopw [9] (fun i wr => ∃ (k : Nat) (s : Sp), k ≤ ps.length ∧ i = .int .i64 (k : Int) ∧ Hid s.Wf ∧ Hid (Rn w wr w3.heap.size (.slice ao l.length cp) cap fuel (stV s))) (fun i _ => ps.length - (intOf i).toNat)
  case atStart =>
    obtain ⟨s, hs, he⟩ := HV0.out
    rw [he] at HR
    exact ⟨0, s, Nat.zero_le _, rfl, hs, HR.out⟩
  case round =>
    clear HR HV0 HEq0 HL0 HO0 HN0 HW0 C13 C14
    obtain ⟨k, s, hk, rfl, HW, HR⟩ := hrel
    by_cases hlt : k < ps.length
    · obtain ⟨p, hpk⟩ : ∃ p, ps[k]? = some p := ⟨_, List.getElem?_eq_getElem hlt⟩
      obtain ⟨ga, off, hao, x0, x1⟩ := HP.out.at HR.out.below (Nat.le_refl _) _ _ hpk
      subst hao
      have hpi := HIn.out.at hpk
      have HSk0 : Hid (∀ V, Below wr.heap.size wr V → ((V.cell? ⟨w.heap.size, 0, none⟩ = some (.slice ao l.length cp) ∧ V.cell? ⟨w.heap.size, 1, none⟩ = some (.int .i64 cap) ∧ V.cell? ⟨w.heap.size, 2, none⟩ = some (.int .i64 fuel)) ∧ (V.rangeAt w3.heap.size 0 (stV s) ∧ V.rangeAt (w3.heap.size + 1) 0 (stV s)) ∧ V.cell? ⟨ga, off + k * 2, none⟩ = some (.int .u16 p.1) ∧ V.cell? ⟨ga, off + k * 2 + 1, none⟩ = some (.int .u16 p.2))) := fun V hV =>
        have hg := HR.out.g.below hV HR.out.g.lt
        have hal := World.block_lt_of_cell? wr _ x0
        ⟨⟨hg.cell 0, hg.cell 1, hg.cell 2⟩, ⟨(HR.out.a.below hV HR.out.a.lt).range, (HR.out.b.below hV HR.out.b.lt).range⟩, (hV.cell (p := ⟨ga, off + k * 2, none⟩) hal).trans x0, (hV.cell (p := ⟨ga, off + k * 2 + 1, none⟩) hal).trans x1⟩
      have C8 : Hid (∀ W, Below wr.heap.size wr W → Calls Try.prog 8 #[.agg #[.slice ao l.length cp, .int .i64 cap, .int .i64 fuel], .agg (stV s).toArray, .agg #[.int .u16 p.1, .int .u16 p.2]] W fun e w' => e = .returned (.tuple #[.agg (stV (stepF l cap fuel s p.1 p.2).1).toArray, .int .i64 (stepF l cap fuel s p.1 p.2).2]) ∧ Below W.heap.size W w') := fun W hW => Step_any _ l cap fuel s p.1 p.2 W (HL.out.below (HR.out.below.trans (hW.mono HR.out.below.size))) HW.out hpi.1 hpi.2
      have C9 : Hid (∀ W, Below wr.heap.size wr W → Calls Try.prog 9 #[.agg #[.slice ao l.length cp, .int .i64 cap, .int .i64 fuel], .agg (stV s).toArray, .agg #[.int .u16 p.1, .int .u16 p.2]] W fun e w' => e = .returned (.tuple #[.agg (stV (stepF l cap fuel s p.1 p.2).1).toArray, .int .i64 (stepF l cap fuel s p.1 p.2).2]) ∧ Below W.heap.size W w') := fun W hW => rStep_any _ l cap fuel s p.1 p.2 W (HL.out.below (HR.out.below.trans (hW.mono HR.out.below.size))) HW.out hpi.1 hpi.2
      have htw : (stepF l cap fuel s p.1 p.2).1.Wf := stepF_wf l cap fuel s p.1 p.2 HW.out hpi.1 hpi.2
      have HFacts : Hid ((stepF l cap fuel s p.1 p.2).2 = 0 → 0 ≤ s.frame ∧ s.frame < 600 ∧ (stepF l cap fuel s p.1 p.2).1.frame = s.frame + 1 ∧ (stepF l cap fuel s p.1 p.2).1.win ≤ 2 ∧ ((stepF l cap fuel s p.1 p.2).1.over = false → (stepF l cap fuel s p.1 p.2).1.frame < cap)) := fun he => by
        have hE : stepE l cap fuel s = 0 := by
          by_cases hE : stepE l cap fuel s = 0
          · exact hE
          · rw [show stepF l cap fuel s p.1 p.2 = (noS, stepE l cap fuel s) from if_neg hE] at he
            exact he
        rw [show stepF l cap fuel s p.1 p.2 = (stepS l cap fuel s p.1 p.2, 0) from if_pos hE]
        have hG := stepS_facts HW.out hpi.1 hpi.2 hE
        obtain ⟨_, _, hcap, _, _, hf0, hf1, _⟩ := stepE_ok hE
        exact ⟨hf0, by omega, stepS_frame _ _ _ _ _ _, hG.w1, hG.f2⟩
      obtain ⟨t, ht⟩ : ∃ t, t = (stepF l cap fuel s p.1 p.2).1 := ⟨_, rfl⟩
      obtain ⟨er, her⟩ : ∃ er, er = (stepF l cap fuel s p.1 p.2).2 := ⟨_, rfl⟩
      rw [← ht, ← her] at C8 C9 HFacts
      rw [← ht] at htw
      clear ht her
      have HEq := hid_into (run_eqS _ _ htw htw)
      rw [eqS_same] at HEq
      have HNs := st_size HW.out
      have HLe := st_len htw
      have HOe := st_one htw
      have HNe := st_size htw
      have HCe := hid_into (stV_c htw)
      have HCs := hid_into (stV_c HW.out)
      have HTw := hid_into htw
      have HLse : Hid ((stV s).length = (stV t).length) := by rw [(stV_c HW.out).len, (stV_c htw).len]; exact hid_into rfl
      clear htw hpi x0 x1 hpk
      obtain ⟨cs, hcs⟩ : ∃ cs, cs = stV s := ⟨_, rfl⟩
      obtain ⟨es, hes⟩ : ∃ es, es = stV t := ⟨_, rfl⟩
      rw [← hcs] at HSk0 C8 C9 HNs HLse HR HCs
      rw [← hes] at C8 C9 HLe HOe HNe HEq HLse HCe
      have HES := hid_into hes
      clear hcs hes
      go_upto_region 9 with fail
      go_cut [10, 11] (fun pv ev wx => ∃ nb, pv = .pointer (some ⟨nb, 0, none⟩) ∧ ev = .int .i64 er ∧ wr.heap.size ≤ nb ∧ Cw wx nb es 28 ∧ Below wr.heap.size wr wx)
      case first =>
        have HBr : Hid (Below wr.heap.size wr wr) := Below.refl _ _
        have HSk : Hid (∀ V, Below wr.heap.size wr V → (fun V => (V.cell? ⟨w.heap.size, 0, none⟩ = some (.slice ao l.length cp) ∧ V.cell? ⟨w.heap.size, 1, none⟩ = some (.int .i64 cap) ∧ V.cell? ⟨w.heap.size, 2, none⟩ = some (.int .i64 fuel)) ∧ V.rangeAt w3.heap.size 0 cs ∧ V.cell? ⟨ga, off + k * 2, none⟩ = some (.int .u16 p.1) ∧ V.cell? ⟨ga, off + k * 2 + 1, none⟩ = some (.int .u16 p.2)) V) := fun V hV => HSk0.out V (HBr.out.trans (hV.mono HBr.out.size)) |> fun h => ⟨h.1, h.2.1.1, h.2.2⟩
        have S1 := HSk.out wr.drew (Below.refl _ _).drew
        have HB0 : Hid (Below wr.heap.size wr wr.drew) := (Below.refl _ _).drew
        dsimp only at S1
        refine wp_region_held (S := fun V => (V.cell? ⟨w.heap.size, 0, none⟩ = some (.slice ao l.length cp) ∧ V.cell? ⟨w.heap.size, 1, none⟩ = some (.int .i64 cap) ∧ V.cell? ⟨w.heap.size, 2, none⟩ = some (.int .i64 fuel)) ∧ V.rangeAt w3.heap.size 0 cs ∧ V.cell? ⟨ga, off + k * 2, none⟩ = some (.int .u16 p.1) ∧ V.cell? ⟨ga, off + k * 2 + 1, none⟩ = some (.int .u16 p.2)) (by kernel_rfl) ?_
        change wpAnyH _ _ _ _ _ _ _ _ (World.drew _)
        refine wpAnyH_take (i := 0) (v := .agg #[.slice ao l.length cp, .int .i64 cap, .int .i64 fuel]) rfl (by kernel_rfl) (by kernel_rfl) (by kernel_rfl) (fun _ _ _ h => h) (Or.inl ⟨by kernel_rfl, by intro V hV; obtain ⟨⟨y0, y1, y2⟩, _, z0, z1⟩ := hV; go_simp⟩) S1 ?_
        refine wpAnyH_take (i := 1) (v := .agg cs.toArray) rfl (by kernel_rfl) (by kernel_rfl) (by kernel_rfl) (fun _ _ _ h => h) (yieldsIf_load_mid (by kernel_rfl) 28 (.tmp 7) rfl w3.heap.size 0 rfl cs _ (fun V h => h.2.1) Try.underlying28 rfl HNs.out) S1 ?_
        refine wpAnyH_take (i := 2) (v := .slice (some ⟨ga, off, none⟩) ps.length ci) rfl (by kernel_rfl) (by kernel_rfl) (by kernel_rfl) (fun _ _ _ h => h) (Or.inl ⟨by kernel_rfl, by intro V _; go_simp⟩) S1 ?_
        refine wpAnyH_take (i := 3) (v := .int .i64 (k : Int)) rfl (by kernel_rfl) (by kernel_rfl) (by kernel_rfl) (fun _ _ _ h => h) (Or.inl ⟨by kernel_rfl, by intro V _; go_simp⟩) S1 ?_
        refine wpAnyH_take (i := 4) (v := .pointer (some ⟨ga, off + k * 2, none⟩)) rfl (by kernel_rfl) (by kernel_rfl) (by kernel_rfl) (fun _ _ _ h => h) (Or.inl ⟨by kernel_rfl, by intro V _; go_simp⟩) S1 ?_
        refine wpAnyH_take (i := 5) (v := .agg #[.int .u16 p.1, .int .u16 p.2]) rfl (by kernel_rfl) (by kernel_rfl) (by kernel_rfl) (fun _ _ _ h => h) (Or.inl ⟨by kernel_rfl, by intro V hV; obtain ⟨⟨y0, y1, y2⟩, _, z0, z1⟩ := hV; go_simp⟩) S1 ?_
        refine wpAnyH_ready (rs := [6, 10]) (by kernel_rfl) (by simp) ?_
        refine AllReadyH.cons rfl (fun KK hK => ?_) (AllReadyH.cons rfl (fun KK hK => ?_) AllReadyH.nil)
        · go_simp
          refine (C8.out _ (HBr.out.trans (HB0.out.mono HBr.out.size))).mono ?_
          rintro e w3 ⟨rfl, Bx⟩
          have HB3 := hid_into (HB0.out.trans (Bx.mono HB0.out.size))
          have S3 := HSk.out w3 HB3.out
          dsimp only
          refine hK.out _ _ (by exact S3) (fun _ => ?_)
          clear hK KK
          refine wpAnyH_take (i := 7) (v := .tuple #[.agg es.toArray, .int .i64 er]) rfl (by kernel_rfl) (by kernel_rfl) (by kernel_rfl) (fun _ _ _ h => h) (Or.inl ⟨by kernel_rfl, by intro V _; go_simp⟩) S3 ?_
          refine wpAnyH_take (i := 8) (v := .agg es.toArray) rfl (by kernel_rfl) (by kernel_rfl) (by kernel_rfl) (fun _ _ _ h => h) (Or.inl ⟨by kernel_rfl, by intro V _; go_simp⟩) S3 ?_
          refine wpAnyH_take (i := 9) (v := .int .i64 er) rfl (by kernel_rfl) (by kernel_rfl) (by kernel_rfl) (fun _ _ _ h => h) (Or.inl ⟨by kernel_rfl, by intro V _; go_simp⟩) S3 ?_
          refine wpAnyH_ready (rs := [10]) (by kernel_rfl) (by simp) ?_
          refine AllReadyH.cons rfl (fun KK hK => ?_) AllReadyH.nil
          refine step_alloc_row rfl 28 rfl zeroS HZ.out ?_
          intro W4 hn4 Ba HSa
          have hsz4 : Hid (wr.heap.size ≤ w3.heap.size) := HB3.out.size
          have hlt4 : Hid (w3.heap.size < W4.heap.size) := hn4.lt
          have HB4 := hid_into (HB3.out.trans (Ba.mono HB3.out.size))
          have S4 := HSk.out W4 HB4.out
          refine hK.out _ _ (by exact S4) (fun _ => ?_)
          clear hK KK
          refine wpAnyH_ready (rs := [11]) (by kernel_rfl) (by simp) ?_
          refine AllReadyH.cons rfl (fun KK hK => ?_) AllReadyH.nil
          refine step_store_rw rfl 28 (.tmp 10) (.tmp 44) rfl w3.heap.size zeroS es 28 rfl rfl hn4 ZS HLe HOe ?_
          intro W5 NC O5
          have HB5 := hid_into (HB4.out.trans (O5.below hsz4.out))
          have NB : wr.heap.size ≤ w3.heap.size := hsz4.out
          have S5 := HSk.out W5 HB5.out
          refine hK.out _ _ (by exact S5) (fun _ => ?_)
          clear hK KK
          refine wpAnyH_take (i := 12) (v := .int .i64 er) rfl (by kernel_rfl) (by kernel_rfl) (by kernel_rfl) (fun _ _ _ h => h) (Or.inl ⟨by kernel_rfl, by intro V _; go_simp⟩) S5 ?_
          refine wpAnyH_done (by kernel_rfl) ?_ _
          go_wp2_with fail
          go_meet
          exact ⟨_, rfl, rfl, NB, NC, HB5.out⟩
        · refine step_alloc_row rfl 28 rfl zeroS HZ.out ?_
          intro W4 hn4 Ba HSa
          have hsz4 : Hid (wr.heap.size ≤ wr.drew.heap.size) := HB0.out.size
          have hlt4 : Hid (wr.drew.heap.size < W4.heap.size) := hn4.lt
          have HB4 := hid_into (HB0.out.trans (Ba.mono HB0.out.size))
          have S4 := HSk.out W4 HB4.out
          refine hK.out _ _ (by exact S4) (fun _ => ?_)
          clear hK KK
          refine wpAnyH_ready (rs := [6]) (by kernel_rfl) (by simp) ?_
          refine AllReadyH.cons rfl (fun KK hK => ?_) AllReadyH.nil
          go_simp
          refine (C8.out _ (HBr.out.trans (HB4.out.mono HBr.out.size))).mono ?_
          rintro e w3 ⟨rfl, Bx⟩
          have HB3 := hid_into (HB4.out.trans (Bx.mono HB4.out.size))
          have S3 := HSk.out w3 HB3.out
          dsimp only
          refine hK.out _ _ (by exact S3) (fun _ => ?_)
          clear hK KK
          have hn3 := hn4.below Bx hlt4.out
          refine wpAnyH_take (i := 7) (v := .tuple #[.agg es.toArray, .int .i64 er]) rfl (by kernel_rfl) (by kernel_rfl) (by kernel_rfl) (fun _ _ _ h => h) (Or.inl ⟨by kernel_rfl, by intro V _; go_simp⟩) S3 ?_
          refine wpAnyH_take (i := 8) (v := .agg es.toArray) rfl (by kernel_rfl) (by kernel_rfl) (by kernel_rfl) (fun _ _ _ h => h) (Or.inl ⟨by kernel_rfl, by intro V _; go_simp⟩) S3 ?_
          refine wpAnyH_take (i := 9) (v := .int .i64 er) rfl (by kernel_rfl) (by kernel_rfl) (by kernel_rfl) (fun _ _ _ h => h) (Or.inl ⟨by kernel_rfl, by intro V _; go_simp⟩) S3 ?_
          refine wpAnyH_ready (rs := [11]) (by kernel_rfl) (by simp) ?_
          refine AllReadyH.cons rfl (fun KK hK => ?_) AllReadyH.nil
          refine step_store_rw rfl 28 (.tmp 10) (.tmp 44) rfl wr.drew.heap.size zeroS es 28 rfl rfl hn3 ZS HLe HOe ?_
          intro W5 NC O5
          have HB5 := hid_into (HB3.out.trans (O5.below hsz4.out))
          have NB : wr.heap.size ≤ wr.drew.heap.size := hsz4.out
          have S5 := HSk.out W5 HB5.out
          refine hK.out _ _ (by exact S5) (fun _ => ?_)
          clear hK KK
          refine wpAnyH_take (i := 12) (v := .int .i64 er) rfl (by kernel_rfl) (by kernel_rfl) (by kernel_rfl) (fun _ _ _ h => h) (Or.inl ⟨by kernel_rfl, by intro V _; go_simp⟩) S5 ?_
          refine wpAnyH_done (by kernel_rfl) ?_ _
          go_wp2_with fail
          go_meet
          exact ⟨_, rfl, rfl, NB, NC, HB5.out⟩
      case rest =>
        obtain ⟨n1, rfl, rfl, hn1, hC1, hB1⟩ := hcut
        rename World => U1
        have HBr := hid_into hB1
        have HC1 := hid_into hC1
        have Hn1 := hid_into hn1
        clear hB1 hC1 hn1
        go_upto_region 10 with fail
        go_cut [12, 13] (fun pv ev wx => ∃ nb, pv = .pointer (some ⟨nb, 0, none⟩) ∧ ev = .int .i64 er ∧ U1.heap.size ≤ nb ∧ Cw wx nb es 28 ∧ Below U1.heap.size U1 wx)
        case first =>
          have HSk : Hid (∀ V, Below U1.heap.size U1 V → (fun V => (V.cell? ⟨w.heap.size, 0, none⟩ = some (.slice ao l.length cp) ∧ V.cell? ⟨w.heap.size, 1, none⟩ = some (.int .i64 cap) ∧ V.cell? ⟨w.heap.size, 2, none⟩ = some (.int .i64 fuel)) ∧ V.rangeAt (w3.heap.size + 1) 0 cs ∧ V.cell? ⟨ga, off + k * 2, none⟩ = some (.int .u16 p.1) ∧ V.cell? ⟨ga, off + k * 2 + 1, none⟩ = some (.int .u16 p.2)) V) := fun V hV => HSk0.out V (HBr.out.trans (hV.mono HBr.out.size)) |> fun h => ⟨h.1, h.2.1.2, h.2.2⟩
          have S1 := HSk.out U1.drew (Below.refl _ _).drew
          have HB0 : Hid (Below U1.heap.size U1 U1.drew) := (Below.refl _ _).drew
          dsimp only at S1
          refine wp_region_held (S := fun V => (V.cell? ⟨w.heap.size, 0, none⟩ = some (.slice ao l.length cp) ∧ V.cell? ⟨w.heap.size, 1, none⟩ = some (.int .i64 cap) ∧ V.cell? ⟨w.heap.size, 2, none⟩ = some (.int .i64 fuel)) ∧ V.rangeAt (w3.heap.size + 1) 0 cs ∧ V.cell? ⟨ga, off + k * 2, none⟩ = some (.int .u16 p.1) ∧ V.cell? ⟨ga, off + k * 2 + 1, none⟩ = some (.int .u16 p.2)) (by kernel_rfl) ?_
          change wpAnyH _ _ _ _ _ _ _ _ (World.drew _)
          refine wpAnyH_take (i := 0) (v := .agg #[.slice ao l.length cp, .int .i64 cap, .int .i64 fuel]) rfl (by kernel_rfl) (by kernel_rfl) (by kernel_rfl) (fun _ _ _ h => h) (Or.inl ⟨by kernel_rfl, by intro V hV; obtain ⟨⟨y0, y1, y2⟩, _, z0, z1⟩ := hV; go_simp⟩) S1 ?_
          refine wpAnyH_take (i := 1) (v := .agg cs.toArray) rfl (by kernel_rfl) (by kernel_rfl) (by kernel_rfl) (fun _ _ _ h => h) (yieldsIf_load_mid (by kernel_rfl) 28 (.tmp 8) rfl (w3.heap.size + 1) 0 rfl cs _ (fun V h => h.2.1) Try.underlying28 rfl HNs.out) S1 ?_
          refine wpAnyH_take (i := 2) (v := .slice (some ⟨ga, off, none⟩) ps.length ci) rfl (by kernel_rfl) (by kernel_rfl) (by kernel_rfl) (fun _ _ _ h => h) (Or.inl ⟨by kernel_rfl, by intro V _; go_simp⟩) S1 ?_
          refine wpAnyH_take (i := 3) (v := .int .i64 (k : Int)) rfl (by kernel_rfl) (by kernel_rfl) (by kernel_rfl) (fun _ _ _ h => h) (Or.inl ⟨by kernel_rfl, by intro V _; go_simp⟩) S1 ?_
          refine wpAnyH_take (i := 4) (v := .pointer (some ⟨ga, off + k * 2, none⟩)) rfl (by kernel_rfl) (by kernel_rfl) (by kernel_rfl) (fun _ _ _ h => h) (Or.inl ⟨by kernel_rfl, by intro V _; go_simp⟩) S1 ?_
          refine wpAnyH_take (i := 5) (v := .agg #[.int .u16 p.1, .int .u16 p.2]) rfl (by kernel_rfl) (by kernel_rfl) (by kernel_rfl) (fun _ _ _ h => h) (Or.inl ⟨by kernel_rfl, by intro V hV; obtain ⟨⟨y0, y1, y2⟩, _, z0, z1⟩ := hV; go_simp⟩) S1 ?_
          refine wpAnyH_ready (rs := [6, 10]) (by kernel_rfl) (by simp) ?_
          refine AllReadyH.cons rfl (fun KK hK => ?_) (AllReadyH.cons rfl (fun KK hK => ?_) AllReadyH.nil)
          · go_simp
            refine (C9.out _ (HBr.out.trans (HB0.out.mono HBr.out.size))).mono ?_
            rintro e w3 ⟨rfl, Bx⟩
            have HB3 := hid_into (HB0.out.trans (Bx.mono HB0.out.size))
            have S3 := HSk.out w3 HB3.out
            dsimp only
            refine hK.out _ _ (by exact S3) (fun _ => ?_)
            clear hK KK
            refine wpAnyH_take (i := 7) (v := .tuple #[.agg es.toArray, .int .i64 er]) rfl (by kernel_rfl) (by kernel_rfl) (by kernel_rfl) (fun _ _ _ h => h) (Or.inl ⟨by kernel_rfl, by intro V _; go_simp⟩) S3 ?_
            refine wpAnyH_take (i := 8) (v := .agg es.toArray) rfl (by kernel_rfl) (by kernel_rfl) (by kernel_rfl) (fun _ _ _ h => h) (Or.inl ⟨by kernel_rfl, by intro V _; go_simp⟩) S3 ?_
            refine wpAnyH_take (i := 9) (v := .int .i64 er) rfl (by kernel_rfl) (by kernel_rfl) (by kernel_rfl) (fun _ _ _ h => h) (Or.inl ⟨by kernel_rfl, by intro V _; go_simp⟩) S3 ?_
            refine wpAnyH_ready (rs := [10]) (by kernel_rfl) (by simp) ?_
            refine AllReadyH.cons rfl (fun KK hK => ?_) AllReadyH.nil
            refine step_alloc_row rfl 28 rfl zeroS HZ.out ?_
            intro W4 hn4 Ba HSa
            have hsz4 : Hid (U1.heap.size ≤ w3.heap.size) := HB3.out.size
            have hlt4 : Hid (w3.heap.size < W4.heap.size) := hn4.lt
            have HB4 := hid_into (HB3.out.trans (Ba.mono HB3.out.size))
            have S4 := HSk.out W4 HB4.out
            refine hK.out _ _ (by exact S4) (fun _ => ?_)
            clear hK KK
            refine wpAnyH_ready (rs := [11]) (by kernel_rfl) (by simp) ?_
            refine AllReadyH.cons rfl (fun KK hK => ?_) AllReadyH.nil
            refine step_store_rw rfl 28 (.tmp 12) (.tmp 54) rfl w3.heap.size zeroS es 28 rfl rfl hn4 ZS HLe HOe ?_
            intro W5 NC O5
            have HB5 := hid_into (HB4.out.trans (O5.below hsz4.out))
            have NB : U1.heap.size ≤ w3.heap.size := hsz4.out
            have S5 := HSk.out W5 HB5.out
            refine hK.out _ _ (by exact S5) (fun _ => ?_)
            clear hK KK
            refine wpAnyH_take (i := 12) (v := .int .i64 er) rfl (by kernel_rfl) (by kernel_rfl) (by kernel_rfl) (fun _ _ _ h => h) (Or.inl ⟨by kernel_rfl, by intro V _; go_simp⟩) S5 ?_
            refine wpAnyH_done (by kernel_rfl) ?_ _
            go_wp2_with fail
            go_meet
            exact ⟨_, rfl, rfl, NB, NC, HB5.out⟩
          · refine step_alloc_row rfl 28 rfl zeroS HZ.out ?_
            intro W4 hn4 Ba HSa
            have hsz4 : Hid (U1.heap.size ≤ U1.drew.heap.size) := HB0.out.size
            have hlt4 : Hid (U1.drew.heap.size < W4.heap.size) := hn4.lt
            have HB4 := hid_into (HB0.out.trans (Ba.mono HB0.out.size))
            have S4 := HSk.out W4 HB4.out
            refine hK.out _ _ (by exact S4) (fun _ => ?_)
            clear hK KK
            refine wpAnyH_ready (rs := [6]) (by kernel_rfl) (by simp) ?_
            refine AllReadyH.cons rfl (fun KK hK => ?_) AllReadyH.nil
            go_simp
            refine (C9.out _ (HBr.out.trans (HB4.out.mono HBr.out.size))).mono ?_
            rintro e w3 ⟨rfl, Bx⟩
            have HB3 := hid_into (HB4.out.trans (Bx.mono HB4.out.size))
            have S3 := HSk.out w3 HB3.out
            dsimp only
            refine hK.out _ _ (by exact S3) (fun _ => ?_)
            clear hK KK
            have hn3 := hn4.below Bx hlt4.out
            refine wpAnyH_take (i := 7) (v := .tuple #[.agg es.toArray, .int .i64 er]) rfl (by kernel_rfl) (by kernel_rfl) (by kernel_rfl) (fun _ _ _ h => h) (Or.inl ⟨by kernel_rfl, by intro V _; go_simp⟩) S3 ?_
            refine wpAnyH_take (i := 8) (v := .agg es.toArray) rfl (by kernel_rfl) (by kernel_rfl) (by kernel_rfl) (fun _ _ _ h => h) (Or.inl ⟨by kernel_rfl, by intro V _; go_simp⟩) S3 ?_
            refine wpAnyH_take (i := 9) (v := .int .i64 er) rfl (by kernel_rfl) (by kernel_rfl) (by kernel_rfl) (fun _ _ _ h => h) (Or.inl ⟨by kernel_rfl, by intro V _; go_simp⟩) S3 ?_
            refine wpAnyH_ready (rs := [11]) (by kernel_rfl) (by simp) ?_
            refine AllReadyH.cons rfl (fun KK hK => ?_) AllReadyH.nil
            refine step_store_rw rfl 28 (.tmp 12) (.tmp 54) rfl U1.drew.heap.size zeroS es 28 rfl rfl hn3 ZS HLe HOe ?_
            intro W5 NC O5
            have HB5 := hid_into (HB3.out.trans (O5.below hsz4.out))
            have NB : U1.heap.size ≤ U1.drew.heap.size := hsz4.out
            have S5 := HSk.out W5 HB5.out
            refine hK.out _ _ (by exact S5) (fun _ => ?_)
            clear hK KK
            refine wpAnyH_take (i := 12) (v := .int .i64 er) rfl (by kernel_rfl) (by kernel_rfl) (by kernel_rfl) (fun _ _ _ h => h) (Or.inl ⟨by kernel_rfl, by intro V _; go_simp⟩) S5 ?_
            refine wpAnyH_done (by kernel_rfl) ?_ _
            go_wp2_with fail
            go_meet
            exact ⟨_, rfl, rfl, NB, NC, HB5.out⟩
        case rest =>
          obtain ⟨n2, rfl, rfl, hn2, hC2, hB2⟩ := hcut
          rename World => U2
          have HB2 := hid_into (HBr.out.trans (hB2.mono HBr.out.size))
          have HC1' := hid_into (HC1.out.below hB2 HC1.out.lt)
          have HC2 := hid_into hC2
          have hn12 : Hid (n1 ≠ n2) := by have := HC1.out.lt; exact hid_into (by omega)
          have hn2' : Hid (wr.heap.size ≤ n2) := Nat.le_trans HBr.out.size hn2
          have HR2 := hid_into (HR.out.next HB2.out)
          have HRlt : Hid (w3.heap.size < wr.heap.size ∧ w3.heap.size + 1 < wr.heap.size) := ⟨HR.out.a.lt, HR.out.b.lt⟩
          clear hB2 hC2 hn2 HR HC1 HBr HB2 HSk0 C8 C9 HP HL
          have q0 := (HC1'.out.cell 0).trans HCe.out.frame
          have q1 := (HC1'.out.cell 18).trans HCe.out.over
          have q2 := (HC1'.out.cell 19).trans HCe.out.win
          have q3 := (HR2.out.a.cell 0).trans HCs.out.frame
          have q4 := HR2.out.g.cell 1
          simp only [List.getElem?_cons_zero, List.getElem?_cons_succ] at q4
          by_cases he : er = 0
          · subst he
            obtain ⟨hf0, hf1, hf2, hf3, hf4⟩ := HFacts.out rfl
            have hwr : IntKind.i64.wrap (s.frame + 1) = s.frame + 1 := by rw [IntKind.wrap_i64]; omega
            generalize s.frame = sf at hf0 hf1 hf2 hwr q3
            rw [hf2] at q0 hf4
            generalize t.win = tw at hf3 q2
            cases hov : t.over with
            | true =>
              rw [hov] at q1
              clear hf4
              go_upto_region 17 with (go_big_may; first
                | (refine wpList_load_rw rfl 28 (.tmp 10) rfl n1 es 28 _ rfl ?_ Try.underlying28 rfl HNe ?_; exact HC1'.out)
                | (refine wpList_load_rw rfl 28 (.tmp 12) rfl n2 es 28 _ rfl ?_ Try.underlying28 rfl HNe ?_; exact HC2.out)
                | (refine wpList_neq28 (by kernel_rfl) (.tmp 56) (.tmp 57) rfl es es true HEq rfl rfl ?_))
              have S1 : U2.drew.rangeAt n1 0 es ∧ U2.drew.rangeAt n2 0 es := ⟨HC1'.out.range, HC2.out.range⟩
              have hA : Hid (w3.heap.size < wr.heap.size ∧ w3.heap.size + 1 < wr.heap.size) := hid_into HRlt.out
              refine wp_region_held (S := fun V => V.rangeAt n1 0 es ∧ V.rangeAt n2 0 es) (by kernel_rfl) ?_
              change wpAnyH _ _ _ _ _ _ _ _ (World.drew _)
              refine wpAnyH_take (i := 0) (v := .agg es.toArray) rfl (by kernel_rfl) (by kernel_rfl) (by kernel_rfl) (fun _ _ _ h => h) (yieldsIf_load_mid (by kernel_rfl) 28 (.tmp 10) rfl n1 0 rfl es _ (fun V h => h.1) Try.underlying28 rfl HNe.out) S1 ?_
              refine wpAnyH_take (i := 1) (v := .agg es.toArray) rfl (by kernel_rfl) (by kernel_rfl) (by kernel_rfl) (fun _ _ _ h => h) (yieldsIf_load_mid (by kernel_rfl) 28 (.tmp 12) rfl n2 0 rfl es _ (fun V h => h.2) Try.underlying28 rfl HNe.out) S1 ?_
              refine wpAnyH_ready (rs := [2]) (by kernel_rfl) (by simp) ?_
              refine AllReadyH.cons rfl (fun KK hK => ?_) AllReadyH.nil
              refine step_store_rw rfl 28 (.tmp 7) (.tmp 94) rfl w3.heap.size cs es 28 rfl rfl (HR2.out.a.keep rfl) HNs HLse HOe ?_
              intro W5 hn5 O5
              have S2 : W5.rangeAt n1 0 es ∧ W5.rangeAt n2 0 es := ⟨(O5.cw (HC1'.out.keep rfl) (by have := hA.out; have := Hn1.out; omega)).range, (O5.cw (HC2.out.keep rfl) (by have := hA.out; have := hn2'.out; omega)).range⟩
              refine hK.out _ _ (by exact S2) (fun _ => ?_)
              clear hK KK
              refine wpAnyH_ready (rs := [3]) (by kernel_rfl) (by simp) ?_
              refine AllReadyH.cons rfl (fun KK hK => ?_) AllReadyH.nil
              refine step_store_rw rfl 28 (.tmp 8) (.tmp 95) rfl (w3.heap.size + 1) cs es 28 rfl rfl (O5.cw (HR2.out.b.keep rfl) (by omega)) HNs HLse HOe ?_
              intro W6 hn6 O6
              have S3 : W6.rangeAt n1 0 es ∧ W6.rangeAt n2 0 es := ⟨(O6.cw (O5.cw (HC1'.out.keep rfl) (by have := hA.out; have := Hn1.out; omega)) (by have := hA.out; have := Hn1.out; omega)).range, (O6.cw (O5.cw (HC2.out.keep rfl) (by have := hA.out; have := hn2'.out; omega)) (by have := hA.out; have := hn2'.out; omega)).range⟩
              refine hK.out _ _ (by exact S3) (fun _ => ?_)
              clear hK KK
              have HR6 := hid_into ((HR2.out.next (Below.refl _ _).drew).set O5 hn5 O6 hn6)
              refine wpAnyH_done (by kernel_rfl) ?_ _
              clear S1 S2 S3 O5 O6 hn5 hn6 q0 q1 q2 q3 q4
              go_wp2_with fail
              go_roundw
              case rel => exact ⟨k + 1, t, by omega, by go_num, HTw.out, by rw [HES.out] at HR6; exact HR6.out⟩
              case measure => simp [intOf]; omega
            | false =>
              rw [hov] at q1
              have hf5 := hf4 hov
              clear hf4
              go_upto_region 17 with (go_big_may; first
                | (refine wpList_load_rw rfl 28 (.tmp 10) rfl n1 es 28 _ rfl ?_ Try.underlying28 rfl HNe ?_; exact HC1'.out)
                | (refine wpList_load_rw rfl 28 (.tmp 12) rfl n2 es 28 _ rfl ?_ Try.underlying28 rfl HNe ?_; exact HC2.out)
                | (refine wpList_neq28 (by kernel_rfl) (.tmp 56) (.tmp 57) rfl es es true HEq rfl rfl ?_))
              have S1 : U2.drew.rangeAt n1 0 es ∧ U2.drew.rangeAt n2 0 es := ⟨HC1'.out.range, HC2.out.range⟩
              have hA : Hid (w3.heap.size < wr.heap.size ∧ w3.heap.size + 1 < wr.heap.size) := hid_into HRlt.out
              refine wp_region_held (S := fun V => V.rangeAt n1 0 es ∧ V.rangeAt n2 0 es) (by kernel_rfl) ?_
              change wpAnyH _ _ _ _ _ _ _ _ (World.drew _)
              refine wpAnyH_take (i := 0) (v := .agg es.toArray) rfl (by kernel_rfl) (by kernel_rfl) (by kernel_rfl) (fun _ _ _ h => h) (yieldsIf_load_mid (by kernel_rfl) 28 (.tmp 10) rfl n1 0 rfl es _ (fun V h => h.1) Try.underlying28 rfl HNe.out) S1 ?_
              refine wpAnyH_take (i := 1) (v := .agg es.toArray) rfl (by kernel_rfl) (by kernel_rfl) (by kernel_rfl) (fun _ _ _ h => h) (yieldsIf_load_mid (by kernel_rfl) 28 (.tmp 12) rfl n2 0 rfl es _ (fun V h => h.2) Try.underlying28 rfl HNe.out) S1 ?_
              refine wpAnyH_ready (rs := [2]) (by kernel_rfl) (by simp) ?_
              refine AllReadyH.cons rfl (fun KK hK => ?_) AllReadyH.nil
              refine step_store_rw rfl 28 (.tmp 7) (.tmp 94) rfl w3.heap.size cs es 28 rfl rfl (HR2.out.a.keep rfl) HNs HLse HOe ?_
              intro W5 hn5 O5
              have S2 : W5.rangeAt n1 0 es ∧ W5.rangeAt n2 0 es := ⟨(O5.cw (HC1'.out.keep rfl) (by have := hA.out; have := Hn1.out; omega)).range, (O5.cw (HC2.out.keep rfl) (by have := hA.out; have := hn2'.out; omega)).range⟩
              refine hK.out _ _ (by exact S2) (fun _ => ?_)
              clear hK KK
              refine wpAnyH_ready (rs := [3]) (by kernel_rfl) (by simp) ?_
              refine AllReadyH.cons rfl (fun KK hK => ?_) AllReadyH.nil
              refine step_store_rw rfl 28 (.tmp 8) (.tmp 95) rfl (w3.heap.size + 1) cs es 28 rfl rfl (O5.cw (HR2.out.b.keep rfl) (by omega)) HNs HLse HOe ?_
              intro W6 hn6 O6
              have S3 : W6.rangeAt n1 0 es ∧ W6.rangeAt n2 0 es := ⟨(O6.cw (O5.cw (HC1'.out.keep rfl) (by have := hA.out; have := Hn1.out; omega)) (by have := hA.out; have := Hn1.out; omega)).range, (O6.cw (O5.cw (HC2.out.keep rfl) (by have := hA.out; have := hn2'.out; omega)) (by have := hA.out; have := hn2'.out; omega)).range⟩
              refine hK.out _ _ (by exact S3) (fun _ => ?_)
              clear hK KK
              have HR6 := hid_into ((HR2.out.next (Below.refl _ _).drew).set O5 hn5 O6 hn6)
              refine wpAnyH_done (by kernel_rfl) ?_ _
              clear S1 S2 S3 O5 O6 hn5 hn6 q0 q1 q2 q3 q4
              go_wp2_with fail
              go_roundw
              case rel => exact ⟨k + 1, t, by omega, by go_num, HTw.out, by rw [HES.out] at HR6; exact HR6.out⟩
              case measure => simp [intOf]; omega
          · have he' : (er != 0) = true := by simp [he]
            go_wp2_with (first
              | (refine wpList_load_rw rfl 28 (.tmp 10) rfl n1 es 28 _ rfl ?_ Try.underlying28 rfl HNe ?_; exact HC1'.out)
              | (refine wpList_load_rw rfl 28 (.tmp 12) rfl n2 es 28 _ rfl ?_ Try.underlying28 rfl HNe ?_; exact HC2.out)
              | (refine wpList_neq28 (by kernel_rfl) (.tmp 56) (.tmp 57) rfl es es true HEq rfl rfl ?_)
              | (go_at_call 12; refine (CK.out _).mono ?_; rintro e w9 ⟨rfl, B9⟩; have HR9 := hid_into (HR2.out.next B9)))
            go_ret
            exact ⟨rfl, HR9.out.below⟩
    · go_wp2_with (go_at_call 12; refine (CK.out _).mono ?_; rintro e w9 ⟨rfl, B9⟩; have HR9 := hid_into (HR.out.next B9))
      go_ret
      exact ⟨rfl, HR9.out.below⟩
end Go.Proofs.Ytlknolbfhfcflaa
