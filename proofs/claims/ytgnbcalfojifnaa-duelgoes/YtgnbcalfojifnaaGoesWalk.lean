/-
  DuelGoes, its walk.
-/
import Derived.Test.YtgnbcalfojifnaaLawD
import Derived.Deep.RegionHeld3
namespace Go.Proofs.Ytgnbcalfojifnaa
open Go.RowKit
theorem and64k (a : Int) : ∃ A : Nat, bits .and .i64 a 65535 = (A : Int) ∧ A < 65536 := by
  have e : bits .and .i64 a 65535 = IntKind.i64.wrap (((BitVec.ofInt 64 a &&& BitVec.ofInt 64 65535).toNat : Nat) : Int) := rfl
  have hb : (BitVec.ofInt 64 a &&& BitVec.ofInt 64 65535).toNat < 65536 := by
    rw [BitVec.toNat_and]
    have : (BitVec.ofInt 64 65535).toNat = 65535 := by decide
    rw [this]
    exact Nat.lt_of_le_of_lt Nat.and_le_right (by decide)
  refine ⟨_, ?_, hb⟩
  rw [e]
  generalize (BitVec.ofInt 64 a &&& BitVec.ofInt 64 65535).toNat = n at *
  simp [IntKind.wrap, IntKind.bits, IntKind.signed]
  omega
/-- The first so many pairs of a row. -/
theorem Ps.take {w : World} {ao : Option Addr} {n cap : Nat} {ps : List (Int × Int)} (h : Ps w (.slice ao n cap) ps) {k : Nat} (hk : k ≤ ps.length) : Ps w (.slice ao k cap) (ps.take k) := by
  rcases h with ⟨rfl, a1, c1, hv, hc, hn⟩ | ⟨hne, g, off, c1, hv, h1, h2, hcell⟩
  · simp only [Value.slice.injEq] at hv
    obtain ⟨rfl, rfl, rfl⟩ := hv
    have hk0 : k = 0 := by simpa using hk
    subst hk0
    exact Or.inl ⟨rfl, _, _, rfl, hc, hn⟩
  · simp only [Value.slice.injEq] at hv
    obtain ⟨rfl, rfl, rfl⟩ := hv
    by_cases hk0 : k = 0
    · subst hk0
      exact Or.inl ⟨rfl, _, _, rfl, h2, fun e => by cases e⟩
    · have hlen : (ps.take k).length = k := by rw [List.length_take]; omega
      refine Or.inr ⟨fun e => ?_, g, off, cap, by rw [hlen], by omega, h2, fun j u hu => hcell j u ?_⟩
      · rw [e] at hlen; simp at hlen; omega
      · have e : cellsP ps = cellsP (ps.take k) ++ cellsP (ps.drop k) := by rw [← cellsP_append, List.take_append_drop]
        rw [e, List.getElem?_append_left (List.getElem?_eq_some_iff.1 hu).1]
        exact hu
theorem Gv.cells {w W : World} {b : Nat} {cv : Value} {cap fuel : Int} {cs : List Value} (h : Gv w W b cv cap fuel cs) : W.cell? ⟨w.heap.size, 0, none⟩ = some cv ∧ W.cell? ⟨w.heap.size, 1, none⟩ = some (.int .i64 cap) ∧ W.cell? ⟨w.heap.size, 2, none⟩ = some (.int .i64 fuel) := ⟨h.g.cell 0, h.g.cell 1, h.g.cell 2⟩
theorem Gv.other {w W W' : World} {b n : Nat} {cv : Value} {cap fuel : Int} {cs : List Value} (h : Gv w W b cv cap fuel cs) (O : Only n W W') (h1 : b < n) (h2 : w.heap.size < n) : Gv w W' b cv cap fuel cs := ⟨O.cw h.g (by omega), O.cw h.s (by omega), h.lt, h.below.trans (O.below (by omega))⟩
theorem Ps.cap {w : World} {ao : Option Addr} {n cap : Nat} {ps : List (Int × Int)} (h : Ps w (.slice ao n cap) ps) : ps.length ≤ cap := by
  rcases h with ⟨rfl, _⟩ | ⟨_, g, off, c1, hv, h1, _⟩
  · exact Nat.zero_le _
  · simp only [Value.slice.injEq] at hv
    obtain ⟨_, _, rfl⟩ := hv
    exact h1
theorem Gv.of {w W W' : World} {cv : Value} {cap fuel : Int} {T : World → Prop} {b : Nat} {cs : List Value} (h : Pw w W cv cap fuel T) (hb : Below W.heap.size W W') (hn : W.heap.size ≤ b) (hc : Cw W' b cs 30) : Gv w W' b cv cap fuel cs := ⟨h.g.below hb h.g.lt, hc, Nat.lt_of_lt_of_le h.lt hn, h.below.trans (hb.mono h.below.size)⟩
set_option maxRecDepth 20000 in
set_option maxHeartbeats 8000000 in
theorem goes_walk (cv : Value) (l : List Ii) (cap fuel seed : Int) (iv : Value) (ps : List (Int × Int)) (atn : Int) (w : World) (hl : Ls w cv l) (hseed : 0 ≤ seed ∧ seed < 4294967296) (hp : Ps w iv ps) (hin : InP ps) :
    Calls Try.prog 4 #[gameV cv cap fuel, .int .u32 seed, iv, .int .i64 atn] w fun e w' => e = .returned (.bool true) ∧ Below w.heap.size w w' := by
  obtain ⟨ao, cp, rfl, hm⟩ := hl.len
  obtain ⟨ai, ci, rfl, hmi⟩ := hp.len
  have C9 := hid_into fun W => heavy_any ao ai l.length cp ps.length ci cap fuel W
  have C17 : Hid (∀ W, Below w.heap.size w W → Calls Try.prog 17 #[.agg #[.slice ao l.length cp, .int .i64 cap, .int .i64 fuel]] W fun e w' => e = .returned (.int .i64 (chkG l cap fuel)) ∧ Below W.heap.size W w') := fun W hW => rChk_any _ l cap fuel W (hl.below hW)
  have P1 := hid_into (Pw.make w (.slice ao l.length cp) cap fuel)
  unfold gameV
  cases hhv : hvy l.length ps.length with
  | true =>
    rw [hhv] at C9
    go_enter Try.func4, Try.ntmps4
    go_wp2_with (go_at_call 9; refine (C9.out _).mono ?_; rintro e w2 ⟨rfl, B2⟩; have P2 := hid_into (P1.out.next B2))
    go_ret
    exact ⟨rfl, P2.out.below⟩
  | false =>
    rw [hhv] at C9
    have hlen : ps.length ≤ 100 := by
      simp only [hvy, decide_eq_false_iff_not] at hhv
      omega
    by_cases hc : chkG l cap fuel = 0
    · rw [hc] at C17
      obtain ⟨A, hA, hA2⟩ := and64k atn
      obtain ⟨K, hK⟩ : ∃ K : Nat, K = A % (ps.length + 1) := ⟨_, rfl⟩
      have hKl : K ≤ ps.length := by rw [hK]; have := Nat.mod_lt A (show 0 < ps.length + 1 by omega); omega
      have hrem : (A : Int).tmod ((ps.length : Int) + 1) = (K : Int) := by
        rw [Int.tmod_eq_emod_of_nonneg (by omega), hK]
        simp
      have hg0 := startS_gs seed cap hseed (chkG_cap hc).2.1
      have hgk := endG_gs hc (ps.take K) _ (fun q hq => hin q (List.mem_of_mem_take hq)) hg0
      have hge := endG_gs hc ps _ hin hg0
      have hsplit : endG l cap fuel (endG l cap fuel (startS seed) (ps.take K)) (ps.drop K) = endG l cap fuel (startS seed) ps := by
        rw [← endG_append, List.take_append_drop]
      have C10 : Hid (∀ W, Below w.heap.size w W → Calls Try.prog 10 #[.agg #[.slice ao l.length cp, .int .i64 cap, .int .i64 fuel], .int .u32 seed, .slice ai ps.length ci] W fun e w' => e = .returned (.tuple #[.agg (stV (endG l cap fuel (startS seed) ps)).toArray, .int .i64 0]) ∧ Below W.heap.size W w') := fun W hW => by
        have h := Play_any _ l cap fuel seed _ ps W (hl.below hW) (hp.below hW) hin hseed
        rw [show playE l cap fuel seed ps = (endG l cap fuel (startS seed) ps, 0) from if_pos hc] at h
        exact h
      have C10k : Hid (∀ W, Below w.heap.size w W → Calls Try.prog 10 #[.agg #[.slice ao l.length cp, .int .i64 cap, .int .i64 fuel], .int .u32 seed, .slice ai K ci] W fun e w' => e = .returned (.tuple #[.agg (stV (endG l cap fuel (startS seed) (ps.take K))).toArray, .int .i64 0]) ∧ Below W.heap.size W w') := fun W hW => by
        have h := Play_any _ l cap fuel seed _ (ps.take K) W (hl.below hW) ((hp.below hW).take hKl) (fun q hq => hin q (List.mem_of_mem_take hq)) hseed
        rw [show playE l cap fuel seed (ps.take K) = (endG l cap fuel (startS seed) (ps.take K), 0) from if_pos hc] at h
        exact h
      have HSteps : Hid (∀ W s p, Below w.heap.size w W → Gs cap s → s.over = false → p ∈ ps → Gs cap (stepS l cap fuel s p.1 p.2) ∧ Calls Try.prog 18 #[.agg #[.slice ao l.length cp, .int .i64 cap, .int .i64 fuel], .agg (stV s).toArray, .agg #[.int .u16 p.1, .int .u16 p.2]] W fun e w' => e = .returned (.tuple #[.agg (stV (stepS l cap fuel s p.1 p.2)).toArray, .int .i64 0]) ∧ Below W.heap.size W w') := fun W s p hW hs ho hpp => by
        have h := rStep_any _ l cap fuel s p.1 p.2 W (hl.below hW) hs.wf (hin p hpp).1 (hin p hpp).2
        have hE := hs.stepE hc ho
        rw [show stepF l cap fuel s p.1 p.2 = (stepS l cap fuel s p.1 p.2, 0) from if_pos hE] at h
        exact ⟨stepS_facts hs.wf (hin p hpp).1 (hin p hpp).2 hE, h⟩
      generalize endG l cap fuel (startS seed) (ps.take K) = sk at hgk hsplit C10k
      generalize endG l cap fuel (startS seed) ps = E at hge hsplit C10
      have HGk := hid_into hgk
      have HSp := hid_into hsplit
      have HP := hid_into hp
      have HLe := st_len hgk.wf
      have HOe := st_one hgk.wf
      have HLE := st_len hge.wf
      have HOE := st_one hge.wf
      have HNE := st_size hge.wf
      have HEE := run_neqS hge.wf
      have HZ : Hid ((Try.prog.info? 30).bind (·.zero) = some (.agg zeroS.toArray)) := Try.zero30
      have ZS := zeroS_size
      have CK := hid_into known_any
      obtain ⟨es, hes⟩ : ∃ es, es = stV sk := ⟨_, rfl⟩
      obtain ⟨ee, hee⟩ : ∃ ee, ee = stV E := ⟨_, rfl⟩
      rw [← hes] at C10k HLe HOe
      rw [← hee] at C10 HLE HOE HNE HEE
      have HES := hid_into hes
      have HEe := hid_into hee
      have hK2 : (K : Int) ≤ ps.length := by omega
      have hl2 : (ps.length : Int) ≤ 100 := by omega
      have hci := hp.cap
      have hKc : K ≤ ci := by omega
      have hKc' : (K : Int) ≤ ci := by omega
      clear hes hee hgk hge hg0 hsplit hl hp hin hm hseed hhv hK hKl hc hA2
      go_enter Try.func4, Try.ntmps4
      go_upto_region 4 with (go_big_may; first
        | (go_at_call 9; refine (C9.out _).mono ?_; rintro e w2 ⟨rfl, B2⟩; have P2 := hid_into (P1.out.next B2); obtain ⟨k0, k1, k2⟩ := P2.out.cells; clear B2 P1 C9)
        | (go_at_call 17; refine (C17.out _ P2.out.below).mono ?_; rintro e w3 ⟨rfl, B3⟩; have P3 := hid_into (P2.out.next B3); clear B3 P2 k0 k1 k2 C17))
      go_cut [10, 11] (fun pv ev wx => ∃ nb, pv = .pointer (some ⟨nb, 0, none⟩) ∧ ev = .int .i64 0 ∧ w3.heap.size ≤ nb ∧ Cw wx nb es 30 ∧ Below w3.heap.size w3 wx)
      case first =>
        have HSk : Hid (∀ V, Below w3.heap.size w3 V → (fun V => V.cell? ⟨w.heap.size, 0, none⟩ = some (.slice ao l.length cp) ∧ V.cell? ⟨w.heap.size, 1, none⟩ = some (.int .i64 cap) ∧ V.cell? ⟨w.heap.size, 2, none⟩ = some (.int .i64 fuel)) V) := fun V hV => (P3.out.next hV).cells
        have S1 := HSk.out w3.drew (Below.refl _ _).drew
        have HB0 : Hid (Below w3.heap.size w3 w3.drew) := (Below.refl _ _).drew
        dsimp only at S1
        refine wp_region_held (S := fun V => V.cell? ⟨w.heap.size, 0, none⟩ = some (.slice ao l.length cp) ∧ V.cell? ⟨w.heap.size, 1, none⟩ = some (.int .i64 cap) ∧ V.cell? ⟨w.heap.size, 2, none⟩ = some (.int .i64 fuel)) (by kernel_rfl) ?_
        change wpAnyH _ _ _ _ _ _ _ _ (World.drew _)
        refine wpAnyH_take (i := 0) (v := .agg #[.slice ao l.length cp, .int .i64 cap, .int .i64 fuel]) rfl (by kernel_rfl) (by kernel_rfl) (by kernel_rfl) (fun _ _ _ h => h) (Or.inl ⟨by kernel_rfl, by intro V hV; obtain ⟨y0, y1, y2⟩ := hV; go_simp⟩) S1 ?_
        refine wpAnyH_take (i := 1) (v := .int .u32 seed) rfl (by kernel_rfl) (by kernel_rfl) (by kernel_rfl) (fun _ _ _ h => h) (Or.inl ⟨by kernel_rfl, by intro V _; go_simp⟩) S1 ?_
        refine wpAnyH_take (i := 2) (v := .slice ai ps.length ci) rfl (by kernel_rfl) (by kernel_rfl) (by kernel_rfl) (fun _ _ _ h => h) (Or.inl ⟨by kernel_rfl, by intro V _; go_simp⟩) S1 ?_
        refine wpAnyH_take (i := 3) (v := .int .i64 (K : Int)) rfl (by kernel_rfl) (by kernel_rfl) (by kernel_rfl) (fun _ _ _ h => h) (Or.inl ⟨by kernel_rfl, by intro V _; go_simp⟩) S1 ?_
        refine wpAnyH_take (i := 4) (v := .slice ai K ci) rfl (by kernel_rfl) (by kernel_rfl) (by kernel_rfl) (fun _ _ _ h => h) (Or.inl ⟨by kernel_rfl, by intro V _; go_simp⟩) S1 ?_
        refine wpAnyH_ready (rs := [5, 9]) (by kernel_rfl) (by simp) ?_
        refine AllReadyH.cons rfl (fun KK hK => ?_) (AllReadyH.cons rfl (fun KK hK => ?_) AllReadyH.nil)
        · go_simp
          refine (C10k.out _ (P3.out.below.trans (HB0.out.mono P3.out.below.size))).mono ?_
          rintro e wq ⟨rfl, Bx⟩
          have HB3 := hid_into (HB0.out.trans (Bx.mono HB0.out.size))
          have S3 := HSk.out wq HB3.out
          dsimp only
          refine hK.out _ _ (by exact S3) (fun _ => ?_)
          clear hK KK
          refine wpAnyH_take (i := 6) (v := .tuple #[.agg es.toArray, .int .i64 0]) rfl (by kernel_rfl) (by kernel_rfl) (by kernel_rfl) (fun _ _ _ h => h) (Or.inl ⟨by kernel_rfl, by intro V _; go_simp⟩) S3 ?_
          refine wpAnyH_take (i := 7) (v := .agg es.toArray) rfl (by kernel_rfl) (by kernel_rfl) (by kernel_rfl) (fun _ _ _ h => h) (Or.inl ⟨by kernel_rfl, by intro V _; go_simp⟩) S3 ?_
          refine wpAnyH_take (i := 8) (v := .int .i64 0) rfl (by kernel_rfl) (by kernel_rfl) (by kernel_rfl) (fun _ _ _ h => h) (Or.inl ⟨by kernel_rfl, by intro V _; go_simp⟩) S3 ?_
          refine wpAnyH_ready (rs := [9]) (by kernel_rfl) (by simp) ?_
          refine AllReadyH.cons rfl (fun KK hK => ?_) AllReadyH.nil
          refine step_alloc_row rfl 30 rfl zeroS HZ.out ?_
          intro W4 hn4 Ba HSa
          have hsz4 : Hid (w3.heap.size ≤ wq.heap.size) := HB3.out.size
          have hlt4 : Hid (wq.heap.size < W4.heap.size) := hn4.lt
          have HB4 := hid_into (HB3.out.trans (Ba.mono HB3.out.size))
          have S4 := HSk.out W4 HB4.out
          refine hK.out _ _ (by exact S4) (fun _ => ?_)
          clear hK KK
          refine wpAnyH_ready (rs := [10]) (by kernel_rfl) (by simp) ?_
          refine AllReadyH.cons rfl (fun KK hK => ?_) AllReadyH.nil
          refine step_store_rw rfl 30 (.tmp 10) (.tmp 36) rfl wq.heap.size zeroS es 30 (by kernel_rfl) (by kernel_rfl) hn4 ZS HLe HOe ?_
          intro W5 NC O5
          have HB5 := hid_into (HB4.out.trans (O5.below hsz4.out))
          have NB : w3.heap.size ≤ wq.heap.size := hsz4.out
          have S5 := HSk.out W5 HB5.out
          refine hK.out _ _ (by exact S5) (fun _ => ?_)
          clear hK KK
          refine wpAnyH_take (i := 11) (v := .int .i64 0) rfl (by kernel_rfl) (by kernel_rfl) (by kernel_rfl) (fun _ _ _ h => h) (Or.inl ⟨by kernel_rfl, by intro V _; go_simp⟩) S5 ?_
          simp only [List.getElem_toArray, List.getElem_cons_zero, List.getElem_cons_succ, Act.put, List.setIfInBounds_toArray, List.set_cons_zero, List.set_cons_succ]
          refine wpAnyH_done (by kernel_rfl) ?_ _
          go_wp2_with fail
          go_meet
          exact ⟨_, rfl, rfl, NB, NC, HB5.out⟩
        · refine step_alloc_row rfl 30 rfl zeroS HZ.out ?_
          intro W4 hn4 Ba HSa
          have hsz4 : Hid (w3.heap.size ≤ w3.drew.heap.size) := HB0.out.size
          have hlt4 : Hid (w3.drew.heap.size < W4.heap.size) := hn4.lt
          have HB4 := hid_into (HB0.out.trans (Ba.mono HB0.out.size))
          have S4 := HSk.out W4 HB4.out
          refine hK.out _ _ (by exact S4) (fun _ => ?_)
          clear hK KK
          refine wpAnyH_ready (rs := [5]) (by kernel_rfl) (by simp) ?_
          refine AllReadyH.cons rfl (fun KK hK => ?_) AllReadyH.nil
          go_simp
          refine (C10k.out _ (P3.out.below.trans (HB4.out.mono P3.out.below.size))).mono ?_
          rintro e wq ⟨rfl, Bx⟩
          have HB3 := hid_into (HB4.out.trans (Bx.mono HB4.out.size))
          have S3 := HSk.out wq HB3.out
          dsimp only
          refine hK.out _ _ (by exact S3) (fun _ => ?_)
          clear hK KK
          have hn3 := hn4.below Bx hlt4.out
          refine wpAnyH_take (i := 6) (v := .tuple #[.agg es.toArray, .int .i64 0]) rfl (by kernel_rfl) (by kernel_rfl) (by kernel_rfl) (fun _ _ _ h => h) (Or.inl ⟨by kernel_rfl, by intro V _; go_simp⟩) S3 ?_
          refine wpAnyH_take (i := 7) (v := .agg es.toArray) rfl (by kernel_rfl) (by kernel_rfl) (by kernel_rfl) (fun _ _ _ h => h) (Or.inl ⟨by kernel_rfl, by intro V _; go_simp⟩) S3 ?_
          refine wpAnyH_take (i := 8) (v := .int .i64 0) rfl (by kernel_rfl) (by kernel_rfl) (by kernel_rfl) (fun _ _ _ h => h) (Or.inl ⟨by kernel_rfl, by intro V _; go_simp⟩) S3 ?_
          refine wpAnyH_ready (rs := [10]) (by kernel_rfl) (by simp) ?_
          refine AllReadyH.cons rfl (fun KK hK => ?_) AllReadyH.nil
          refine step_store_rw rfl 30 (.tmp 10) (.tmp 36) rfl w3.drew.heap.size zeroS es 30 (by kernel_rfl) (by kernel_rfl) hn3 ZS HLe HOe ?_
          intro W5 NC O5
          have HB5 := hid_into (HB3.out.trans (O5.below hsz4.out))
          have NB : w3.heap.size ≤ w3.drew.heap.size := hsz4.out
          have S5 := HSk.out W5 HB5.out
          refine hK.out _ _ (by exact S5) (fun _ => ?_)
          clear hK KK
          refine wpAnyH_take (i := 11) (v := .int .i64 0) rfl (by kernel_rfl) (by kernel_rfl) (by kernel_rfl) (fun _ _ _ h => h) (Or.inl ⟨by kernel_rfl, by intro V _; go_simp⟩) S5 ?_
          simp only [List.getElem_toArray, List.getElem_cons_zero, List.getElem_cons_succ, Act.put, List.setIfInBounds_toArray, List.set_cons_zero, List.set_cons_succ]
          refine wpAnyH_done (by kernel_rfl) ?_ _
          go_wp2_with fail
          go_meet
          exact ⟨_, rfl, rfl, NB, NC, HB5.out⟩
      case rest =>
        obtain ⟨n1, rfl, rfl, hn1, hC1, hB1⟩ := hcut
        rename World => U1
        have HV1 := hid_into (Gv.of P3.out hB1 hn1 hC1)
        clear hn1 hC1 hB1 P3 C10k
        go_wp2_with fail
        go_loopw [12] (fun i wr => ∃ (k : Nat) (s : Sp), k ≤ ps.length ∧ i = .int .i64 (k : Int) ∧ Hid (Gs cap s) ∧ Hid (endG l cap fuel s (ps.drop k) = E) ∧ Hid (Gv w wr n1 (.slice ao l.length cp) cap fuel (stV s))) (fun i _ => ps.length - (intOf i).toNat)
        case atStart => exact ⟨K, sk, by omega, rfl, HGk.out, HSp.out, by rw [HES.out] at HV1; exact HV1.out⟩
        case round =>
          clear HGk HSp HV1 HES HLe HOe
          obtain ⟨k, s, hk, rfl, HG, HE, HV⟩ := hrel
          have HCs := hid_into (stV_c HG.out.wf)
          have c18 := (HV.out.s.cell 18).trans HCs.out.over
          have fin : Hid (s = E → Hid (Gv w wr n1 (.slice ao l.length cp) cap fuel ee)) := fun e => by rw [HEe.out, ← e]; exact HV
          by_cases hlt : k < ps.length
          · have hlt' : (k : Int) < ps.length := by omega
            cases hov : s.over with
            | true =>
              rw [hov] at c18
              have HVE := fin.out ((endG_over (ps.drop k) hov).symm.trans HE.out)
              clear fin HV HCs
              obtain ⟨k0, k1, k2⟩ := HVE.out.cells
              go_wp2_with (first
                | (go_at_call 10; refine (C10.out _ HVE.out.below).mono ?_; rintro e w5 ⟨rfl, B5⟩; replace HVE := hid_into (HVE.out.next B5); clear B5 k0 k1 k2)
                | (refine wpList_alloc_row rfl 30 rfl zeroS HZ.out ?_; intro W6 hn6 B6 _; have hl6 : Hid (n1 < w5.heap.size ∧ w.heap.size < w5.heap.size) := ⟨HVE.out.s.lt, HVE.out.g.lt⟩; replace HVE := hid_into (HVE.out.next B6); clear B6)
                | (refine wpList_store_rw rfl 30 (.tmp 13) (.tmp 67) rfl w5.heap.size zeroS ee 30 rfl rfl ?_ ZS HLE HOE.out ?_; exact hn6; intro W7 hn7 O7; replace HVE := hid_into (HVE.out.other O7 hl6.out.1 hl6.out.2); clear O7 hn6)
                | (refine wpList_load_rwG (by kernel_rfl) 30 (.tmp 10) rfl n1 ee 30 _ rfl ?_ Try.underlying30 rfl HNE ?_; exact HVE.out.s)
                | (refine wpList_load_rwG (by kernel_rfl) 30 (.tmp 13) rfl w5.heap.size ee 30 _ rfl ?_ Try.underlying30 rfl HNE ?_; exact hn7)
                | (refine wpList_eql28 (by kernel_rfl) (.tmp 72) (.tmp 73) rfl ee ee true HEE rfl rfl ?_)
                | (go_at_call 16; refine (CK.out _).mono ?_; rintro e w8 ⟨rfl, B8⟩; replace HVE := hid_into (HVE.out.next B8)))
              go_ret
              exact ⟨rfl, HVE.out.below⟩
            | false =>
              rw [hov] at c18
              obtain ⟨p, hpk⟩ : ∃ p, ps[k]? = some p := ⟨_, List.getElem?_eq_getElem hlt⟩
              obtain ⟨ga, off, hao, x0, x1⟩ := HP.out.at HV.out.below (Nat.le_refl _) _ _ hpk
              subst hao
              have hpm := List.mem_of_getElem? hpk
              have HT := hid_into fun W hW => HSteps.out W s p hW HG.out hov hpm
              have HE2 := hid_into ((endG_step hpk hov).symm.trans HE.out)
              have HGt := hid_into (HSteps.out w s p (Below.refl _ _) HG.out hov hpm).1
              generalize stepS l cap fuel s p.1 p.2 = t at HT HE2 HGt
              have CT : Hid (∀ W, Below wr.heap.size wr W → Calls Try.prog 18 #[.agg #[.slice ao l.length cp, .int .i64 cap, .int .i64 fuel], .agg (stV s).toArray, .agg #[.int .u16 p.1, .int .u16 p.2]] W fun e w' => e = .returned (.tuple #[.agg (stV t).toArray, .int .i64 0]) ∧ Below W.heap.size W w') := fun W hW => (HT.out W (HV.out.below.trans (hW.mono HV.out.below.size))).2
              have HSk : Hid (∀ V, Below wr.heap.size wr V → ((V.cell? ⟨w.heap.size, 0, none⟩ = some (.slice ao l.length cp) ∧ V.cell? ⟨w.heap.size, 1, none⟩ = some (.int .i64 cap) ∧ V.cell? ⟨w.heap.size, 2, none⟩ = some (.int .i64 fuel)) ∧ V.rangeAt n1 0 (stV s) ∧ V.cell? ⟨ga, off + k * 2, none⟩ = some (.int .u16 p.1) ∧ V.cell? ⟨ga, off + k * 2 + 1, none⟩ = some (.int .u16 p.2))) := fun V hV =>
                have hg := HV.out.g.below hV HV.out.g.lt
                have hal := World.block_lt_of_cell? wr _ x0
                ⟨⟨hg.cell 0, hg.cell 1, hg.cell 2⟩, (HV.out.s.below hV HV.out.s.lt).range, (hV.cell (p := ⟨ga, off + k * 2, none⟩) hal).trans x0, (hV.cell (p := ⟨ga, off + k * 2 + 1, none⟩) hal).trans x1⟩
              have HBr : Hid (Below wr.heap.size wr wr) := Below.refl _ _
              have HNs := st_size HG.out.wf
              have HLse : Hid ((stV s).length = (stV t).length) := by rw [(stV_c HG.out.wf).len, (stV_c HGt.out.wf).len]; exact hid_into rfl
              have HOe := st_one HGt.out.wf
              obtain ⟨cs, hcs⟩ : ∃ cs, cs = stV s := ⟨_, rfl⟩
              obtain ⟨ts, hts⟩ : ∃ ts, ts = stV t := ⟨_, rfl⟩
              rw [← hcs] at CT HSk HNs HLse HV HCs
              rw [← hts] at CT HLse HOe
              have HTS := hid_into hts
              have HCb := hid_into HV.out.s
              clear hcs hts HT x0 x1 hpk hpm HE fin
              go_upto_region 10 with fail
              have S1 := HSk.out wr.drew (Below.refl _ _).drew
              have HB0 : Hid (Below wr.heap.size wr wr.drew) := (Below.refl _ _).drew
              refine wp_region_M 10 (fun V => (V.cell? ⟨w.heap.size, 0, none⟩ = some (.slice ao l.length cp) ∧ V.cell? ⟨w.heap.size, 1, none⟩ = some (.int .i64 cap) ∧ V.cell? ⟨w.heap.size, 2, none⟩ = some (.int .i64 fuel)) ∧ V.rangeAt n1 0 cs ∧ V.cell? ⟨ga, off + k * 2, none⟩ = some (.int .u16 p.1) ∧ V.cell? ⟨ga, off + k * 2 + 1, none⟩ = some (.int .u16 p.2)) (by kernel_rfl) ?_
              change wpM _ _ _ _ _ _ _ _ _ (World.drew _)
              refine wpM_take 0 53 (v := .agg #[.slice ao l.length cp, .int .i64 cap, .int .i64 fuel]) rfl rfl (by kernel_rfl) (by kernel_rfl) (by kernel_rfl) (by kernel_rfl) (by kernel_rfl) (by kernel_rfl) (fun _ _ _ h => h) S1 (Or.inl ⟨by kernel_rfl, by intro V hV; obtain ⟨⟨y0, y1, y2⟩, _, z0, z1⟩ := hV; go_simp⟩) ?_
              refine wpM_take 1 54 (v := .agg cs.toArray) rfl rfl (by kernel_rfl) (by kernel_rfl) (by kernel_rfl) (by kernel_rfl) (by kernel_rfl) (by kernel_rfl) (fun _ _ _ h => h) S1 (yieldsIf_load_mid (by kernel_rfl) 30 (.tmp 10) rfl n1 0 rfl cs _ (fun V h => h.2.1) Try.underlying30 rfl HNs.out) ?_
              refine wpM_takeF 2 55 (v := .slice (some ⟨ga, off, none⟩) ps.length ci) rfl rfl (by kernel_rfl) (by kernel_rfl) (by kernel_rfl) (by kernel_rfl) (fun _ _ _ h => h) (fun _ => S1) (Or.inl ⟨by kernel_rfl, by intro V _; go_simp⟩) ?_
              refine wpM_takeF 3 56 (v := .int .i64 (k : Int)) rfl rfl (by kernel_rfl) (by kernel_rfl) (by kernel_rfl) (by kernel_rfl) (fun _ _ _ h => h) (fun _ => S1) (Or.inl ⟨by kernel_rfl, by intro V _; go_simp⟩) ?_
              refine wpM_takeF 4 57 (v := .pointer (some ⟨ga, off + k * 2, none⟩)) rfl rfl (by kernel_rfl) (by kernel_rfl) (by kernel_rfl) (by kernel_rfl) (fun _ _ _ h => h) (fun _ => S1) (Or.inl ⟨by kernel_rfl, by intro V _; go_simp⟩) ?_
              refine wpM_take 5 58 (v := .agg #[.int .u16 p.1, .int .u16 p.2]) rfl rfl (by kernel_rfl) (by kernel_rfl) (by kernel_rfl) (by kernel_rfl) (by kernel_rfl) (by kernel_rfl) (fun _ _ _ h => h) S1 (Or.inl ⟨by kernel_rfl, by intro V hV; obtain ⟨⟨y0, y1, y2⟩, _, z0, z1⟩ := hV; go_simp⟩) ?_
              refine wpM_one (i := 6) (by kernel_rfl) rfl (fun KK hK => ?_)
              go_simp
              refine (CT.out _ (HBr.out.trans (HB0.out.mono HBr.out.size))).mono ?_
              rintro e w3 ⟨rfl, Bx⟩
              have HB3 := hid_into (HB0.out.trans (Bx.mono HB0.out.size))
              have S3 := HSk.out w3 HB3.out
              dsimp only
              refine hK.out _ _ (fun _ _ => by exact S3) ?_
              clear hK KK Bx
              refine wpM_takeF 7 52 (v := .tuple #[.agg ts.toArray, .int .i64 0]) rfl rfl (by kernel_rfl) (by kernel_rfl) (by kernel_rfl) (by kernel_rfl) (fun _ _ _ h => h) (fun _ => S3) (Or.inl ⟨by kernel_rfl, by intro V _; go_simp⟩) ?_
              refine wpM_takeF 8 60 (v := .agg ts.toArray) rfl rfl (by kernel_rfl) (by kernel_rfl) (by kernel_rfl) (by kernel_rfl) (fun _ _ _ h => h) (fun _ => S3) (Or.inl ⟨by kernel_rfl, by intro V _; go_simp⟩) ?_
              refine wpM_takeF 9 61 (v := .int .i64 0) rfl rfl (by kernel_rfl) (by kernel_rfl) (by kernel_rfl) (by kernel_rfl) (fun _ _ _ h => h) (fun _ => S3) (Or.inl ⟨by kernel_rfl, by intro V _; go_simp⟩) ?_
              refine wpM_one (i := 10) (by kernel_rfl) rfl (fun KK hK => ?_)
              refine step_store_rw rfl 30 (.tmp 10) (.tmp 60) rfl n1 cs ts 30 rfl rfl (HCb.out.below HB3.out HCb.out.lt) HNs HLse HOe ?_
              intro W4 hc4 O4
              refine hK.out _ _ (fun _ h => absurd rfl h) ?_
              clear hK KK S1 S3
              refine wpM_done (by kernel_rfl) ?_ _
              have HV4 := hid_into ((HV.out.next HB3.out).set O4 hc4)
              clear HB3 O4 hc4 HV HCb HSk CT HBr
              go_wp2_with fail
              go_roundw
              case rel => exact ⟨k + 1, t, by omega, by go_num, HGt.out, HE2.out, by rw [HTS.out] at HV4; exact HV4.out⟩
              case measure => simp [intOf]; omega
          · have hlt' : ¬ (k : Int) < ps.length := by omega
            have HVE := fin.out ((endG_end (by omega)).symm.trans HE.out)
            clear fin HV HCs c18
            obtain ⟨k0, k1, k2⟩ := HVE.out.cells
            go_wp2_with (first
              | (go_at_call 10; refine (C10.out _ HVE.out.below).mono ?_; rintro e w5 ⟨rfl, B5⟩; replace HVE := hid_into (HVE.out.next B5); clear B5 k0 k1 k2)
              | (refine wpList_alloc_row rfl 30 rfl zeroS HZ.out ?_; intro W6 hn6 B6 _; have hl6 : Hid (n1 < w5.heap.size ∧ w.heap.size < w5.heap.size) := ⟨HVE.out.s.lt, HVE.out.g.lt⟩; replace HVE := hid_into (HVE.out.next B6); clear B6)
              | (refine wpList_store_rw rfl 30 (.tmp 13) (.tmp 67) rfl w5.heap.size zeroS ee 30 rfl rfl ?_ ZS HLE HOE.out ?_; exact hn6; intro W7 hn7 O7; replace HVE := hid_into (HVE.out.other O7 hl6.out.1 hl6.out.2); clear O7 hn6)
              | (refine wpList_load_rwG (by kernel_rfl) 30 (.tmp 10) rfl n1 ee 30 _ rfl ?_ Try.underlying30 rfl HNE ?_; exact HVE.out.s)
              | (refine wpList_load_rwG (by kernel_rfl) 30 (.tmp 13) rfl w5.heap.size ee 30 _ rfl ?_ Try.underlying30 rfl HNE ?_; exact hn7)
              | (refine wpList_eql28 (by kernel_rfl) (.tmp 72) (.tmp 73) rfl ee ee true HEE rfl rfl ?_)
              | (go_at_call 16; refine (CK.out _).mono ?_; rintro e w8 ⟨rfl, B8⟩; replace HVE := hid_into (HVE.out.next B8)))
            go_ret
            exact ⟨rfl, HVE.out.below⟩
    · generalize chkG l cap fuel = ck at hc C17
      have hc' : (ck != 0) = true := by simp [hc]
      clear hl hp hin hm hmi hseed
      go_enter Try.func4, Try.ntmps4
      go_wp2_with (first
        | (go_at_call 9; refine (C9.out _).mono ?_; rintro e w2 ⟨rfl, B2⟩; have P2 := hid_into (P1.out.next B2); obtain ⟨k0, k1, k2⟩ := P2.out.cells)
        | (go_at_call 17; refine (C17.out _ P2.out.below).mono ?_; rintro e w3 ⟨rfl, B3⟩; have P3 := hid_into (P2.out.next B3)))
      go_ret
      exact ⟨rfl, P3.out.below⟩
end Go.Proofs.Ytgnbcalfojifnaa
