/-
  Joined from: SegMany.
-/
import Derived.Test.YtnkjhooeklodcaaGreatDoorM50
import Derived.Test.YtnkjhooeklodcaaGreatDoorM48
import Derived.Test.YtnkjhooeklodcaaGreatDoorM28
import Derived.Test.YtnkjhooeklodcaaGreatDoorM15
section
/-
  SeglogMany, walked.
-/
namespace Go.Proofs.YtnkjhooeklodcaaGreatDoor
open Go.RowKit Go.Maps Go.Sort

/-- Number i is not wanted: it may be passed by. -/
theorem wpL_skip {P : Program} {md : Region.Mode} {ops : Array Oper} {Q : Exit → Act → World → Prop} {z : Nat} {S : World → Prop} (i d : Nat) {oi : Oper} {n : Nat} {listed : Array Bool} {a : Act} {w : World} (hi : ops[i]? = some oi) (hd : oi.dst = some d) (hs : Region.noSelect ops = true) (hf : Region.free md ops listed i = true) (hr : (Region.ready md ops listed).contains i = true) (hz : waitsB md ops z i = true)
    (hQ : ∀ c a w, Q (.panic c) (a.put (some d) undef) w → Q (.panic c) a w) (hw : Region.wanted oi (yielded ops a.tmps) = false) (hS : S w)
    (h : wpL P md ops Q z S n (listed.setIfInBounds i true) (a.put (some d) undef) w) : wpL P md ops Q z S (n + 1) listed a w := by
  rw [← hd] at hQ h
  exact wpL_first hi hz (Region.noSelect_spec hs) hQ n listed a w (Region.free_spec hi hf) (by simpa using hr) (Or.inr ⟨hw, rfl⟩) hS h
/-- The q-th entry. -/
def entP (z q : Nat) : List Int := (List.replicate z (0 : Int)).set (q % z) ((q % 256 : Nat) : Int)
theorem entP_len (z q : Nat) : (entP z q).length = z := by simp [entP]
theorem entP_zero (q : Nat) : entP 0 q = [] := by simp [entP]
theorem entP_epl (z q : Nat) (hz : z ≤ 200) : Epl (entP z q) := by
  refine ⟨fun x hx => ?_, by rw [entP_len]; omega⟩
  rcases List.mem_or_eq_of_mem_set hx with h | h
  · rw [List.eq_of_mem_replicate h]; decide
  · rw [h]; omega
theorem entP_at (z q : Nat) (hz : 0 < z) : (entP z q).getD (q % z) 0 = ((q % 256 : Nat) : Int) := by
  have : q % z < z := Nat.mod_lt _ hz
  simp [entP, List.getD, this]
/-- How it stands ahead of the m-th Append. -/
def Mz (w wr : World) (pb sb lb z m : Nat) : Prop := ∃ u ps las ss sz cs, Ho wr w.heap.size wr.heap.size pb sb lb u ps las ss sz m ∧ My (z + 22) u ps las ss sz cs ∧ ps.length = m ∧ (∀ q p, ps[q]? = some p → p = entP z q)
theorem Ot.st2 {w : World} {base : Nat} {v : Value} {xs : List Nm} (h : Ot w base v xs) : St w v xs := by
  rcases row_str h with ⟨rfl, rfl⟩ | ⟨g, cap, rfl, _, _, hc⟩
  · exact ⟨none, 0, rfl, fun e => absurd rfl e⟩
  · exact ⟨_, cap, rfl, fun _ => ⟨g, 0, rfl, fun i x hx => by rw [Nat.zero_add]; exact hc i x hx⟩⟩
theorem Mz.pair {w wr W : World} {pb sb lb z m : Nat} (h : Mz w wr pb sb lb z m) (hb : Below wr.heap.size wr W) : W.cell? ⟨pb, 2, none⟩ = some (.pointer (some ⟨lb, 0, none⟩)) := by
  obtain ⟨u, ps, las, ss, sz, cs, hH, _⟩ := h
  exact (hH.below hb).pair.2
theorem Mz.ap {w wr W : World} {pb sb lb z m : Nat} (h : Mz w wr pb sb lb z m) (hcx : Cx w w.heap.size) (hB : Below w.heap.size w wr) (hb : Below wr.heap.size wr W) (hm : m < 300) (hz : z ≤ 200) (hW : Cw W wr.heap.size (cellsOf (entP z m)) 5) :
    Calls Tryz.prog 16 #[.pointer (some ⟨lb, 0, none⟩), .slice (some ⟨wr.heap.size, 0, none⟩) z z] W fun e w' => e = .returned (.tuple #[.int .i64 ((m : Int) + 1), .int .i64 0]) ∧ Mz w w' pb sb lb z (m + 1) ∧ Below w.heap.size w w' := by
  obtain ⟨u, ps, las, ss, sz, cs, hH, hMy, hpl, hent⟩ := h
  have hbs := hW.bs (by rw [entP_len]; unfold maxLen; omega)
  have hBW : Below w.heap.size w W := hB.trans (hb.mono hB.size)
  have C := HoAp (hH.below hb) hMy (by omega) (hcx.below hBW) (by omega) (by omega) (entP z m) (entP_epl z m hz) (by rw [entP_len]; omega) z wr.heap.size (Nat.le_refl _) (by rw [entP_len] at hbs ⊢; exact hbs)
  rw [entP_len, hpl] at C
  refine C.mono ?_
  rintro e w' ⟨rfl, hb2, u', las', ss', sz', cs', a1, a2⟩
  refine ⟨rfl, ⟨u', ps ++ [entP z m], las', ss', sz', cs', a1, a2, by simp [hpl], fun q p hq => ?_⟩, hBW.trans hb2⟩
  rcases Nat.lt_or_ge q ps.length with hl | hl
  · rw [List.getElem?_append_left hl] at hq
    exact hent q p hq
  · rw [List.getElem?_append_right hl] at hq
    have : q - ps.length = 0 := by
      have := (List.getElem?_eq_some_iff.1 hq).1
      simp at this
      omega
    rw [this] at hq
    have e : entP z m = p := by simpa using hq
    rw [← e, show q = m by omega]
set_option maxHeartbeats 4000000 in
set_option maxRecDepth 100000 in
theorem many_walk (n size : Int) (w : World) (hcx : Cx w w.heap.size) : Calls Tryz.prog 8 #[.int .i64 n, .int .i64 size] w fun e w' => e = .returned (.bool true) ∧ Below w.heap.size w w' := by
  have CK := known_any w hcx
  by_cases h1 : n < 1
  · clear hcx
    go_enter Tryz.func8, Tryz.ntmps8
    go_wp2_with (go_at_call 10; refine CK.mono ?_; rintro e w1 ⟨rfl, hB⟩)
    go_ret
    exact ⟨rfl, hB⟩
  by_cases h2 : 300 < n
  · clear hcx
    go_enter Tryz.func8, Tryz.ntmps8
    go_wp2_with (go_at_call 10; refine CK.mono ?_; rintro e w1 ⟨rfl, hB⟩)
    go_ret
    exact ⟨rfl, hB⟩
  by_cases h3 : size < 0
  · clear hcx
    go_enter Tryz.func8, Tryz.ntmps8
    go_wp2_with (go_at_call 10; refine CK.mono ?_; rintro e w1 ⟨rfl, hB⟩)
    go_ret
    exact ⟨rfl, hB⟩
  by_cases h4 : 200 < size
  · clear hcx
    go_enter Tryz.func8, Tryz.ntmps8
    go_wp2_with (go_at_call 10; refine CK.mono ?_; rintro e w1 ⟨rfl, hB⟩)
    go_ret
    exact ⟨rfl, hB⟩
  clear CK
  obtain ⟨N1, rfl⟩ : ∃ m : Nat, n = (m : Int) := ⟨n.toNat, by omega⟩
  obtain ⟨z, rfl⟩ : ∃ m : Nat, size = (m : Int) := ⟨size.toNat, by omega⟩
  have CS := start_any 1048576 (by decide) w hcx
  have HC := hid_into hcx
  clear hcx
  go_enter Tryz.func8, Tryz.ntmps8
  go_wp2_with (go_at_call 11; refine CS.mono ?_; rintro e w1 ⟨pb, rfl, B1, sb, wb, lb, xb, sz0, hS⟩; have HM := hid_into (show Mz w w1 pb sb lb z 0 from ⟨_, _, _, _, _, _, Ho.of_hs hS, My.start _ _, rfl, fun q p h => by simp at h⟩); have HB1 := hid_into B1; clear B1 hS)
  go_loopw [7] (fun i wr => ∃ m : Nat, m ≤ N1 ∧ i = .int .i64 (m : Int) ∧ Hid (Mz w wr pb sb lb z m) ∧ Hid (Below w.heap.size w wr)) (fun i _ => N1 - (intOf i).toNat)
  case atStart => exact ⟨0, by omega, rfl, HM, HB1⟩
  case round =>
    clear HM HB1
    obtain ⟨m, hm, rfl, HM, HB⟩ := hrel
    by_cases hlt : m < N1
    · have f1 : (m : Int) < (N1 : Int) := by omega
      have HP := hid_into (fun W (hb : Below wr.heap.size wr W) => HM.out.pair hb)
      have HA := hid_into (fun W (hb : Below wr.heap.size wr W) (hW : Cw W wr.heap.size (cellsOf (entP z m)) 5) => HM.out.ap HC.out HB.out hb (by omega) (by omega) hW)
      by_cases hz : 0 < z
      · have f2 : (0 : Int) < (z : Int) := by omega
        obtain ⟨r, hr⟩ : ∃ r : Nat, r = m % z := ⟨_, rfl⟩
        obtain ⟨c, hc⟩ : ∃ c : Nat, c = m % 256 := ⟨_, rfl⟩
        have hrz : r < z := by rw [hr]; exact Nat.mod_lt _ hz
        have q1 : (m : Int) % (z : Int) = (r : Int) := by rw [hr]; omega
        have q2 : IntKind.u8.wrap (m : Int) = (c : Int) := by rw [IntKind.wrap_u8]; omega
        have q3 : (0 : Int) ≤ (r : Int) := by omega
        have q4 : (r : Int) < (z : Int) := by omega
        have HE : Hid (entP z m = (List.replicate z 0).set r (c : Int)) := hid_into (by rw [hr, hc]; rfl)
        clear hr hc
        go_wp2_with (refine wpList_make_b _ rfl (.tmp 47) (.tmp 47) rfl z rfl rfl (by omega) ?_; intro W hW BW hWs; have k1 : W.cell? ⟨wr.heap.size, r, none⟩ = some (.int .u8 0) := (by rw [hW.cell]; simp [cellsOf, hrz]); have k2 := hW.frozen r; have k3 := HP.out _ (BW.setCell (p := ⟨wr.heap.size, r, none⟩) (Nat.le_refl _) (.int .u8 (c : Int))); have HW := hid_into hW; have HBW := hid_into BW; clear hW BW hWs)
        have HA2 := hid_into (HA.out _ (HBW.out.setCell (p := ⟨wr.heap.size, r, none⟩) (Nat.le_refl _) (.int .u8 (c : Int))) (by rw [HE.out]; exact HW.out.setB r (c : Int)))
        refine HA2.out.mono ?_
        rintro e w2 ⟨rfl, hM2, hB2⟩
        have HM2 := hid_into hM2
        have HB2 := hid_into hB2
        clear hM2 hB2
        go_wp2
        go_roundw
        case rel => exact ⟨m + 1, by omega, by go_num, HM2, HB2⟩
        case measure => simp [intOf]; omega
      · have f2 : ¬ (0 : Int) < (z : Int) := by omega
        have hz0 : z = 0 := by omega
        have HZ : Hid (entP z m = List.replicate z 0) := hid_into (by rw [hz0, entP_zero]; rfl)
        clear hz0 hz
        go_wp2_with (refine wpList_make_b _ rfl (.tmp 47) (.tmp 47) rfl z rfl rfl (by omega) ?_; intro W hW BW hWs; have k3 := HP.out _ BW; have HW := hid_into hW; have HBW := hid_into BW; clear hW BW hWs)
        have HA2 := hid_into (HA.out _ HBW.out (by rw [HZ.out]; exact HW.out))
        refine HA2.out.mono ?_
        rintro e w2 ⟨rfl, hM2, hB2⟩
        have HM2 := hid_into hM2
        have HB2 := hid_into hB2
        clear hM2 hB2
        go_wp2
        go_roundw
        case rel => exact ⟨m + 1, by omega, by go_num, HM2, HB2⟩
        case measure => simp [intOf]; omega
    · have hme : m = N1 := by omega
      have f1 : ¬ (m : Int) < (N1 : Int) := by omega
      obtain ⟨u, ps, las, ss, sz, cs, hH, hMy, hpl, hent⟩ := HM.out
      have k1 := hH.pair.2
      have CN := HoNames hH
      have HH := hid_into hH
      have HY := hid_into hMy
      have HPL := hid_into hpl
      have HEN := hid_into hent
      clear hH hMy hpl hent HM
      go_wp2_with (go_at_call 33; refine CN.mono ?_; rintro e w2 ⟨v, rfl, hO, hB2⟩)
      have hps1 : 1 ≤ ps.length := by rw [HPL.out]; omega
      have hcs : cs ≠ [] := fun e => by have h9 := HY.out.wh.pe; rw [e] at h9; rw [h9] at hps1; simp at hps1
      have hss1 : ss[0]? = some 1 := by
        rw [HY.out.wh.se]
        cases cs with
        | nil => exact absurd rfl hcs
        | cons c cs => rfl
      have hssne : ss ≠ [] := fun e => by rw [e] at hss1; cases hss1
      obtain ⟨g, cap, rfl, hg1, hg2, hcell⟩ : ∃ g cap, v = .slice (some ⟨g, 0, none⟩) ss.length cap ∧ wr.heap.size ≤ g ∧ g < w2.heap.size ∧ ∀ i x, (namesN [97] ss)[i]? = some x → w2.cell? ⟨g, i, none⟩ = some (encStr x) := by
        rcases row_str hO with ⟨_, e2⟩ | ⟨g, cap, e1, e2, e3, e4⟩
        · exact absurd (List.map_eq_nil_iff.1 e2) hssne
        · refine ⟨g, cap, ?_, e2, e3, e4⟩
          rw [e1]; simp [namesN]
      have hnl : ss.length ≤ 5000 := by have := HH.out.sl.few.2; omega
      have hnl1 : 1 ≤ ss.length := List.length_pos_iff.2 hssne
      have HCell := hid_into hcell
      have HF := hid_into (fun q (hq : q + 1 < ss.length) => HY.out.file q hq)
      have HO := hid_into hO
      have HH2 := hid_into (HH.out.below hB2).wide
      have HG2 := hid_into ((HH.out.below hB2).hg hg1 hg2)
      have HHn := hid_into (HH.out.below hB2)
      obtain ⟨N0, hN0⟩ : ∃ N0, N0 = wr.heap.size := ⟨_, rfl⟩
      rw [← hN0] at hg1 HHn
      have hN2 : N0 ≤ w2.heap.size := by rw [hN0]; exact hB2.size
      have HN0 := hid_into hN2
      clear hN0 hN2
      have HB2 := hid_into (HB.out.trans (hB2.mono HB.out.size))
      have HS1 := hid_into hss1
      have HO2 : Hid (St w2 (.slice (some ⟨g, 0, none⟩) ss.length cap) (namesN [97] ss)) := hid_into ⟨_, cap, by simp [namesN], fun _ => ⟨g, 0, rfl, fun i x hx => by rw [Nat.zero_add]; exact hcell i x hx⟩⟩
      clear hcell hO hB2 hss1 hssne hcs hps1 k1 CN HH HB HO
      obtain ⟨nl, hnle⟩ : ∃ nl, nl = ss.length := ⟨_, rfl⟩
      rw [← hnle] at HF hnl hnl1 HO2 ⊢
      have HNL := hid_into hnle
      clear hnle
      go_loopw [12] (fun i wq => ∃ q : Nat, q + 1 ≤ nl ∧ i = .int .i64 (q : Int) ∧ Hid (Below w2.heap.size w2 wq)) (fun i _ => nl - (intOf i).toNat)
      case atStart => exact ⟨0, by omega, rfl, hid_into (Below.refl _ _)⟩
      case round =>
        obtain ⟨q, hq, rfl, HQ⟩ := hrel
        by_cases hql : q + 1 < nl
        · have f2 : (q : Int) + 1 < (nl : Int) := by omega
          obtain ⟨mq, hmq, hm1, hm2, hm3⟩ := HF.out q hql
          have hxq : (namesN [97] ss)[q]? = some (nameN [97] mq) := by simp [namesN, hmq]
          have hmq1 : mq ≤ 5000000 := by have := HH2.out.sl.num mq (List.mem_of_getElem? hmq); omega
          have hnx : (nameN [97] mq).length ≤ maxLen := names_le (by rw [nameN_len [97] mq (by omega)]; simp)
          have HR := hid_into (fun W (hb : Below w2.heap.size w2 W) => HoRead (HH2.out.below hb) (nameN [97] mq) hnx)
          have HD0 := hid_into (fun W (hb : Below w2.heap.size w2 W) => (HH2.out.below hb).pair.1)
          have HX := hid_into (fun W (hb : Below w2.heap.size w2 W) => (hb.cell (p := ⟨g, q, none⟩) hg2).trans (HCell.out q _ hxq))
          obtain ⟨ln, hln⟩ : ∃ ln, ln = lenU u.us (nameN [97] mq) := ⟨_, rfl⟩
          rw [← hln] at HR hm2 hm3
          have f3 : ¬ (ln : Int) < 512 := by omega
          have f4 : ¬ (512 : Int) + (z : Int) + 30 < (ln : Int) := by omega
          generalize rdE u.us (nameN [97] mq) = re at *
          generalize nameN [97] mq = x at *
          have s1 := HD0.out _ HQ.out.drew
          have s2 := HX.out _ HQ.out.drew
          have i1 : (0 : Int) ≤ (q : Int) := by omega
          have i2 : (q : Int) < (nl : Int) := by omega
          clear hmq hm1 hxq hln hnx
          go_wp2
          go_region_held3 (fun W => W.cell? ⟨pb, 0, none⟩ = some (.pointer (some ⟨sb, 0, none⟩)) ∧ W.cell? ⟨g, q, none⟩ = some (encStr x)) (exact ⟨by first | assumption | exact s1 | exact d1, by first | assumption | exact s2 | exact d2⟩)
            (first | (go_at_call 34; refine (HR.out _ HQ.out.drew).mono ?_; rintro e w3 ⟨ao, cp, rfl, hB3⟩; have HQ3 := hid_into (HQ.out.drew.trans (hB3.mono HQ.out.drew.size)); have d1 := HD0.out _ HQ3.out; have d2 := HX.out _ HQ3.out))
          go_wp2
          go_roundw
          case rel => exact ⟨q + 1, by omega, by go_num, HQ3⟩
          case measure => simp [intOf]; omega
        · have f2 : ¬ (q : Int) + 1 < (nl : Int) := by omega
          have HB3 := hid_into (HB2.out.trans (HQ.out.mono HB2.out.size))
          have hG : Hg wr w.heap.size pb sb lb g u ps las ss sz m := (HHn.out.below (HQ.out.mono HN0.out)).hg hg1 (Nat.lt_of_lt_of_le hg2 HQ.out.size)
          have k1 := hG.pair.2
          have CY := HgSync hG HY.out (by omega) (HC.out.below HB3.out) (by rw [HPL.out]; omega) (by rw [HPL.out]; omega)
          have HGq : Hid (wr.heap[g]? = w2.heap[g]?) := hid_into (HQ.out.block g hg2)
          clear hG
          go_wp2_with (go_at_call 18; refine CY.mono ?_; rintro e w3 ⟨rfl, hB4, hgb4, u4', las4, hG4, hW4, hL4⟩; have k2 := hG4.pair.1; have hB34 := HB3.out.trans hB4; have CC := HgCrash hG4 hB34.size; have HG4 := hid_into (hgb4.trans HGq.out); have HSL := hid_into hG4.sl; have HW4 := hid_into hW4; have HL4 := hid_into hL4; have HB4 := hid_into hB34; clear hB4 hgb4 hG4 hW4 hL4 hB34)
          refine CC.mono ?_
          rintro e w4 ⟨rfl, hB5, hgb5, hE5, k3⟩
          have hB45 := HB4.out.trans hB5
          have CO := EgOpen hE5 HW4.out HL4.out HSL.out (by rw [HPL.out]; omega) (HC.out.below hB45)
          have HG5 := hid_into (hgb5.trans HG4.out)
          have HB5 := hid_into hB45
          clear hB5 hgb5 hE5 hB45 CC CY
          obtain ⟨i0, hi0⟩ : ∃ i0 : Nat, N1 = i0 + 1 := ⟨N1 - 1, by omega⟩
          obtain ⟨p, hp⟩ : ∃ p, ps[i0]? = some p := ⟨_, List.getElem?_eq_getElem (by rw [HPL.out]; omega)⟩
          have hpe := HEN.out i0 p hp
          have hplz : p.length = z := by rw [hpe, entP_len]
          have HI0 := hid_into hi0
          have hnx : ((ps.length : Nat) : Int) + 1 = (N1 : Int) + 1 := by rw [HPL.out, hme]
          have hin : (i0 : Int) + 1 = (N1 : Int) := by omega
          have HEt := hid_into (fun W lb2 (hL : Lo W lb2 ps ss) => (show Calls Tryz.prog 25 #[.pointer (some ⟨lb2, 0, none⟩), .int .i64 (N1 : Int)] W fun e w' => ∃ ao cap, e = .returned (.tuple #[.slice ao z cap, .int .i64 0]) ∧ Ow w' W.heap.size (.slice ao z cap) (entP z i0) ∧ Below W.heap.size W w' by
            have C := LoEntry hL hp
            rw [hin, hplz, hpe] at C
            exact C))
          have HNx := hid_into (fun W lb2 (hL : Lo W lb2 ps ss) => (show Calls Tryz.prog 24 #[.pointer (some ⟨lb2, 0, none⟩)] W fun e w' => ∃ mm : Int, e = .returned (.tuple #[.int .i64 ((N1 : Int) + 1), .int .i64 mm]) ∧ Below W.heap.size W w' by
            have C := LoNext hL
            rw [hnx] at C
            exact C))
          clear hi0 hp hpe hplz hnx hin
          go_wp2_with (first
            | (go_at_call 22; refine CO.mono ?_; rintro e w5 ⟨lb2, rfl, hB6, hgb6, hLo⟩; have HB6 := hid_into (HB5.out.trans hB6); have HG6 := hid_into (hgb6.trans HG5.out); have HLo := hid_into hLo; clear hB6 hgb6 hLo)
            | (go_at_call 24; refine (HNx.out _ _ HLo.out).mono ?_; rintro e w6 ⟨mm, rfl, hB7⟩; have HLo6 := hid_into (HLo.out.below hB7); have HB7 := hid_into hB7; clear hB7)
            | (go_at_call 25; refine (HEt.out _ _ HLo6.out).mono ?_; rintro e w7 ⟨ao, cb, rfl, hOw, hB8⟩; have HLo7 := hid_into (HLo6.out.below hB8); have HOw := hid_into hOw; have HB8 := hid_into hB8; clear hB8 hOw))
          have hgS : g < w5.heap.size := by
            have h9 := HG6.out
            rw [Array.getElem?_eq_getElem hg2] at h9
            exact (Array.getElem?_eq_some_iff.1 h9).1
          have HGW := hid_into (fun W (hb : Below w7.heap.size w7 W) => (show W.heap[g]? = w2.heap[g]? by
            have g6 := HB7.out.size
            have g7 := HB8.out.size
            rw [hb.block g (by omega), HB8.out.block g (by omega), HB7.out.block g hgS]
            exact HG6.out))
          have HST := hid_into (fun W (hb : Below w7.heap.size w7 W) => (show St W (.slice (some ⟨g, 0, none⟩) nl cap) (namesN [97] ss) by
            refine ⟨_, cap, by rw [HNL.out]; simp [namesN], fun _ => ⟨g, 0, rfl, fun i x hx => ?_⟩⟩
            rw [Nat.zero_add, World.cell?_of_block (w := w2) (HGW.out W hb)]
            exact HCell.out i x hx))
          have HLN := hid_into (fun W (hb : Below w7.heap.size w7 W) => LoNames (HLo7.out.below hb))
          have hxl : (namesN [97] ss).length ≤ 100000000 := by rw [namesN, List.length_map, ← HNL.out]; omega
          have HTX := hid_into (fun W va (ha : St W va (namesN [97] ss)) (hb : Below w7.heap.size w7 W) => texts_same va (.slice (some ⟨g, 0, none⟩) nl cap) (namesN [97] ss) W ha (HST.out W hb) hxl)
          have HNM := hid_into (fun W => name_ref [97] 1 (by decide) (by decide) W)
          have HB9 := hid_into (((HB6.out.trans (HB7.out.mono HB6.out.size)).trans (HB8.out.mono (Nat.le_trans HB6.out.size HB7.out.size))))
          have HKN := hid_into (fun W (hb : Below w7.heap.size w7 W) => known_any W (by
            have hw := (HC.out.below (HB9.out.trans (hb.mono HB9.out.size)))
            exact ⟨hw.tab, hw.pw, Nat.le_trans hw.b8 hw.bw, Nat.le_refl _⟩))
          have HX0 := hid_into (fun W (hb : Below w7.heap.size w7 W) => (show W.cell? ⟨g, 0, none⟩ = some (encStr (nameN [97] 1)) by
            rw [World.cell?_of_block (w := w2) (HGW.out W hb)]
            exact HCell.out 0 _ (by simp [namesN, HS1.out])))
          generalize nameN [97] 1 = x1 at *
          have n1 : IntKind.i64.wrap ((N1 : Int) + 1) = (N1 : Int) + 1 := by rw [IntKind.wrap_i64]; omega
          have n2 : IntKind.i64.wrap ((N1 : Int) - 1) = (i0 : Int) := by rw [IntKind.wrap_i64]; have := HI0.out; omega
          have j0 : (0 : Int) < (nl : Int) := by omega
          have j1 : 0 < nl := by omega
          by_cases hz : 0 < z
          · obtain ⟨r, hr⟩ : ∃ r : Nat, r = i0 % z := ⟨_, rfl⟩
            obtain ⟨c, hc⟩ : ∃ c : Nat, c = i0 % 256 := ⟨_, rfl⟩
            have hrz : r < z := by rw [hr]; exact Nat.mod_lt _ hz
            have n3 : IntKind.i64.wrap ((i0 : Int).tmod (z : Int)) = (r : Int) := by
              rw [Int.tmod_eq_emod_of_nonneg (by omega), IntKind.wrap_i64, hr]
              omega
            have n5 : (i0 : Int).tmod (z : Int) = (r : Int) := by rw [Int.tmod_eq_emod_of_nonneg (by omega), hr]; omega
            have n6 : IntKind.i64.wrap (r : Int) = (r : Int) := by rw [IntKind.wrap_i64]; omega
            have n7 : (i0 : Int) % (z : Int) = (r : Int) := by rw [hr]; omega
            have n4 : IntKind.u8.wrap (i0 : Int) = (c : Int) := by rw [IntKind.wrap_u8]; omega
            have z0 : ((z : Int) == 0) = false := by simp; omega
            have z1 : ¬ (z : Int) = 0 := by omega
            have z2 : ¬ z = 0 := by omega
            have z3 : (z == 0) = false := by simp; omega
            have i1 : (0 : Int) ≤ (r : Int) := by omega
            have i2 : (r : Int) < (z : Int) := by omega
            obtain ⟨bb, rfl⟩ : ∃ bb, ao = some ⟨bb, 0, none⟩ := by
              obtain ⟨ao', cap', he, hh⟩ := HOw.out.form
              rw [entP_len] at he
              simp only [Value.slice.injEq] at he
              rcases hh with ⟨_, _, hh⟩ | ⟨g', cur, hh, _⟩
              · have := congrArg List.length hh; rw [entP_len] at this; simp at this; omega
              · exact ⟨g', by rw [he.1, hh]⟩
            have hcb : w7.cell? ⟨bb, r, none⟩ = some (.int .u8 (c : Int)) := by
              rcases HOw.out.bs with ⟨h0, _⟩ | ⟨_, b', off, cap', he, _, _, hcell⟩
              · have := congrArg List.length h0; rw [entP_len] at this; simp at this; omega
              · simp only [Value.slice.injEq, Option.some.injEq, Addr.mk.injEq] at he
                obtain ⟨⟨rfl, rfl, _⟩, _, _⟩ := he
                have := hcell r (by rw [entP_len]; exact hrz)
                rw [Nat.zero_add, hr, entP_at z i0 hz, ← hr, ← hc] at this
                exact this
            have hbl : bb < w7.heap.size := World.block_lt_of_cell? w7 _ hcb
            have HCB := hid_into (fun W (hb : Below w7.heap.size w7 W) => (hb.cell (p := ⟨bb, r, none⟩) hbl).trans hcb)
            have b0 : Hid (Below w7.heap.size w7 w7.drew) := hid_into (Below.refl _ _).drew
            have s1 := HCB.out _ b0.out
            have s2 := HX0.out _ b0.out
            clear hr hc hcb
            go_region_held3 (fun W => W.cell? ⟨bb, r, none⟩ = some (.int .u8 (c : Int)) ∧ W.cell? ⟨g, 0, none⟩ = some (encStr x1)) (exact ⟨by first | assumption | exact s1 | exact d1 | exact e1 | exact f1' | exact g1', by first | assumption | exact s2 | exact d2 | exact e2 | exact f2' | exact g2'⟩)
              (first
                | (go_at_call 33; refine (HLN.out _ b0.out).mono ?_; rintro e w8 ⟨v8, rfl, hO8, hB8'⟩; have b1 := hid_into (b0.out.trans (hB8'.mono b0.out.size)); have d1 := HCB.out _ b1.out; have d2 := HX0.out _ b1.out; have HO8 := hid_into hO8.st2; clear hO8 hB8')
                | (go_at_call 35; refine (HTX.out _ _ HO8.out b1.out).mono ?_; rintro e w9 ⟨rfl, hs9⟩; have b2 := hid_into (b1.out.trans (hs9.below _)); have e1 := HCB.out _ b2.out; have e2 := HX0.out _ b2.out)
                | (go_at_call 28; refine (HNM.out _).mono ?_; rintro e w10 ⟨rfl, hB10⟩; have b3 := hid_into (b2.out.trans (hB10.mono b2.out.size)); have f1' := HCB.out _ b3.out; have f2' := HX0.out _ b3.out)
                | (go_at_call 10; refine (HKN.out _ b3.out).mono ?_; rintro e w11 ⟨rfl, hB11⟩; have b4 := hid_into (b3.out.trans (hB11.mono b3.out.size)); have g1' := HCB.out _ b4.out; have g2' := HX0.out _ b4.out))
            go_wp2
            go_ret
            exact ⟨rfl, HB9.out.trans (b4.out.mono HB9.out.size)⟩
          · have z0 : ((z : Int) == 0) = true := by simp; omega
            have z1 : (z == 0) = true := by simp; omega
            have z4 : (0 : Int) = (z : Int) := by omega
            have b0 : Hid (Below w7.heap.size w7 w7.drew) := hid_into (Below.refl _ _).drew
            have s2 := HX0.out _ b0.out
            clear hz z4
            have hS := s2
            refine wp_region_L 47 (fun W => W.cell? ⟨g, 0, none⟩ = some (encStr x1)) (by kernel_rfl) ?_
            refine' wpL_take 0 146 rfl rfl (by kernel_rfl) (by kernel_rfl) (by kernel_rfl) (by kernel_rfl) (fun _ _ _ h => h) (by rfl) hS ?y146x1 ?r146x1
            case y146x1 => (intro u hSu; (try dsimp only at hSu); go_simp; try with_reducible rfl)
            simp only [Act.put, List.setIfInBounds_toArray, List.set_cons_zero, List.set_cons_succ]
            refine' wpL_take 1 147 rfl rfl (by kernel_rfl) (by kernel_rfl) (by kernel_rfl) (by kernel_rfl) (fun _ _ _ h => h) (by rfl) hS ?y147x1 ?r147x1
            case y147x1 => (intro u hSu; (try dsimp only at hSu); go_simp; try with_reducible rfl)
            simp only [Act.put, List.setIfInBounds_toArray, List.set_cons_zero, List.set_cons_succ]
            refine' wpL_take 2 148 rfl rfl (by kernel_rfl) (by kernel_rfl) (by kernel_rfl) (by kernel_rfl) (fun _ _ _ h => h) (by rfl) hS ?y148x1 ?r148x1
            case y148x1 => (intro u hSu; (try dsimp only at hSu); go_simp; try with_reducible rfl)
            simp only [Act.put, List.setIfInBounds_toArray, List.set_cons_zero, List.set_cons_succ]
            refine' wpL_take 3 149 rfl rfl (by kernel_rfl) (by kernel_rfl) (by kernel_rfl) (by kernel_rfl) (fun _ _ _ h => h) (by rfl) hS ?y149x1 ?r149x1
            case y149x1 => (intro u hSu; (try dsimp only at hSu); go_simp; try with_reducible rfl)
            simp only [Act.put, List.setIfInBounds_toArray, List.set_cons_zero, List.set_cons_succ]
            refine' wpL_take 4 150 rfl rfl (by kernel_rfl) (by kernel_rfl) (by kernel_rfl) (by kernel_rfl) (fun _ _ _ h => h) (by rfl) hS ?y150x1 ?r150x1
            case y150x1 => (intro u hSu; (try dsimp only at hSu); go_simp; try with_reducible rfl)
            simp only [Act.put, List.setIfInBounds_toArray, List.set_cons_zero, List.set_cons_succ]
            refine' wpL_take 5 151 rfl rfl (by kernel_rfl) (by kernel_rfl) (by kernel_rfl) (by kernel_rfl) (fun _ _ _ h => h) (by rfl) hS ?y151x1 ?r151x1
            case y151x1 => (intro u hSu; (try dsimp only at hSu); go_simp; try with_reducible rfl)
            simp only [Act.put, List.setIfInBounds_toArray, List.set_cons_zero, List.set_cons_succ]
            refine' wpL_take 6 152 rfl rfl (by kernel_rfl) (by kernel_rfl) (by kernel_rfl) (by kernel_rfl) (fun _ _ _ h => h) (by rfl) hS ?y152x1 ?r152x1
            case y152x1 => (intro u hSu; (try dsimp only at hSu); go_simp; try with_reducible rfl)
            simp only [Act.put, List.setIfInBounds_toArray, List.set_cons_zero, List.set_cons_succ]
            refine' wpL_take 7 153 rfl rfl (by kernel_rfl) (by kernel_rfl) (by kernel_rfl) (by kernel_rfl) (fun _ _ _ h => h) (by rfl) hS ?y153x1 ?r153x1
            case y153x1 => (intro u hSu; (try dsimp only at hSu); go_simp; try with_reducible rfl)
            simp only [Act.put, List.setIfInBounds_toArray, List.set_cons_zero, List.set_cons_succ]
            refine' wpL_take 8 154 rfl rfl (by kernel_rfl) (by kernel_rfl) (by kernel_rfl) (by kernel_rfl) (fun _ _ _ h => h) (by rfl) hS ?y154x1 ?r154x1
            case y154x1 => (intro u hSu; (try dsimp only at hSu); go_simp; try with_reducible rfl)
            simp only [Act.put, List.setIfInBounds_toArray, List.set_cons_zero, List.set_cons_succ]
            refine' wpL_take 9 155 rfl rfl (by kernel_rfl) (by kernel_rfl) (by kernel_rfl) (by kernel_rfl) (fun _ _ _ h => h) (by rfl) hS ?y155x1 ?r155x1
            case y155x1 => (intro u hSu; (try dsimp only at hSu); go_simp; try with_reducible rfl)
            simp only [Act.put, List.setIfInBounds_toArray, List.set_cons_zero, List.set_cons_succ]
            refine' wpL_take 10 156 rfl rfl (by kernel_rfl) (by kernel_rfl) (by kernel_rfl) (by kernel_rfl) (fun _ _ _ h => h) (by rfl) hS ?y156x1 ?r156x1
            case y156x1 => (intro u hSu; (try dsimp only at hSu); go_simp; try with_reducible rfl)
            simp only [Act.put, List.setIfInBounds_toArray, List.set_cons_zero, List.set_cons_succ]
            refine' wpL_take 11 157 rfl rfl (by kernel_rfl) (by kernel_rfl) (by kernel_rfl) (by kernel_rfl) (fun _ _ _ h => h) (by rfl) hS ?y157x1 ?r157x1
            case y157x1 => (intro u hSu; (try dsimp only at hSu); go_simp; try with_reducible rfl)
            simp only [Act.put, List.setIfInBounds_toArray, List.set_cons_zero, List.set_cons_succ]
            refine' wpL_take 12 158 rfl rfl (by kernel_rfl) (by kernel_rfl) (by kernel_rfl) (by kernel_rfl) (fun _ _ _ h => h) (by rfl) hS ?y158x1 ?r158x1
            case y158x1 => (intro u hSu; (try dsimp only at hSu); go_simp; try with_reducible rfl)
            simp only [Act.put, List.setIfInBounds_toArray, List.set_cons_zero, List.set_cons_succ]
            refine' wpL_take 13 159 rfl rfl (by kernel_rfl) (by kernel_rfl) (by kernel_rfl) (by kernel_rfl) (fun _ _ _ h => h) (by rfl) hS ?y159x1 ?r159x1
            case y159x1 => (intro u hSu; (try dsimp only at hSu); go_simp; try with_reducible rfl)
            simp only [Act.put, List.setIfInBounds_toArray, List.set_cons_zero, List.set_cons_succ]
            refine' wpL_take 14 160 rfl rfl (by kernel_rfl) (by kernel_rfl) (by kernel_rfl) (by kernel_rfl) (fun _ _ _ h => h) (by rfl) hS ?y160x1 ?r160x1
            case y160x1 => (intro u hSu; (try dsimp only at hSu); go_simp; try with_reducible rfl)
            simp only [Act.put, List.setIfInBounds_toArray, List.set_cons_zero, List.set_cons_succ]
            refine' wpL_take 15 161 rfl rfl (by kernel_rfl) (by kernel_rfl) (by kernel_rfl) (by kernel_rfl) (fun _ _ _ h => h) (by rfl) hS ?y161x1 ?r161x1
            case y161x1 => (intro u hSu; (try dsimp only at hSu); go_simp; try with_reducible rfl)
            simp only [Act.put, List.setIfInBounds_toArray, List.set_cons_zero, List.set_cons_succ]
            refine' wpL_take 16 162 rfl rfl (by kernel_rfl) (by kernel_rfl) (by kernel_rfl) (by kernel_rfl) (fun _ _ _ h => h) (by rfl) hS ?y162x1 ?r162x1
            case y162x1 => (intro u hSu; (try dsimp only at hSu); go_simp; try with_reducible rfl)
            simp only [Act.put, List.setIfInBounds_toArray, List.set_cons_zero, List.set_cons_succ]
            refine' wpL_take 17 163 rfl rfl (by kernel_rfl) (by kernel_rfl) (by kernel_rfl) (by kernel_rfl) (fun _ _ _ h => h) (by rfl) hS ?y163x1 ?r163x1
            case y163x1 => (intro u hSu; (try dsimp only at hSu); go_simp; try with_reducible rfl)
            simp only [Act.put, List.setIfInBounds_toArray, List.set_cons_zero, List.set_cons_succ]
            refine wpL_skip 18 164 rfl rfl (by kernel_rfl) (by kernel_rfl) (by kernel_rfl) (by kernel_rfl) (fun _ _ _ h => h) (by rfl) hS ?_
            simp only [Act.put, List.setIfInBounds_toArray, List.set_cons_zero, List.set_cons_succ]
            refine wpL_skip 19 165 rfl rfl (by kernel_rfl) (by kernel_rfl) (by kernel_rfl) (by kernel_rfl) (fun _ _ _ h => h) (by rfl) hS ?_
            simp only [Act.put, List.setIfInBounds_toArray, List.set_cons_zero, List.set_cons_succ]
            refine wpL_skip 20 166 rfl rfl (by kernel_rfl) (by kernel_rfl) (by kernel_rfl) (by kernel_rfl) (fun _ _ _ h => h) (by rfl) hS ?_
            simp only [Act.put, List.setIfInBounds_toArray, List.set_cons_zero, List.set_cons_succ]
            refine wpL_skip 21 167 rfl rfl (by kernel_rfl) (by kernel_rfl) (by kernel_rfl) (by kernel_rfl) (fun _ _ _ h => h) (by rfl) hS ?_
            simp only [Act.put, List.setIfInBounds_toArray, List.set_cons_zero, List.set_cons_succ]
            refine wpL_skip 22 168 rfl rfl (by kernel_rfl) (by kernel_rfl) (by kernel_rfl) (by kernel_rfl) (fun _ _ _ h => h) (by rfl) hS ?_
            simp only [Act.put, List.setIfInBounds_toArray, List.set_cons_zero, List.set_cons_succ]
            refine wpL_skip 23 169 rfl rfl (by kernel_rfl) (by kernel_rfl) (by kernel_rfl) (by kernel_rfl) (fun _ _ _ h => h) (by rfl) hS ?_
            simp only [Act.put, List.setIfInBounds_toArray, List.set_cons_zero, List.set_cons_succ]
            refine wpL_skip 24 170 rfl rfl (by kernel_rfl) (by kernel_rfl) (by kernel_rfl) (by kernel_rfl) (fun _ _ _ h => h) (by rfl) hS ?_
            simp only [Act.put, List.setIfInBounds_toArray, List.set_cons_zero, List.set_cons_succ]
            refine wpL_skip 25 171 rfl rfl (by kernel_rfl) (by kernel_rfl) (by kernel_rfl) (by kernel_rfl) (fun _ _ _ h => h) (by rfl) hS ?_
            simp only [Act.put, List.setIfInBounds_toArray, List.set_cons_zero, List.set_cons_succ]
            refine wpL_skip 26 172 rfl rfl (by kernel_rfl) (by kernel_rfl) (by kernel_rfl) (by kernel_rfl) (fun _ _ _ h => h) (by rfl) hS ?_
            simp only [Act.put, List.setIfInBounds_toArray, List.set_cons_zero, List.set_cons_succ]
            refine wpL_skip 27 173 rfl rfl (by kernel_rfl) (by kernel_rfl) (by kernel_rfl) (by kernel_rfl) (fun _ _ _ h => h) (by rfl) hS ?_
            simp only [Act.put, List.setIfInBounds_toArray, List.set_cons_zero, List.set_cons_succ]
            refine wpL_skip 28 174 rfl rfl (by kernel_rfl) (by kernel_rfl) (by kernel_rfl) (by kernel_rfl) (fun _ _ _ h => h) (by rfl) hS ?_
            simp only [Act.put, List.setIfInBounds_toArray, List.set_cons_zero, List.set_cons_succ]
            refine' wpL_take 29 175 rfl rfl (by kernel_rfl) (by kernel_rfl) (by kernel_rfl) (by kernel_rfl) (fun _ _ _ h => h) (by rfl) hS ?y175x2 ?r175x2
            case y175x2 => (intro u hSu; (try dsimp only at hSu); go_simp; try with_reducible rfl)
            simp only [Act.put, List.setIfInBounds_toArray, List.set_cons_zero, List.set_cons_succ]
            refine' wpL_take 30 176 rfl rfl (by kernel_rfl) (by kernel_rfl) (by kernel_rfl) (by kernel_rfl) (fun _ _ _ h => h) (by rfl) hS ?y176x2 ?r176x2
            case y176x2 => (intro u hSu; (try dsimp only at hSu); go_simp; try with_reducible rfl)
            simp only [Act.put, List.setIfInBounds_toArray, List.set_cons_zero, List.set_cons_succ]
            refine' wpL_take 31 177 rfl rfl (by kernel_rfl) (by kernel_rfl) (by kernel_rfl) (by kernel_rfl) (fun _ _ _ h => h) (by rfl) hS ?y177x2 ?r177x2
            case y177x2 => (intro u hSu; (try dsimp only at hSu); go_simp; try with_reducible rfl)
            simp only [Act.put, List.setIfInBounds_toArray, List.set_cons_zero, List.set_cons_succ]
            refine' wpL_take 32 178 rfl rfl (by kernel_rfl) (by kernel_rfl) (by kernel_rfl) (by kernel_rfl) (fun _ _ _ h => h) (by rfl) hS ?y178x2 ?r178x2
            case y178x2 => (intro u hSu; (try dsimp only at hSu); go_simp; try with_reducible rfl)
            simp only [Act.put, List.setIfInBounds_toArray, List.set_cons_zero, List.set_cons_succ]
            refine' wpL_take 34 180 rfl rfl (by kernel_rfl) (by kernel_rfl) (by kernel_rfl) (by kernel_rfl) (fun _ _ _ h => h) (by rfl) hS ?y180x2 ?r180x2
            case y180x2 => (intro u hSu; (try dsimp only at hSu); go_simp; try with_reducible rfl)
            simp only [Act.put, List.setIfInBounds_toArray, List.set_cons_zero, List.set_cons_succ]
            refine wpL_one (i := 33) (by kernel_rfl) rfl (fun K hK => ?_)
            rw [if_pos (by rfl)]
            go_simp
            refine (HLN.out _ b0.out).mono ?_; rintro e w8 ⟨v8, rfl, hO8, hB8'⟩; have b1 := hid_into (b0.out.trans (hB8'.mono b0.out.size)); have d2 := HX0.out _ b1.out; have HO8 := hid_into hO8.st2; clear hO8 hB8'
            dsimp only
            refine hK.out _ _ (fun _ => d2) ?_
            clear hK K
            replace hS := d2
            refine wpL_one (i := 35) (by kernel_rfl) rfl (fun K hK => ?_)
            rw [if_pos (by rfl)]
            go_simp
            refine (HTX.out _ _ HO8.out b1.out).mono ?_; rintro e w9 ⟨rfl, hs9⟩; have b2 := hid_into (b1.out.trans (hs9.below _)); have e2 := HX0.out _ b2.out; clear hs9
            dsimp only
            refine hK.out _ _ (fun _ => e2) ?_
            clear hK K
            replace hS := e2
            refine' wpL_take 36 182 rfl rfl (by kernel_rfl) (by kernel_rfl) (by kernel_rfl) (by kernel_rfl) (fun _ _ _ h => h) (by rfl) hS ?y182x3 ?r182x3
            case y182x3 => (intro u hSu; (try dsimp only at hSu); go_simp; try with_reducible rfl)
            simp only [Act.put, List.setIfInBounds_toArray, List.set_cons_zero, List.set_cons_succ]
            refine' wpL_take 37 183 rfl rfl (by kernel_rfl) (by kernel_rfl) (by kernel_rfl) (by kernel_rfl) (fun _ _ _ h => h) (by rfl) hS ?y183x3 ?r183x3
            case y183x3 => (intro u hSu; (try dsimp only at hSu); go_simp; try with_reducible rfl)
            simp only [Act.put, List.setIfInBounds_toArray, List.set_cons_zero, List.set_cons_succ]
            refine' wpL_take 38 184 rfl rfl (by kernel_rfl) (by kernel_rfl) (by kernel_rfl) (by kernel_rfl) (fun _ _ _ h => h) (by rfl) hS ?y184x3 ?r184x3
            case y184x3 => (intro u hSu; (try dsimp only at hSu); go_simp; try with_reducible rfl)
            simp only [Act.put, List.setIfInBounds_toArray, List.set_cons_zero, List.set_cons_succ]
            refine' wpL_take 39 185 rfl rfl (by kernel_rfl) (by kernel_rfl) (by kernel_rfl) (by kernel_rfl) (fun _ _ _ h => h) (by rfl) hS ?y185x3 ?r185x3
            case y185x3 => (intro u hSu; (try dsimp only at hSu); go_simp; try with_reducible rfl)
            simp only [Act.put, List.setIfInBounds_toArray, List.set_cons_zero, List.set_cons_succ]
            refine' wpL_take 40 186 rfl rfl (by kernel_rfl) (by kernel_rfl) (by kernel_rfl) (by kernel_rfl) (fun _ _ _ h => h) (by rfl) hS ?y186x3 ?r186x3
            case y186x3 => (intro u hSu; (try dsimp only at hSu); go_simp; try with_reducible rfl)
            simp only [Act.put, List.setIfInBounds_toArray, List.set_cons_zero, List.set_cons_succ]
            refine wpL_one (i := 41) (by kernel_rfl) rfl (fun K hK => ?_)
            rw [if_pos (by rfl)]
            go_simp
            refine (HNM.out _).mono ?_; rintro e w10 ⟨rfl, hB10⟩; have b3 := hid_into (b2.out.trans (hB10.mono b2.out.size)); have f2' := HX0.out _ b3.out; clear hB10
            dsimp only
            refine hK.out _ _ (fun _ => f2') ?_
            clear hK K
            replace hS := f2'
            refine' wpL_take 42 188 rfl rfl (by kernel_rfl) (by kernel_rfl) (by kernel_rfl) (by kernel_rfl) (fun _ _ _ h => h) (by rfl) hS ?y188x4 ?r188x4
            case y188x4 => (intro u hSu; (try dsimp only at hSu); go_simp; try with_reducible rfl)
            simp only [Act.put, List.setIfInBounds_toArray, List.set_cons_zero, List.set_cons_succ]
            refine' wpL_take 43 189 rfl rfl (by kernel_rfl) (by kernel_rfl) (by kernel_rfl) (by kernel_rfl) (fun _ _ _ h => h) (by rfl) hS ?y189x4 ?r189x4
            case y189x4 => (intro u hSu; (try dsimp only at hSu); go_simp; try with_reducible rfl)
            simp only [Act.put, List.setIfInBounds_toArray, List.set_cons_zero, List.set_cons_succ]
            refine' wpL_take 44 190 rfl rfl (by kernel_rfl) (by kernel_rfl) (by kernel_rfl) (by kernel_rfl) (fun _ _ _ h => h) (by rfl) hS ?y190x4 ?r190x4
            case y190x4 => (intro u hSu; (try dsimp only at hSu); go_simp; try with_reducible rfl)
            simp only [Act.put, List.setIfInBounds_toArray, List.set_cons_zero, List.set_cons_succ]
            refine wpL_one (i := 45) (by kernel_rfl) rfl (fun K hK => ?_)
            rw [if_pos (by rfl)]
            go_simp
            refine (HKN.out _ b3.out).mono ?_; rintro e w11 ⟨rfl, hB11⟩; have b4 := hid_into (b3.out.trans (hB11.mono b3.out.size)); have g2' := HX0.out _ b4.out; clear hB11
            dsimp only
            refine hK.out _ _ (fun _ => g2') ?_
            clear hK K
            replace hS := g2'
            refine' wpL_take 46 192 rfl rfl (by kernel_rfl) (by kernel_rfl) (by kernel_rfl) (by kernel_rfl) (fun _ _ _ h => h) (by rfl) hS ?y192x5 ?r192x5
            case y192x5 => (intro u hSu; (try dsimp only at hSu); go_simp; try with_reducible rfl)
            simp only [Act.put, List.setIfInBounds_toArray, List.set_cons_zero, List.set_cons_succ]
            refine wpL_one (i := 47) (by kernel_rfl) rfl (fun K hK => ?_)
            rw [if_pos (by rfl)]
            go_simp
            refine hK.out _ _ (fun e => absurd rfl e) ?_
            clear hK K
            refine wpL_done (by kernel_rfl) ?_ _
            go_wp2
            go_ret
            exact ⟨rfl, HB9.out.trans (b4.out.mono HB9.out.size)⟩
end Go.Proofs.YtnkjhooeklodcaaGreatDoor
end
