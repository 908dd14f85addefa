/-
  RingPlays' own walk.
-/
import Derived.Test.YtkchdkcdkeajkaaRgTwo
namespace Go.Proofs.Ytkchdkcdkeajkaa
open Go.RowKit
theorem rNew_any2 (w : World) (n : Nat) (h1 : 1 ≤ n) (h2 : n ≤ 256) : Calls Try.prog 7 #[.int .i64 (n : Int)] w fun e w' => e = .returned (.tuple #[.pointer (some ⟨w.heap.size, 0, none⟩), .int .i64 0]) ∧ Rr w' w.heap.size (w.heap.size + 1) n [] ∧ Cw w' w.heap.size [.int .i64 (n : Int), .slice none 0 0] 48 ∧ Below w.heap.size w w' := by
  have hn1 : ¬ (n : Int) < 1 := by omega
  have hn2 : ¬ 256 < (n : Int) := by omega
  have HB := hid_into (built48 n)
  obtain ⟨cs, hcs⟩ : ∃ cs, cs = [Value.int .i64 (n : Int), .slice none 0 0] := ⟨_, rfl⟩
  rw [← hcs] at HB
  go_enter Try.func7, Try.ntmps7
  go_wp2_with (first
    | (refine wpList_build_row rfl 48 #[(0, .tmp 10)] rfl cs _ rfl ?_ ?_; exact HB.out)
    | (refine wpList_box_row rfl 48 (.tmp 11) rfl cs rfl ?_; intro W1 hc1 B1 HS1))
  go_ret2
  subst hcs
  exact ⟨rfl, ⟨⟨none, 0, hc1, ⟨rfl, Nat.le_refl _, by unfold maxLen; omega, fun i s hs => by simp at hs⟩, fun g off hg => by cases hg⟩, Nat.lt_succ_self _, by rw [HS1.out]; exact Nat.le_refl _⟩, hc1, B1⟩
theorem plays_no (x : Int) (v : Value) (w : World) (h : x < 1 ∨ 256 < x) : Calls Try.prog 3 #[.int .i64 x, v] w fun e w' => e = .returned (.bool true) ∧ Below w.heap.size w w' := by
  have CK := hid_into known_any
  have CN := hid_into (fun W => new_no W x h)
  have CR := hid_into (fun W => rNew_no W x h)
  clear h
  go_enter Try.func3, Try.ntmps3
  go_wp2_with (first
    | (go_at_call 6; refine (CN.out _).mono ?_; rintro e w1 ⟨rfl, h1⟩; replace h1 := h1.symm; subst h1)
    | (go_at_call 7; refine (CR.out _).mono ?_; rintro e w1 ⟨rfl, h1⟩; replace h1 := h1.symm; subst h1)
    | (go_at_call 8; refine (CK.out _).mono ?_; rintro e w1 ⟨rfl, b1⟩))
  go_ret
  exact ⟨rfl, b1⟩
set_option maxRecDepth 20000 in
set_option maxHeartbeats 16000000 in
theorem plays_go (n : Nat) (ao : Option Addr) (len cap : Nat) (l : List Sp) (w : World) (hr : Rs w ao len cap l) (hg : ∀ s ∈ l, Gs s) (hn1 : 1 ≤ n) (hn2 : n ≤ 256) : Calls Try.prog 3 #[.int .i64 (n : Int), .slice ao len cap] w fun e w' => e = .returned (.bool true) ∧ Below w.heap.size w w' := by
  have CK := hid_into known_any
  have CN : Hid (Calls Try.prog 6 #[.int .i64 (n : Int)] w fun e w' => e = .returned (.tuple #[.pointer (some ⟨w.heap.size + 1, 0, none⟩), .int .i64 0]) ∧ Rg w' (w.heap.size + 1) w.heap.size n 0 [] ∧ Below w.heap.size w w' ∧ w'.heap.size = w.heap.size + 2) := new_any w n hn1 hn2
  have CR : Hid (∀ w1, Rg w1 (w.heap.size + 1) w.heap.size n 0 [] → Below w.heap.size w w1 → w1.heap.size = w.heap.size + 2 → Calls Try.prog 7 #[.int .i64 (n : Int)] w1 fun e w' => e = .returned (.tuple #[.pointer (some ⟨w.heap.size + 2, 0, none⟩), .int .i64 0]) ∧ Pw w w' n 0 [] []) := fun w1 h1 h2 h3 => by
    have h := rNew_any2 w1 n hn1 hn2
    rw [h3] at h
    refine h.mono ?_
    rintro e w' ⟨rfl, h4, h5, h6⟩
    have h6' : Below w1.heap.size w1 w' := by rw [h3]; exact h6
    exact ⟨rfl, h1.below h6' (Nat.le_refl _), h4, fun _ => h5, h2.trans (h6'.mono h2.size)⟩
  have HRow : Hid (∀ i, i < len → ∃ s g off, Gs s ∧ ao = some ⟨g, off, none⟩ ∧ ∀ V, Below w.heap.size w V → V.rangeAt g (off + i * 20) (stV s)) := fun i hi => by
    have hl := hr.len
    have gi : l[i]? = some l[i] := List.getElem?_eq_getElem (by omega)
    obtain ⟨g, off, e, _⟩ := hr.at' i _ gi
    refine ⟨l[i], g, off, hg _ (List.mem_of_getElem? gi), e, fun V hV => ?_⟩
    obtain ⟨g2, off2, e2, h2⟩ := (hr.below hV (Nat.le_refl _)).at' i _ gi
    rw [e] at e2
    simp only [Option.some.injEq, Addr.mk.injEq, and_true] at e2
    obtain ⟨rfl, rfl⟩ := e2
    exact fun j u hu => h2 j u hu
  have HZ : Hid ((Try.prog.info? 35).bind (·.zero) = some (.agg zeroS.toArray)) := Try.zero35
  have ZS := zeroS_size
  have HNN : Hid (1 ≤ n ∧ n ≤ 256) := ⟨hn1, hn2⟩
  clear hr hg hn1 hn2
  go_enter Try.func3, Try.ntmps3
  go_wp2_with (first
    | (go_at_call 6; refine CN.out.mono ?_; rintro e w1 ⟨rfl, a1, a2, a3⟩)
    | (go_at_call 7; refine (CR.out _ a1 a2 a3).mono ?_; rintro e w2 ⟨rfl, h2⟩; have HS := hid_into h2; clear h2 a1 a2 a3))
  go_loopw [9] (fun x wr => ∃ (i : Nat) (a : Nat) (L : List Sp), i ≤ len ∧ x = .int .i64 (i : Int) ∧ Hid (Pw w wr n a L L)) (fun x _ => len - (intOf x).toNat)
  case atStart => exact ⟨0, 0, [], Nat.zero_le _, rfl, HS⟩
  case round =>
    obtain ⟨i, a, L, hi, rfl, HPw⟩ := hrel
    clear HS CN CR
    by_cases hlt : i < len
    · have hlt' : (i : Int) < (len : Int) := by omega
      by_cases h300 : i < 300
      · have h300' : (i : Int) < 300 := by omega
        obtain ⟨s, g, off, hgs, rfl, hrow⟩ := HRow.out i hlt
        have HSs := hid_into hrow
        have hk := HPw.out.rg.k
        have hk2 := hk.put HNN.out.1 hgs
        have HPut : Hid (∀ V, Pw w V n a L L → Calls Try.prog 9 #[.pointer (some ⟨w.heap.size + 1, 0, none⟩), .agg (stV s).toArray] V fun e w' => e = .returned (.int .i64 (putE a L s)) ∧ Pw w w' n (putA n a L s) (putL n a L s) L) := fun V hV => hV.put s hgs
        have HRput : Hid (∀ V, Pw w V n (putA n a L s) (putL n a L s) L → Calls Try.prog 10 #[.pointer (some ⟨w.heap.size + 2, 0, none⟩), .agg (stV s).toArray] V fun e w' => e = .returned (.int .i64 (putE a L s)) ∧ Pw w w' n (putA n a L s) (putL n a L s) (putL n a L s)) := fun V hV => hV.rput hk hgs
        have HN := st_size hgs.1
        have hi0 : (0 : Int) ≤ (i : Int) := by omega
        generalize stV s = cs at *
        generalize putE a L s = er at *
        generalize putA n a L s = A at *
        generalize putL n a L s = M at *
        clear hrow hk HRow hgs CK
        have hi1 : IntKind.i64.wrap ((i : Int) + 1) = ((i + 1 : Nat) : Int) := by simp [IntKind.wrap, IntKind.bits, IntKind.signed]; omega
        go_upto_region 10 with fail
        go_cut [68] (fun tb wx => tb = .bool false ∧ Hid (Pw w wx n A M M))
        case first =>
          have S1 := HSs.out wr.drew HPw.out.b.drew
          refine wp_region_held (S := fun V => V.rangeAt g (off + i * 20) cs) (by kernel_rfl) ?_
          change wpAnyH _ _ _ _ _ _ _ _ (World.drew _)
          refine wpAnyH_take (i := 0) (v := .pointer (some ⟨w.heap.size + 1, 0, none⟩)) rfl (by kernel_rfl) (by kernel_rfl) (by kernel_rfl) (fun _ _ _ h => h) (Or.inl ⟨by kernel_rfl, by intro V _; go_simp⟩) S1 ?_
          refine wpAnyH_take (i := 1) (v := .slice (some ⟨g, off, none⟩) len cap) rfl (by kernel_rfl) (by kernel_rfl) (by kernel_rfl) (fun _ _ _ h => h) (Or.inl ⟨by kernel_rfl, by intro V _; go_simp⟩) S1 ?_
          refine wpAnyH_take (i := 2) (v := .int .i64 (i : Int)) rfl (by kernel_rfl) (by kernel_rfl) (by kernel_rfl) (fun _ _ _ h => h) (Or.inl ⟨by kernel_rfl, by intro V _; go_simp⟩) S1 ?_
          refine wpAnyH_take (i := 3) (v := .pointer (some ⟨g, off + i * 20, none⟩)) rfl (by kernel_rfl) (by kernel_rfl) (by kernel_rfl) (fun _ _ _ h => h) (Or.inl ⟨by kernel_rfl, by intro V _; go_simp⟩) S1 ?_
          refine wpAnyH_take (i := 4) (v := .agg cs.toArray) rfl (by kernel_rfl) (by kernel_rfl) (by kernel_rfl) (fun _ _ _ h => h) (yieldsIf_load_mid (by kernel_rfl) 35 (.tmp 59) rfl g (off + i * 20) (by kernel_rfl) cs _ (fun V h => h) Try.underlying35 rfl HN.out) S1 ?_
          refine wpAnyH_take (i := 6) (v := .pointer (some ⟨w.heap.size + 2, 0, none⟩)) rfl (by kernel_rfl) (by kernel_rfl) (by kernel_rfl) (fun _ _ _ h => h) (Or.inl ⟨by kernel_rfl, by intro V _; go_simp⟩) S1 ?_
          refine wpAnyH_take (i := 7) (v := .slice (some ⟨g, off, none⟩) len cap) rfl (by kernel_rfl) (by kernel_rfl) (by kernel_rfl) (fun _ _ _ h => h) (Or.inl ⟨by kernel_rfl, by intro V _; go_simp⟩) S1 ?_
          refine wpAnyH_take (i := 8) (v := .int .i64 (i : Int)) rfl (by kernel_rfl) (by kernel_rfl) (by kernel_rfl) (fun _ _ _ h => h) (Or.inl ⟨by kernel_rfl, by intro V _; go_simp⟩) S1 ?_
          refine wpAnyH_take (i := 9) (v := .pointer (some ⟨g, off + i * 20, none⟩)) rfl (by kernel_rfl) (by kernel_rfl) (by kernel_rfl) (fun _ _ _ h => h) (Or.inl ⟨by kernel_rfl, by intro V _; go_simp⟩) S1 ?_
          refine wpAnyH_take (i := 10) (v := .agg cs.toArray) rfl (by kernel_rfl) (by kernel_rfl) (by kernel_rfl) (fun _ _ _ h => h) (yieldsIf_load_mid (by kernel_rfl) 35 (.tmp 65) rfl g (off + i * 20) (by kernel_rfl) cs _ (fun V h => h) Try.underlying35 rfl HN.out) S1 ?_
          refine wpAnyH_ready (rs := [5]) (by kernel_rfl) (by simp) ?_
          simp only [List.getElem_toArray, List.getElem_cons_zero, List.getElem_cons_succ, Act.put, List.setIfInBounds_toArray, List.set_cons_zero, List.set_cons_succ]
          refine AllReadyH.cons rfl (fun KK hK => ?_) AllReadyH.nil
          go_simp
          refine (HPut.out wr.drew (HPw.out.sm (Sm.drewN wr 1))).mono ?_
          rintro e w5 ⟨rfl, h5⟩
          have S5 := HSs.out w5 h5.b
          dsimp only
          refine hK.out _ _ (by exact S5) (fun _ => ?_)
          clear hK KK
          refine wpAnyH_ready (rs := [11]) (by kernel_rfl) (by simp) ?_
          refine AllReadyH.cons rfl (fun KK hK => ?_) AllReadyH.nil
          go_simp
          refine (HRput.out w5 h5).mono ?_
          rintro e w6 ⟨rfl, h6⟩
          have S6 := HSs.out w6 h6.b
          dsimp only
          refine hK.out _ _ (by exact S6) (fun _ => ?_)
          clear hK KK
          refine wpAnyH_take (i := 12) (v := .bool false) rfl (by kernel_rfl) (by kernel_rfl) (by kernel_rfl) (fun _ _ _ h => h) (Or.inl ⟨by kernel_rfl, by intro V _; go_simp⟩) S6 ?_
          simp only [List.getElem_toArray, List.getElem_cons_zero, List.getElem_cons_succ, Act.put, List.setIfInBounds_toArray, List.set_cons_zero, List.set_cons_succ]
          refine wpAnyH_done (by kernel_rfl) ?_ _
          go_wp2_with fail
          go_meet
          exact ⟨rfl, h6⟩
        case rest =>
        rename World => W9
        obtain ⟨rfl, HP9⟩ := hcut
        clear HPut HRput HSs HPw HN
        have HK2 := hid_into hk2
        obtain ⟨x, hx⟩ : ∃ x, x = lstF A M := ⟨_, rfl⟩
        obtain ⟨y, hy⟩ : ∃ y, y = gstF A M := ⟨_, rfl⟩
        have HE : Hid (-1 ≤ x ∧ x ≤ 601 ∧ x ≤ y ∧ y ≤ 601 ∧ y - x < (n : Int)) := by rw [hx, hy]; exact ends_of hk2 HNN.out.1
        have HF1 : Hid (∀ V, Pw w V n A M M → Calls Try.prog 11 #[.pointer (some ⟨w.heap.size + 1, 0, none⟩)] V fun e w' => e = .returned (.tuple #[.int .i64 x, .int .i64 y]) ∧ Sm V w') := fun V hV => by rw [hx, hy]; exact frames_any hV.rg
        have HF2 : Hid (∀ V, Pw w V n A M M → Calls Try.prog 12 #[.pointer (some ⟨w.heap.size + 2, 0, none⟩)] V fun e w' => e = .returned (.tuple #[.int .i64 x, .int .i64 y]) ∧ Sm V w') := fun V hV => by rw [hx, hy]; exact rFrames_any hV.rr HK2.out
        have HW1 : Hid (∀ V, Pw w V n A M M → Calls Try.prog 13 #[.pointer (some ⟨w.heap.size + 1, 0, none⟩)] V fun e w' => e = .returned (.tuple #[.agg (stV (gtS A M y)).toArray, .bool (gtB A M y)]) ∧ Below V.heap.size V w') := fun V hV => by rw [hy]; exact newest_any hV.rg
        have HW2 : Hid (∀ V, Pw w V n A M M → Calls Try.prog 14 #[.pointer (some ⟨w.heap.size + 2, 0, none⟩)] V fun e w' => e = .returned (.tuple #[.agg (stV (gtS A M y)).toArray, .bool (gtB A M y)]) ∧ Below V.heap.size V w') := fun V hV => by rw [hy]; exact rNewest_any hV.rr HK2.out
        have HG1 : Hid (∀ V z, Pw w V n A M M → Calls Try.prog 15 #[.pointer (some ⟨w.heap.size + 1, 0, none⟩), .int .i64 z] V fun e w' => e = .returned (.tuple #[.agg (stV (gtS A M z)).toArray, .bool (gtB A M z)]) ∧ Below V.heap.size V w') := fun V z hV => get_any hV.rg z
        have HG2 : Hid (∀ V z, Pw w V n A M M → Calls Try.prog 16 #[.pointer (some ⟨w.heap.size + 2, 0, none⟩), .int .i64 z] V fun e w' => e = .returned (.tuple #[.agg (stV (gtS A M z)).toArray, .bool (gtB A M z)]) ∧ Below V.heap.size V w') := fun V z hV => rGet_any hV.rr HK2.out z
        have HWf : Hid (∀ z, (gtS A M z).Wf) := fun z => gt_wf HK2.out z
        have HNy := st_size (HWf.out y)
        have HLy := st_len (HWf.out y)
        have HOy := st_one (HWf.out y)
        have HEq : Hid (∀ V : World, (Op.equalIn 10000 35 (.agg (stV (gtS A M y)).toArray) (.agg (stV (gtS A M y)).toArray)).run Try.prog V = .ok true V) := fun V => by have := run_eqS _ _ (HWf.out y) (HWf.out y) V; rw [eqS_same] at this; exact this
        obtain ⟨cy, hcy⟩ : ∃ cy, cy = stV (gtS A M y) := ⟨_, rfl⟩
        obtain ⟨qy, hqy⟩ : ∃ qy, qy = gtB A M y := ⟨_, rfl⟩
        rw [← hcy, ← hqy] at HW1 HW2
        rw [← hcy] at HNy HLy HOy HEq
        obtain ⟨d, hd⟩ : ∃ d : Int, d = y - x := ⟨_, rfl⟩
        have q1 : IntKind.i64.wrap (y - x) = d := by have := HE.out; rw [hd]; simp [IntKind.wrap, IntKind.bits, IntKind.signed]; omega
        have q2 : ¬ (n : Int) ≤ d := by have := HE.out; omega
        obtain ⟨x1, hx1⟩ : ∃ x1 : Int, x1 = x - 1 := ⟨_, rfl⟩
        have q3 : IntKind.i64.wrap (x - 1) = x1 := by have := HE.out; rw [hx1]; simp [IntKind.wrap, IntKind.bits, IntKind.signed]; omega
        obtain ⟨y1, hy1⟩ : ∃ y1 : Int, y1 = y + 1 := ⟨_, rfl⟩
        have q4 : IntKind.i64.wrap (y + 1) = y1 := by have := HE.out; rw [hy1]; simp [IntKind.wrap, IntKind.bits, IntKind.signed]; omega
        obtain ⟨x3, hx3⟩ : ∃ x3 : Int, x3 = x + 300 := ⟨_, rfl⟩
        have q5 : IntKind.i64.wrap (x + 300) = x3 := by have := HE.out; rw [hx3]; simp [IntKind.wrap, IntKind.bits, IntKind.signed]; omega
        have HX1 : Hid (x1 = x - 1 ∧ y1 = y + 1) := ⟨hx1, hy1⟩
        clear hx hy hcy hqy hd hx1 hy1 hx3 hk2 HK2
        have tok1 : True := trivial
        have tok2 : True := trivial
        go_wp2_with (go_big_may; first
          | (go_at_call 11; refine (HF1.out _ HP9.out).mono ?_; rintro e wa ⟨rfl, ha⟩; have Ha := hid_into (HP9.out.sm ha); clear ha)
          | (go_at_call 12; refine (HF2.out _ Ha.out).mono ?_; rintro e wb ⟨rfl, hb⟩; have Hb := hid_into (Ha.out.sm hb); clear hb)
          | (go_at_call 13; refine (HW1.out _ Hb.out).mono ?_; rintro e wc ⟨rfl, hc⟩; have Hc := hid_into (Hb.out.next hc); clear hc)
          | (have _k := tok1; refine wpList_alloc_row rfl 35 rfl zeroS HZ.out ?_; intro W1 hc1 B1 HS1; clear tok1)
          | (refine wpList_store_rw rfl 35 (.tmp 14) (.tmp 82) rfl wc.heap.size zeroS cy 35 rfl rfl ?_ ZS HLy HOy.out ?_; exact hc1; intro W2 hc2 O2; have Hd := hid_into (Hc.out.next (B1.trans (O2.below (Nat.le_refl _)))); clear B1 O2 hc1)
          | (go_at_call 14; refine (HW2.out _ Hd.out).mono ?_; rintro e wd ⟨rfl, he⟩; have He := hid_into (Hd.out.next he); have hc3 := hc2.below he hc2.lt; clear he hc2)
          | (have _k := tok2; refine wpList_alloc_row rfl 35 rfl zeroS HZ.out ?_; intro W4 hx4 B4 HS4; have hc4 := hc3.below B4 hc3.lt; have hn4 := hid_into (Nat.ne_of_lt hc3.lt); clear tok2 hc3)
          | (refine wpList_store_rw rfl 35 (.tmp 16) (.tmp 87) rfl wd.heap.size zeroS cy 35 rfl rfl ?_ ZS HLy HOy.out ?_; exact hx4; intro W5 hx5 O5; have Hf := hid_into (He.out.next (B4.trans (O5.below (Nat.le_refl _)))); have hc5 := O5.cw hc4 hn4.out; clear B4 O5 hx4 hc4)
          | (refine wpList_load_rwG (by kernel_rfl) 35 (.tmp 14) rfl wc.heap.size cy 35 _ rfl ?_ Try.underlying35 rfl HNy ?_; exact hc5)
          | (refine wpList_load_rwG (by kernel_rfl) 35 (.tmp 16) rfl wd.heap.size cy 35 _ rfl ?_ Try.underlying35 rfl HNy ?_; exact hx5)
          | (refine wpList_neq28 (by kernel_rfl) (.tmp 98) (.tmp 99) rfl cy cy true HEq rfl rfl ?_))
        go_loopw [18] (fun v wr => ∃ z : Int, v = .int .i64 z ∧ x - 1 ≤ z ∧ z ≤ y + 2 ∧ Hid (Pw w wr n A M M)) (fun v _ => (y + 2 - intOf v).toNat)
        case atStart => exact ⟨x1, rfl, by have := HX1.out; omega, by have := HX1.out; have := HE.out; omega, Hf⟩
        case round =>
          obtain ⟨z, rfl, hz1, hz2, HPz⟩ := hrel
          clear Hf He Hd Hc Hb Ha HP9 HF1 HF2 HW1 HW2 HEq HNy HLy HOy
          by_cases k1 : z ≤ y1
          · by_cases k2 : z ≤ x3
            · have HNz := st_size (HWf.out z)
              have HLz := st_len (HWf.out z)
              have HOz := st_one (HWf.out z)
              have HEz : Hid (∀ V : World, (Op.equalIn 10000 35 (.agg (stV (gtS A M z)).toArray) (.agg (stV (gtS A M z)).toArray)).run Try.prog V = .ok true V) := fun V => by have := run_eqS _ _ (HWf.out z) (HWf.out z) V; rw [eqS_same] at this; exact this
              have HA : Hid (∀ V, Pw w V n A M M → Calls Try.prog 15 #[.pointer (some ⟨w.heap.size + 1, 0, none⟩), .int .i64 z] V fun e w' => e = .returned (.tuple #[.agg (stV (gtS A M z)).toArray, .bool (gtB A M z)]) ∧ Below V.heap.size V w') := fun V hV => HG1.out V z hV
              have HB : Hid (∀ V, Pw w V n A M M → Calls Try.prog 16 #[.pointer (some ⟨w.heap.size + 2, 0, none⟩), .int .i64 z] V fun e w' => e = .returned (.tuple #[.agg (stV (gtS A M z)).toArray, .bool (gtB A M z)]) ∧ Below V.heap.size V w') := fun V hV => HG2.out V z hV
              generalize stV (gtS A M z) = cz at *
              generalize gtB A M z = qz at *
              obtain ⟨z1, hzz⟩ : ∃ z1 : Int, z1 = z + 1 := ⟨_, rfl⟩
              have q6 : IntKind.i64.wrap (z + 1) = z1 := by have := HE.out; rw [hzz]; simp [IntKind.wrap, IntKind.bits, IntKind.signed]; omega
              have HZ1 := hid_into hzz
              clear hzz HG1 HG2 HWf
              have tok1 : True := trivial
              have tok2 : True := trivial
              go_wp2_with (go_big_may; first
                | (go_at_call 15; refine (HA.out _ HPz.out).mono ?_; rintro e wc ⟨rfl, hc⟩; have Hc := hid_into (HPz.out.next hc); clear hc)
                | (have _k := tok1; refine wpList_alloc_row rfl 35 rfl zeroS HZ.out ?_; intro W1 hc1 B1 HS1; clear tok1)
                | (refine wpList_store_rw rfl 35 (.tmp 19) (.tmp 132) rfl wc.heap.size zeroS cz 35 rfl rfl ?_ ZS HLz HOz.out ?_; exact hc1; intro W2 hc2 O2; have Hd := hid_into (Hc.out.next (B1.trans (O2.below (Nat.le_refl _)))); clear B1 O2 hc1)
                | (go_at_call 16; refine (HB.out _ Hd.out).mono ?_; rintro e wd ⟨rfl, he⟩; have He := hid_into (Hd.out.next he); have hc3 := hc2.below he hc2.lt; clear he hc2)
                | (have _k := tok2; refine wpList_alloc_row rfl 35 rfl zeroS HZ.out ?_; intro W4 hx4 B4 HS4; have hc4 := hc3.below B4 hc3.lt; have hn4 := hid_into (Nat.ne_of_lt hc3.lt); clear tok2 hc3)
                | (refine wpList_store_rw rfl 35 (.tmp 21) (.tmp 138) rfl wd.heap.size zeroS cz 35 rfl rfl ?_ ZS HLz HOz.out ?_; exact hx4; intro W5 hx5 O5; have Hf := hid_into (He.out.next (B4.trans (O5.below (Nat.le_refl _)))); have hc5 := O5.cw hc4 hn4.out; clear B4 O5 hx4 hc4)
                | (refine wpList_load_rwG (by kernel_rfl) 35 (.tmp 19) rfl wc.heap.size cz 35 _ rfl ?_ Try.underlying35 rfl HNz ?_; exact hc5)
                | (refine wpList_load_rwG (by kernel_rfl) 35 (.tmp 21) rfl wd.heap.size cz 35 _ rfl ?_ Try.underlying35 rfl HNz ?_; exact hx5)
                | (refine wpList_neq28 (by kernel_rfl) (.tmp 140) (.tmp 141) rfl cz cz true HEz rfl rfl ?_))
              go_roundw
              case rel => exact ⟨z1, rfl, by have := HZ1.out; omega, by have := HZ1.out; have := HX1.out; omega, Hf⟩
              case measure => have := HZ1.out; have := HX1.out; simp [intOf]; omega
            · go_wp2_with fail
              go_roundw
              case rel => exact ⟨i + 1, A, M, by omega, by simp, HPz⟩
              case measure => simp [intOf]; omega
          · go_wp2_with fail
            go_roundw
            case rel => exact ⟨i + 1, A, M, by omega, by simp, HPz⟩
            case measure => simp [intOf]; omega
      · have h300' : ¬ (i : Int) < 300 := by omega
        go_wp2_with (go_at_call 8; refine (CK.out _).mono ?_; rintro e wb ⟨rfl, hb⟩)
        go_ret
        exact ⟨rfl, HPw.out.b.trans (hb.mono HPw.out.b.size)⟩
    · have hlt' : ¬ (i : Int) < (len : Int) := by omega
      go_wp2_with (go_at_call 8; refine (CK.out _).mono ?_; rintro e wb ⟨rfl, hb⟩)
      go_ret
      exact ⟨rfl, HPw.out.b.trans (hb.mono HPw.out.b.size)⟩
theorem plays_walk (x : Int) (ao : Option Addr) (len cap : Nat) (l : List Sp) (w : World) (hr : Rs w ao len cap l) (hg : ∀ s ∈ l, Gs s) : Calls Try.prog 3 #[.int .i64 x, .slice ao len cap] w fun e w' => e = .returned (.bool true) ∧ Below w.heap.size w w' := by
  by_cases h : x < 1 ∨ 256 < x
  · exact plays_no x _ w h
  · have := plays_go x.toNat ao len cap l w hr hg (by omega) (by omega)
    rw [show ((x.toNat : Nat) : Int) = x by omega] at this
    exact this
end Go.Proofs.Ytkchdkcdkeajkaa
