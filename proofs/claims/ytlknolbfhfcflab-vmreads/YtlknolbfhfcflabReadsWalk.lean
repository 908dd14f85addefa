/-
  VmReads' walk: what players do, the frame, and each cell come to where they are stored.
-/
import Derived.Test.YtlknolbfhfcflabKnown
import Derived.Test.YtlknolbfhfcflabPlain2
import Derived.Test.YtlknolbfhfcflabStEq
namespace Go.Proofs.Ytlknolbfhfcflab
open Go.RowKit
theorem sets3 {cs : List Int} (h : cs.length = 16) (x y v : Int) (c : Nat) (h2 : 2 ≤ c) (h16 : c < 16) : (((cs.set 0 x).set 1 y).set c v).getD 0 0 = x ∧ (((cs.set 0 x).set 1 y).set c v).getD 1 0 = y ∧ (((cs.set 0 x).set 1 y).set c v).getD c 0 = v := by
  refine ⟨?_, ?_, ?_⟩
  · rw [List.getD, List.getElem?_set_ne (by omega), List.getElem?_set_ne (by omega), List.getElem?_set_self (by omega)]; rfl
  · rw [List.getD, List.getElem?_set_ne (by omega), List.getElem?_set_self (by simp; omega)]; rfl
  · rw [List.getD, List.getElem?_set_self (by simp; omega)]; rfl
set_option maxRecDepth 20000 in
set_option maxHeartbeats 4000000 in
theorem reads_walk (x y c0 n0 : Int) (hx : 0 ≤ x ∧ x < 65536) (hy : 0 ≤ y ∧ y < 65536) (w : World) : Calls Try.prog 7 #[.agg #[.int .u16 x, .int .u16 y], .int .i64 c0, .int .i64 n0] w fun e w' => e = .returned (.bool true) ∧ Below w.heap.size w w' := by
  have BI : Hid (Below w.heap.size w (w.alloc (.cells #[.int .u16 x, .int .u16 y] 38))) := (Below.refl _ _).alloc (Nat.le_refl _) _
  have x1 := hx.1
  have x2 := hx.2
  have y1 := hy.1
  have y2 := hy.2
  by_cases a1 : c0 < 2
  · go_enter Try.func7, Try.ntmps7
    go_wp2_with (go_at_call 9; refine (known_any _).mono ?_; rintro e w1 ⟨rfl, B1⟩)
    go_ret
    exact ⟨rfl, BI.out.trans (B1.mono BI.out.size)⟩
  by_cases a2 : 16 ≤ c0
  · go_enter Try.func7, Try.ntmps7
    go_wp2_with (go_at_call 9; refine (known_any _).mono ?_; rintro e w1 ⟨rfl, B1⟩)
    go_ret
    exact ⟨rfl, BI.out.trans (B1.mono BI.out.size)⟩
  by_cases a3 : n0 < 1
  · go_enter Try.func7, Try.ntmps7
    go_wp2_with (go_at_call 9; refine (known_any _).mono ?_; rintro e w1 ⟨rfl, B1⟩)
    go_ret
    exact ⟨rfl, BI.out.trans (B1.mono BI.out.size)⟩
  by_cases a4 : 30 < n0
  · go_enter Try.func7, Try.ntmps7
    go_wp2_with (go_at_call 9; refine (known_any _).mono ?_; rintro e w1 ⟨rfl, B1⟩)
    go_ret
    exact ⟨rfl, BI.out.trans (B1.mono BI.out.size)⟩
  obtain ⟨n, rfl⟩ := Int.eq_ofNat_of_zero_le (show 0 ≤ n0 by omega)
  obtain ⟨c, rfl⟩ := Int.eq_ofNat_of_zero_le (show 0 ≤ c0 by omega)
  have HZ : Hid ((Try.prog.info? 31).bind (·.zero) = some (.agg zeroS.toArray)) := Try.zero31
  have ZS := zeroS_size
  have HWf : Hid (∀ (i : Int) (cs : List Int), cs.length = 16 ∧ (∀ z ∈ cs, In32 z) → (⟨i, cs, 1, false, 0⟩ : Sp).Wf) := fun i cs h => ⟨h.1, h.2, by show (0 : Int) ≤ 1 ∧ (1 : Int) < 4294967296; omega⟩
  have HZr : Hid (zeros.length = 16 ∧ ∀ z ∈ zeros, In32 z) := ⟨rfl, (startS_wf 1 (by omega)).cin⟩
  have HK : Hid (Kn (w.alloc (.cells #[.int .u16 x, .int .u16 y] 38)) (((w.alloc (.cells #[.int .u16 x, .int .u16 y] 38)).alloc (.cells #[.int .i64 16, .int .i64 0, .int .i64 3, .int .i64 0, .int .i64 16, .int .i64 1, .int .i64 3, .int .i64 1, .int .i64 17, .int .i64 0, .int .i64 3, .int .i64 (c : Int)] 24)).alloc (.cells #[.slice (some ⟨w.heap.size + 1, 0, none⟩) 6 6, .int .i64 100, .int .i64 20] 27)) (w.heap.size + 3) (w.heap.size + 2) (.slice (some ⟨w.heap.size + 1, 0, none⟩) 6 6) 100 20 (dcode c)) := by
    have h := Kn.make (w.alloc (.cells #[.int .u16 x, .int .u16 y] 38)) (dcode c) 100 20 (by show 6 ≤ 1000; omega)
    rw [World.size_alloc] at h
    exact h
  have ST : ∀ W, Calls Try.prog 10 #[.int .u32 1] W fun e w' => e = .returned (.agg (stV ⟨0, zeros, 1, false, 0⟩).toArray) ∧ Below W.heap.size W w' := fun W => Start_any 1 W
  have HI : Hid (∀ W, Kn (w.alloc (.cells #[.int .u16 x, .int .u16 y] 38)) W (w.heap.size + 3) (w.heap.size + 2) (.slice (some ⟨w.heap.size + 1, 0, none⟩) 6 6) 100 20 (dcode c) → Cw W w.heap.size [.int .u16 x, .int .u16 y] 38) := fun W h => (Cw.new w [.int .u16 x, .int .u16 y] 38).below h.below (by rw [World.size_alloc]; omega)
  have hx3 : In32 x := ⟨by omega, by omega⟩
  have hy3 : In32 y := ⟨by omega, by omega⟩
  have HXY := hid_into (And.intro hx3 hy3)
  clear hx3 hy3 hx hy
  go_enter Try.func7, Try.ntmps7
  go_wp2_with (first
    | (go_at_call 10; refine (ST _).mono ?_; rintro e wa ⟨rfl, Ba⟩; have HA := hid_into (HK.out.next Ba); clear Ba)
    | (refine wpList_alloc_row rfl 31 rfl zeroS HZ.out ?_; intro W5 hr5 B5 _; have hz5 := hid_into HA.out.size; replace HA := hid_into (HA.out.next B5))
    | (refine wpList_store_rw rfl 31 (.tmp 8) (.tmp 36) rfl wa.heap.size zeroS (stV ⟨0, zeros, 1, false, 0⟩) 31 rfl rfl ?_ ZS (st_len (HWf.out 0 zeros HZr.out)) (st_one (HWf.out 0 zeros HZr.out)).out ?_; exact hr5; intro W6 hr6 O6; replace HA := hid_into (HA.out.only O6 hz5.out); have hr7 := hid_into hr6; clear hr6 O6 hr5 B5))
  go_loopw [9] (fun iv wr => ∃ (k : Nat) (cs : List Int), k ≤ n ∧ iv = .int .i64 (k : Int) ∧ Hid (cs.length = 16 ∧ ∀ z ∈ cs, In32 z) ∧ Hid (Kn (w.alloc (.cells #[.int .u16 x, .int .u16 y] 38)) wr (w.heap.size + 3) (w.heap.size + 2) (.slice (some ⟨w.heap.size + 1, 0, none⟩) 6 6) 100 20 (dcode c)) ∧ Hid (Cw wr wa.heap.size (stV ⟨(k : Int), cs, 1, false, 0⟩) 31)) (fun iv _ => n - (intOf iv).toNat)
  case atStart => exact ⟨0, zeros, Nat.zero_le _, rfl, HZr.out, HA.out, hr7.out⟩
  case round =>
    clear HA hr7
    obtain ⟨k, cs, hk, rfl, HX, HA, hr7⟩ := hrel
    by_cases hlt : k < n
    · have g0 := HA.out.s.1
      have g1 := HA.out.s.2.1
      have g2 := HA.out.s.2.2
      have i0 := ((HI.out _ HA.out).cell 0).trans rfl
      have i1 := ((HI.out _ HA.out).cell 1).trans rfl
      have wk := HWf.out k cs HX.out
      have hl1 : (((cs.set 0 x).set 1 y).set c (k : Int)).length = 16 ∧ ∀ z ∈ (((cs.set 0 x).set 1 y).set c (k : Int)), In32 z := ⟨by simpa using HX.out.1, set_in (set_in (set_in HX.out.2 0 HXY.out.1) 1 HXY.out.2) c ⟨by omega, by omega⟩⟩
      have HX1 := hid_into hl1
      have wk1 := HWf.out (k + 1) (((cs.set 0 x).set 1 y).set c (k : Int)) hl1
      have Zk := st_size wk
      have SPk : Hid (∀ W, Kn (w.alloc (.cells #[.int .u16 x, .int .u16 y] 38)) W (w.heap.size + 3) (w.heap.size + 2) (.slice (some ⟨w.heap.size + 1, 0, none⟩) 6 6) 100 20 (dcode c) → Calls Try.prog 11 #[.agg #[(.slice (some ⟨w.heap.size + 1, 0, none⟩) 6 6), .int .i64 100, .int .i64 20], .agg (stV ⟨(k : Int), cs, 1, false, 0⟩).toArray, .agg #[.int .u16 x, .int .u16 y]] W fun r w' => r = .returned (.tuple #[.agg (stV ⟨((k : Int) + 1), (((cs.set 0 x).set 1 y).set c (k : Int)), 1, false, 0⟩).toArray, .int .i64 0]) ∧ Below W.heap.size W w') := fun W h => h.step _ _ _ _ _ wk ⟨x1, x2⟩ ⟨y1, y2⟩ (by have := reads_step k cs c x y ⟨by omega, by omega⟩ ⟨by omega, by omega⟩; simpa using this)
      have Z1 := st_size wk1
      have L1 := st_len wk1
      have O1 := st_one wk1
      have LL : Hid ((stV ⟨(k : Int), cs, 1, false, 0⟩).length = (stV ⟨((k : Int) + 1), (((cs.set 0 x).set 1 y).set c (k : Int)), 1, false, 0⟩).length) := by rw [(stV_c wk).len, (stV_c wk1).len]; exact hid_into rfl
      have C1 := stV_c wk1
      have Q1 : Hid ((stV ⟨((k : Int) + 1), (((cs.set 0 x).set 1 y).set c (k : Int)), 1, false, 0⟩)[1]? = some (.int .i32 x)) := by
        have h := C1.cell 0 (by omega)
        rw [show (⟨((k : Int) + 1), (((cs.set 0 x).set 1 y).set c (k : Int)), 1, false, 0⟩ : Sp).cells.getD 0 0 = x from (sets3 HX.out.1 x y k c (by omega) (by omega)).1] at h
        exact h
      have Q2 : Hid ((stV ⟨((k : Int) + 1), (((cs.set 0 x).set 1 y).set c (k : Int)), 1, false, 0⟩)[2]? = some (.int .i32 y)) := by
        have h := C1.cell 1 (by omega)
        rw [show (⟨((k : Int) + 1), (((cs.set 0 x).set 1 y).set c (k : Int)), 1, false, 0⟩ : Sp).cells.getD 1 0 = y from (sets3 HX.out.1 x y k c (by omega) (by omega)).2.1] at h
        exact h
      have Q3 : Hid ((stV ⟨((k : Int) + 1), (((cs.set 0 x).set 1 y).set c (k : Int)), 1, false, 0⟩)[1 + c]? = some (.int .i32 (k : Int))) := by
        have h := C1.cell c (by omega)
        rw [show (⟨((k : Int) + 1), (((cs.set 0 x).set 1 y).set c (k : Int)), 1, false, 0⟩ : Sp).cells.getD c 0 = (k : Int) from (sets3 HX.out.1 x y k c (by omega) (by omega)).2.2] at h
        exact h
      have HS1 : Hid (stV ⟨((k + 1 : Nat) : Int), (((cs.set 0 x).set 1 y).set c (k : Int)), 1, false, 0⟩ = stV ⟨((k : Int) + 1), (((cs.set 0 x).set 1 y).set c (k : Int)), 1, false, 0⟩) := hid_into rfl
      have cc : (c : Int) < 16 := by omega
      have cn : c < 16 := by omega
      have e3 : wrap32 (k : Int) = (k : Int) := by unfold wrap32; omega
      clear C1 wk wk1 hl1
      generalize hs1 : stV ⟨((k : Int) + 1), (((cs.set 0 x).set 1 y).set c (k : Int)), 1, false, 0⟩ = s1 at SPk Z1 L1 O1 LL Q1 Q2 Q3 HS1
      clear hs1
      generalize hsk : stV ⟨(k : Int), cs, 1, false, 0⟩ = sk at SPk Zk LL hr7
      clear hsk
      go_wp2_with (first
        | (refine wpList_load_rw rfl 31 (.tmp 8) rfl wa.heap.size sk 31 _ rfl ?_ Try.underlying31 rfl Zk ?_; exact hr7.out)
        | (go_at_call 11; refine (SPk.out _ HA.out).mono ?_; rintro e wb ⟨rfl, Bb⟩; replace HA := hid_into (HA.out.next Bb); replace hr7 := hid_into (hr7.out.below Bb hr7.out.lt); clear Bb)
        | (refine wpList_alloc_row rfl 31 rfl zeroS HZ.out ?_; intro W8 hr8 B8 _; have hz8 := hid_into HA.out.size; have hlt8 := hid_into hr7.out.lt; replace HA := hid_into (HA.out.next B8); replace hr7 := hid_into (hr7.out.below B8 hr7.out.lt))
        | (refine wpList_store_rw rfl 31 (.tmp 10) (.tmp 47) rfl wb.heap.size zeroS s1 31 rfl rfl ?_ ZS L1 O1.out ?_; exact hr8; intro W9 hr9 O9; replace HA := hid_into (HA.out.only O9 hz8.out); replace hr7 := hid_into (O9.cw hr7.out (by have := hlt8.out; omega)); have q1 := (hr9.cell 1).trans Q1.out; have q2 := (hr9.cell 2).trans Q2.out; have q3 := (hr9.cell (1 + c)).trans Q3.out; have j0 := ((HI.out _ HA.out).cell 0).trans rfl; have j1 := ((HI.out _ HA.out).cell 1).trans rfl; have hr9' := hid_into hr9; clear hr9 O9 B8 hr8)
        | (refine wpList_load_rw rfl 31 (.tmp 10) rfl wb.heap.size s1 31 _ rfl ?_ Try.underlying31 rfl Z1 ?_; exact hr9'.out)
        | (refine wpList_store_rw rfl 31 (.tmp 8) (.tmp 78) rfl wa.heap.size sk s1 31 rfl rfl ?_ Zk LL O1.out ?_; exact hr7.out; intro W10 hr10 O10; replace HA := hid_into (HA.out.only O10 hz5.out); have hr11 := hid_into hr10; clear hr10 O10))
      go_roundw
      case rel => exact ⟨k + 1, (((cs.set 0 x).set 1 y).set c (k : Int)), by omega, by go_num, HX1.out, HA.out, hid_into (HS1.out ▸ hr11.out)⟩
      case measure => simp [intOf]; omega
    · obtain rfl : k = n := by omega
      have C1 := stV_c (HWf.out k cs HX.out)
      have q0 := (hr7.out.cell 0).trans C1.frame
      simp only at q0
      clear C1
      go_wp2_with (go_at_call 9; refine (known_any _).mono ?_; rintro e wk ⟨rfl, Bk⟩; replace HA := hid_into (HA.out.next Bk); clear Bk)
      go_ret
      exact ⟨rfl, BI.out.trans (HA.out.below.mono BI.out.size)⟩
end Go.Proofs.Ytlknolbfhfcflab
