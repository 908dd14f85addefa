/-
  VmOps' walk: an operation of two numbers, done by the machine, is what it is by chapter 8; of one alone it finds too few.
-/
import Derived.Test.YtlknolbfhfcflaaKnown
import Derived.Test.YtlknolbfhfcflaaOpsPlain
import Derived.Test.YtlknolbfhfcflaaStEq
import Derived.Test.YtlknolbfhfcflaaRefFix
import Derived.Deep.CutBlock
namespace Go.Proofs.Ytlknolbfhfcflaa
open Go.RowKit
set_option maxRecDepth 20000 in
set_option maxHeartbeats 4000000 in
theorem ops_walk (op a b : Int) (ha : In32 a) (hb : In32 b) (w : World) : Calls Try.prog 6 #[.int .i64 op, .int .i32 a, .int .i32 b] w fun e w' => e = .returned (.bool true) ∧ Below w.heap.size w w' := by
  have v1 := ha.1
  have v2 := ha.2
  have v3 := hb.1
  have v4 := hb.2
  by_cases a1 : op < 4
  · go_enter Try.func6, Try.ntmps6
    go_wp2_with (go_at_call 12; refine (known_any _).mono ?_; rintro e w1 ⟨rfl, B1⟩)
    go_ret
    exact ⟨rfl, B1⟩
  by_cases a2 : 11 < op
  · go_enter Try.func6, Try.ntmps6
    go_wp2_with (go_at_call 12; refine (known_any _).mono ?_; rintro e w1 ⟨rfl, B1⟩)
    go_ret
    exact ⟨rfl, B1⟩
  obtain ⟨k, rfl⟩ := Int.eq_ofNat_of_zero_le (show 0 ≤ op by omega)
  have h4 : 4 ≤ k := by omega
  have h11 : k ≤ 11 := by omega
  have ST : ∀ W, Calls Try.prog 13 #[.int .u32 1] W fun e w' => e = .returned (.agg (stV (startS 1)).toArray) ∧ Below W.heap.size W w' := fun W => Start_any 1 W
  have w0 : (startS 1).Wf := startS_wf 1 (by omega)
  have w1 := ost_wf (twoI k b a) (twoI_in hb ha)
  have w2 : (⟨1, zeros, 1, false, 0⟩ : Sp).Wf := ⟨rfl, w0.cin, by show (0 : Int) ≤ 1 ∧ (1 : Int) < 4294967296; omega⟩
  have SP1 : Hid (∀ W N G cv, Kn w W N G cv 5 10 (ocode k b a) → Calls Try.prog 8 #[.agg #[cv, .int .i64 5, .int .i64 10], .agg (stV (startS 1)).toArray, .agg #[.int .u16 0, .int .u16 0]] W fun r w' => r = .returned (.tuple #[.agg (stV (ost (twoI k b a))).toArray, .int .i64 0]) ∧ Below W.heap.size W w') := fun W N G cv h => h.step _ _ _ _ _ w0 (by omega) (by omega) (ops_step b a k h4 h11 ha hb)
  have SP2 : Hid (∀ W N G cv, Kn w W N G cv 5 10 (ocode2 k a) → Calls Try.prog 8 #[.agg #[cv, .int .i64 5, .int .i64 10], .agg (stV (startS 1)).toArray, .agg #[.int .u16 0, .int .u16 0]] W fun r w' => r = .returned (.tuple #[.agg (stV ⟨1, zeros, 1, false, 0⟩).toArray, .int .i64 0]) ∧ Below W.heap.size W w') := fun W N G cv h => h.step _ _ _ _ _ w0 (by omega) (by omega) (ops_step2 a k h4 h11 ha)
  have L1 := st_len w1
  have O1 := st_one w1
  have C1 := hid_into (stV_c w1)
  have hl1 : (stV (ost (twoI k b a))).length = 20 := rfl
  have L2 := st_len w2
  have O2 := st_one w2
  have Z2 := st_size w2
  have hl2 : (stV ⟨1, zeros, 1, false, 0⟩).length = 20 := rfl
  have HQ : Hid (∀ w, (Op.equalIn 10000 28 (.agg (stV ⟨1, zeros, 1, false, 0⟩).toArray) (.agg (stV ⟨1, zeros, 1, false, 0⟩).toArray)).run Try.prog w = .ok true w) := fun w => by rw [run_eqS _ _ w2 w2, eqS_same]
  have HBd : Hid (Try.prog.built 28 [(0, .int .i64 1), (2, .int .u32 1)] = some (stV ⟨1, zeros, 1, false, 0⟩).toArray) := by show _ = _; kernel_rfl
  have HIn := hid_into (And.intro ha hb)
  clear w0 w1 w2 ha hb
  generalize hss : stV (startS 1) = ss at ST SP1 SP2
  clear hss
  generalize hs1 : stV (ost (twoI k b a)) = s1 at SP1 L1 O1 C1 hl1
  clear hs1
  generalize hs2 : stV ⟨1, zeros, 1, false, 0⟩ = s2 at SP2 L2 O2 Z2 HQ HBd hl2
  clear hs2
  go_enter Try.func6, Try.ntmps6
  go_upto_region 4 with fail
  have H : Hid (Kn w ((w.alloc (.cells #[.int .i64 1, .int .i64 b, .int .i64 1, .int .i64 a, .int .i64 (k : Int), .int .i64 0, .int .i64 3, .int .i64 5] 52)).alloc (.cells #[.slice (some ⟨w.heap.size, 0, none⟩) 4 4, .int .i64 5, .int .i64 10] 24)) (w.heap.size + 2) (w.heap.size + 1) (.slice (some ⟨w.heap.size, 0, none⟩) 4 4) 5 10 (ocode k b a)) := Kn.make w (ocode k b a) 5 10 (by show 4 ≤ 1000; omega)
  generalize (w.alloc (.cells #[.int .i64 1, .int .i64 b, .int .i64 1, .int .i64 a, .int .i64 (k : Int), .int .i64 0, .int .i64 3, .int .i64 5] 52)).alloc (.cells #[.slice (some ⟨w.heap.size, 0, none⟩) 4 4, .int .i64 5, .int .i64 10] 24) = W0 at H ⊢
  replace H := hid_into (H.out.sm (W' := W0.drew) ⟨rfl, rfl, rfl, rfl⟩)
  generalize hcv : (Value.slice (some ⟨w.heap.size, 0, none⟩) 4 4) = cv at H ⊢
  have HCV := hid_into hcv
  clear hcv
  go_cut [8, 9] (fun pv ev wx => ∃ bb, pv = .pointer (some ⟨bb, 0, none⟩) ∧ ev = .int .i64 0 ∧ w.heap.size + 2 ≤ bb ∧ Cw wx bb s1 28 ∧ Kn w wx (w.heap.size + 2) (w.heap.size + 1) cv 5 10 (ocode k b a))
  case first =>
    have hS := H.out.s
    go_region_held3 (fun V => V.cell? ⟨w.heap.size + 1, 0, none⟩ = some cv ∧ V.cell? ⟨w.heap.size + 1, 1, none⟩ = some (.int .i64 5) ∧ V.cell? ⟨w.heap.size + 1, 2, none⟩ = some (.int .i64 10)) (first | exact hS | exact H.out.s | exact (H.out.next ((Below.refl _ _).alloc (Nat.le_refl _) _)).s)
      (first
        | (go_at_call 13; refine (ST _).mono ?_; rintro e wa ⟨rfl, Ba⟩; (first | (replace H := hid_into (H.out.next Ba)) | (obtain ⟨hr, hb, H1⟩ := Kn.alloc1 H.out Ba; clear H; have H := hid_into H1.out; clear H1)); clear Ba)
        | (go_at_call 8; (first | refine (SP1.out _ _ _ _ H.out).mono ?_ | refine (SP1.out _ _ _ _ (H.out.next ((Below.refl _ _).alloc (Nat.le_refl _) _))).mono ?_); rintro e wb ⟨rfl, Bb⟩; (first | (replace hr := hid_into (hr.out.below Bb hr.out.lt); replace H := hid_into (H.out.next Bb)) | (replace H := hid_into (H.out.next Bb)) | (obtain ⟨hr, hb, H1⟩ := Kn.alloc2 H.out Bb; clear H; have H := hid_into H1.out; clear H1)); clear Bb)
        | (refine upon_store (t := 28) hr.out L1 O1 ?_; intro wd hd Od; replace H := hid_into (H.out.only Od hb.out); clear Od)
        | (refine upon_store (cs := zeroS) (t := 28) (Cw.new _ _ _) L1 O1 ?_; intro wd hd Od; have hb := hid_into H.out.size; replace H := hid_into ((H.out.next ((Below.refl _ _).alloc (Nat.le_refl _) _)).only Od hb.out); clear Od))
    all_goals
      go_wp2_with fail
      go_meet
      exact ⟨_, rfl, rfl, hb.out, hd.keep rfl, H.out.sm ⟨rfl, rfl, rfl, rfl⟩⟩
  case rest =>
    obtain ⟨b1, rfl, rfl, hb1, hd, hK⟩ := hcut
    have H2 := hid_into hK
    have hd2 := hid_into hd
    clear hK hd hl1 L1 O1 SP1 H
    go_upto_block 0 with fail
    go_cut [10] (fun v wx => v = .int .i32 (twoI k b a) ∧ wx = wc)
    case first =>
      have ks : k = 4 ∨ k = 5 ∨ k = 6 ∨ k = 7 ∨ k = 8 ∨ k = 9 ∨ k = 10 ∨ k = 11 := by omega
      clear H2 hd2 ST SP2 C1 L2 O2 Z2 HQ HBd HCV h4 h11 a1 a2
      rcases ks with rfl | rfl | rfl | rfl | rfl | rfl | rfl | rfl
      · go_wp2_with (go_at_call 21; refine (RefAdd_any _ _ HIn.out.2 HIn.out.1 _).mono ?_; rintro e w' ⟨rfl, rfl⟩)
        go_meet
        exact ⟨rfl, rfl⟩
      · go_wp2_with (go_at_call 22; refine (RefSub_any _ _ HIn.out.2 HIn.out.1 _).mono ?_; rintro e w' ⟨rfl, rfl⟩)
        go_meet
        exact ⟨rfl, rfl⟩
      · go_wp2_with (go_at_call 23; refine (RefMul_any _ _ HIn.out.2 HIn.out.1 _).mono ?_; rintro e w' ⟨rfl, rfl⟩)
        go_meet
        exact ⟨rfl, rfl⟩
      · go_wp2_with (go_at_call 24; refine (RefDiv_any _ _ HIn.out.2 HIn.out.1 _).mono ?_; rintro e w' ⟨rfl, rfl⟩)
        go_meet
        exact ⟨rfl, rfl⟩
      · by_cases hm : a ≤ b
        · have e8 : twoI ((8 : Nat) : Int) b a = a := by show (if b ≤ a then b else a) = a; split <;> omega
          go_wp2_with fail
          go_meet
          exact ⟨by rw [e8], rfl⟩
        · have e8 : twoI ((8 : Nat) : Int) b a = b := by show (if b ≤ a then b else a) = b; split <;> omega
          go_wp2_with fail
          go_meet
          exact ⟨by rw [e8], rfl⟩
      · by_cases hm : a < b
        · have e8 : twoI ((9 : Nat) : Int) b a = b := by show (if b < a then a else b) = b; split <;> omega
          go_wp2_with fail
          go_meet
          exact ⟨by rw [e8], rfl⟩
        · have e8 : twoI ((9 : Nat) : Int) b a = a := by show (if b < a then a else b) = a; split <;> omega
          go_wp2_with fail
          go_meet
          exact ⟨by rw [e8], rfl⟩
      · by_cases hm : b < a
        · have e8 : twoI ((10 : Nat) : Int) b a = 65536 := by show truI (decide (b < a)) = 65536; simp [truI, hm]
          go_wp2_with fail
          go_meet
          exact ⟨by rw [e8], rfl⟩
        · have e8 : twoI ((10 : Nat) : Int) b a = 0 := by show truI (decide (b < a)) = 0; simp [truI, hm]
          go_wp2_with fail
          go_meet
          exact ⟨by rw [e8], rfl⟩
      · by_cases hm : b = a
        · have e8 : twoI ((11 : Nat) : Int) b a = 65536 := by show truI (decide (b = a)) = 65536; simp [truI, hm]
          have hm' : (b == a) = true := by simp [hm]
          go_wp2_with fail
          go_meet
          exact ⟨by rw [e8], rfl⟩
        · have e8 : twoI ((11 : Nat) : Int) b a = 0 := by show truI (decide (b = a)) = 0; simp [truI, hm]
          have hm' : (b == a) = false := by simp [hm]
          go_wp2_with fail
          go_meet
          exact ⟨by rw [e8], rfl⟩
    case rest =>
      obtain ⟨rfl, hwc⟩ := hcut
      rename World => W7
      subst hwc
      have e := HCV.out
      subst e
      clear HCV
      have hK := H2.out
      have g0 := hK.s.1
      have fG := hK.g.frozen 0
      go_upto_region 25 with fail
      have H3 : Hid (Kn w (W7.setCell ⟨w.heap.size + 1, 0, none⟩ (.slice (some ⟨w.heap.size, 2, none⟩) 3 3)) (w.heap.size + 2) (w.heap.size + 1) (.slice (some ⟨w.heap.size, 2, none⟩) 3 3) 5 10 (ocode2 k a)) := by
        refine ⟨hK.g.set 0 _, ?_, hK.below.trans ((Only.set _ _ _ _).below (by show w.heap.size ≤ w.heap.size + 1; omega)), hK.lo, hK.lt, ?_, by simp only [World.setCell, Array.size_modify]; exact hK.size⟩
        · rcases hK.ls with ⟨h0, _⟩ | ⟨_, g, off, c, hv, h1, h2, hc⟩
          · cases h0
          · simp only [Value.slice.injEq, Option.some.injEq, Addr.mk.injEq, and_true] at hv
            obtain ⟨⟨rfl, rfl⟩, _⟩ := hv
            refine Or.inr ⟨by simp [ocode2], w.heap.size, 2, 3, rfl, by show 3 ≤ 3; omega, by decide, fun j u hu => ?_⟩
            have hj := hc (2 + j) u (by rw [show 2 + j = j + 1 + 1 by omega]; exact hu)
            rw [Nat.zero_add] at hj
            rw [World.cell?_of_block (w := W7) (Below.heap_setCell _ _ _ _ (show w.heap.size ≠ w.heap.size + 1 by omega))]
            exact hj
        · intro j hj
          have : w.heap.size = j := by simpa [Value.ownBlock] using hj
          omega
      have hd3 : Hid (Cw (W7.setCell ⟨w.heap.size + 1, 0, none⟩ (.slice (some ⟨w.heap.size, 2, none⟩) 3 3)) b1 s1 28) := two_blocks hd2.out (by omega) _ _
      clear hK g0 fG H2 hd2
      generalize W7.setCell ⟨w.heap.size + 1, 0, none⟩ (.slice (some ⟨w.heap.size, 2, none⟩) 3 3) = W8 at H3 hd3 ⊢
      have H : Hid (Kn w W8.drew W8.heap.size (w.heap.size + 1) (.slice (some ⟨w.heap.size, 2, none⟩) 3 3) 5 10 (ocode2 k a)) := by
        have h9 := H3.out.sm (W' := W8.drew) ⟨rfl, rfl, rfl, rfl⟩
        have h10 := H3.out.size
        exact ⟨h9.g, h9.ls, h9.below, by have := h9.lo; omega, by have := h9.lt; omega, fun j hj => by have := h9.own j hj; omega, Nat.le_refl _⟩
      clear H3
      have hdd := hid_into (hd3.out.keep (w' := W8.drew) rfl)
      clear hd3
      have hlt1 := hid_into hdd.out.lt
      have HN1 : Hid (b1 < W8.heap.size) := hlt1.out
      obtain ⟨N1, hN1⟩ : ∃ N1, N1 = W8.heap.size := ⟨_, rfl⟩
      rw [← hN1] at H HN1
      clear hN1
      generalize (Value.slice (some ⟨w.heap.size, 2, none⟩) 3 3) = cv at H ⊢
      go_cut [11, 12] (fun pv ev wx => ∃ bb, pv = .pointer (some ⟨bb, 0, none⟩) ∧ ev = .int .i64 0 ∧ N1 ≤ bb ∧ Cw wx bb s2 28 ∧ Kn w wx N1 (w.heap.size + 1) cv 5 10 (ocode2 k a) ∧ Cw wx b1 s1 28)
      case first =>
        have hS := H.out.s
        go_region_held3 (fun V => V.cell? ⟨w.heap.size + 1, 0, none⟩ = some cv ∧ V.cell? ⟨w.heap.size + 1, 1, none⟩ = some (.int .i64 5) ∧ V.cell? ⟨w.heap.size + 1, 2, none⟩ = some (.int .i64 10)) (first | exact hS | exact H.out.s | exact (H.out.next ((Below.refl _ _).alloc (Nat.le_refl _) _)).s)
          (first
            | (go_at_call 13; refine (ST _).mono ?_; rintro e wa ⟨rfl, Ba⟩; (first | (replace H := hid_into (H.out.next Ba)) | (obtain ⟨hr, hb, H1⟩ := Kn.alloc1 H.out Ba; clear H; have H := hid_into H1.out; clear H1)); (first | (replace hdd := hid_into (hdd.out.below Ba hdd.out.lt)) | (replace hdd := hid_into ((hdd.out.keep (w' := (W8.alloc (.cells zeroS.toArray 28)).drew) (Below.heap_alloc _ _ _ hlt1.out)).below Ba (by show b1 < (W8.alloc _).heap.size; rw [World.size_alloc]; have h9 : b1 < W8.heap.size := hlt1.out; omega)))); clear Ba)
            | (go_at_call 8; (first | refine (SP2.out _ _ _ _ H.out).mono ?_ | refine (SP2.out _ _ _ _ (H.out.next ((Below.refl _ _).alloc (Nat.le_refl _) _))).mono ?_); rintro e wb ⟨rfl, Bb⟩; (first | (replace hr := hid_into (hr.out.below Bb hr.out.lt); replace H := hid_into (H.out.next Bb)) | (replace H := hid_into (H.out.next Bb)) | (obtain ⟨hr, hb, H1⟩ := Kn.alloc2 H.out Bb; clear H; have H := hid_into H1.out; clear H1)); (first | (replace hdd := hid_into (hdd.out.below Bb hdd.out.lt)) | (replace hdd := hid_into ((hdd.out.alloc _).below Bb (by rw [World.size_alloc]; have := hdd.out.lt; omega)))); clear Bb)
            | (refine upon_store (t := 28) hr.out L2 O2 ?_; intro wd hd Od; replace H := hid_into (H.out.only Od hb.out); replace hdd := hid_into (Od.cw hdd.out (by have h8 := hb.out; have h9 := HN1.out; omega)); clear Od)
            | (refine upon_store (cs := zeroS) (t := 28) (Cw.new _ _ _) L2 O2 ?_; intro wd hd Od; have hb := hid_into H.out.size; replace H := hid_into ((H.out.next ((Below.refl _ _).alloc (Nat.le_refl _) _)).only Od hb.out); replace hdd := hid_into (Od.cw (hdd.out.alloc _) (by have h8 := hb.out; have h9 := HN1.out; omega)); clear Od))
        all_goals
          go_wp2_with fail
          go_meet
          exact ⟨_, rfl, rfl, hb.out, hd.keep rfl, H.out.sm ⟨rfl, rfl, rfl, rfl⟩, hdd.out.keep rfl⟩
      case rest =>
        obtain ⟨b2, rfl, rfl, hb2, hd, hK, hd1⟩ := hcut
        have H2 := hid_into hK
        have hd2 := hid_into hd
        have q0 := (hd1.cell 0).trans C1.out.frame
        have q6 := (hd1.cell 6).trans (C1.out.cell 5 (by omega))
        simp only [ost, List.getD_cons_zero, List.getD_cons_succ] at q0 q6
        clear hK hd hl2 L2 O2 SP2 ST H hd1 C1
        go_wp2_with (first
          | (refine wpList_load_rwG rfl 28 (.tmp 11) rfl b2 s2 28 _ rfl ?_ Try.underlying28 rfl Z2 ?_; exact hd2.out)
          | (refine wpList_build_rowG rfl 28 #[(0, .const (.int .i64 1)), (2, .const (.int .u32 1))] rfl s2 [(0, .int .i64 1), (2, .int .u32 1)] rfl HBd.out ?_)
          | (refine wpList_eql28 rfl (.tmp 107) (.tmp 108) rfl s2 s2 true HQ rfl rfl ?_)
          | (go_at_call 12; refine (known_any _).mono ?_; rintro e wb ⟨rfl, Bb⟩; replace H2 := hid_into (H2.out.next Bb); clear Bb))
        go_ret
        exact ⟨rfl, H2.out.below⟩
end Go.Proofs.Ytlknolbfhfcflaa
