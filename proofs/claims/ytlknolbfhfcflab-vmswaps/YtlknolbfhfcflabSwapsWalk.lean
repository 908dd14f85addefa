/-
  VmSwaps' walk: two numbers that are swapped, doubled, dropped, turned to a truth.
-/
import Derived.Test.YtlknolbfhfcflabKnown
import Derived.Test.YtlknolbfhfcflabPlain
import Derived.Test.YtlknolbfhfcflabStEq
namespace Go.Proofs.Ytlknolbfhfcflab
open Go.RowKit
set_option maxRecDepth 20000 in
set_option maxHeartbeats 4000000 in
theorem swaps_walk (a b : Int) (ha : In32 a) (hb : In32 b) (w : World) : Calls Try.prog 8 #[.int .i32 a, .int .i32 b] w fun e w' => e = .returned (.bool true) ∧ Below w.heap.size w w' := by
  have h1 := ha.1
  have h2 := ha.2
  have h3 := hb.1
  have h4 := hb.2
  have ST : ∀ W, Calls Try.prog 10 #[.int .u32 1] W fun e w' => e = .returned (.agg (stV (startS 1)).toArray) ∧ Below W.heap.size W w' := fun W => Start_any 1 W
  have w0 : (startS 1).Wf := startS_wf 1 (by omega)
  have w1 := sst_wf a b ha hb
  have SP1 : Hid (∀ W, Ls W (.slice (some ⟨w.heap.size, 0, none⟩) 10 10) (scode a b) → Calls Try.prog 11 #[.agg #[.slice (some ⟨w.heap.size, 0, none⟩) 10 10, .int .i64 5, .int .i64 20], .agg (stV (startS 1)).toArray, .agg #[.int .u16 0, .int .u16 0]] W fun r w' => r = .returned (.tuple #[.agg (stV (sst a b)).toArray, .int .i64 0]) ∧ Below W.heap.size W w') := fun W h => by
    have := Step_any _ _ 5 20 (startS 1) 0 0 W h w0 (by omega) (by omega)
    rw [swaps_step a b ha hb] at this
    exact this
  have L1 := st_len w1
  have O1 := st_one w1
  have C1 := hid_into (stV_c w1)
  have HZ : Hid ((Try.prog.info? 31).bind (·.zero) = some (.agg zeroS.toArray)) := Try.zero31
  have ZS := zeroS_size
  have HA : Hid (Ls (w.alloc (.cells #[.int .i64 1, .int .i64 a, .int .i64 1, .int .i64 b, .int .i64 14, .int .i64 0, .int .i64 3, .int .i64 2, .int .i64 13, .int .i64 0, .int .i64 3, .int .i64 3, .int .i64 12, .int .i64 0, .int .i64 3, .int .i64 4, .int .i64 1, .int .i64 9, .int .i64 15, .int .i64 0] 24)) (.slice (some ⟨w.heap.size, 0, none⟩) 10 10) (scode a b)) := Ls_of_block (l := scode a b) (Cw.new _ (cells2 (scode a b)) _) (by show 10 ≤ maxLen; decide)
  have B0 : Hid (Below w.heap.size w (w.alloc (.cells #[.int .i64 1, .int .i64 a, .int .i64 1, .int .i64 b, .int .i64 14, .int .i64 0, .int .i64 3, .int .i64 2, .int .i64 13, .int .i64 0, .int .i64 3, .int .i64 3, .int .i64 12, .int .i64 0, .int .i64 3, .int .i64 4, .int .i64 1, .int .i64 9, .int .i64 15, .int .i64 0] 24))) := (Below.refl _ _).alloc (Nat.le_refl _) _
  clear w0 w1
  generalize hss : stV (startS 1) = ss at ST SP1
  clear hss
  generalize hs1 : stV (sst a b) = s1 at SP1 L1 O1 C1
  clear hs1
  by_cases hz : b = 0
  · have HTr : Hid (truI (decide (b = 0)) = 65536) := by rw [hz]; exact hid_into rfl
    subst hz
    go_enter Try.func8, Try.ntmps8
    go_wp2_with (first
    | (go_at_call 10; refine (ST _).mono ?_; rintro e wa ⟨rfl, Ba⟩; have HA2 := hid_into (HA.out.below Ba); have BA := hid_into (B0.out.trans (Ba.mono B0.out.size)); clear Ba)
    | (go_at_call 11; refine (SP1.out _ HA2.out).mono ?_; rintro e wb ⟨rfl, Bb⟩; replace BA := hid_into (BA.out.trans (Bb.mono BA.out.size)); clear Bb)
    | (refine wpList_alloc_row rfl 31 rfl zeroS HZ.out ?_; intro W5 hr5 B5 _; have hz5 := hid_into BA.out.size; replace BA := hid_into (BA.out.trans (B5.mono BA.out.size)))
    | (refine wpList_store_rw rfl 31 (.tmp 6) (.tmp 30) rfl wb.heap.size zeroS s1 31 rfl rfl ?_ ZS L1 O1.out ?_; exact hr5; intro W6 hr6 O6; have q2 := (hr6.cell 3).trans (C1.out.cell 2 (by omega)); have q3 := (hr6.cell 4).trans (C1.out.cell 3 (by omega)); have q4 := (hr6.cell 5).trans (C1.out.cell 4 (by omega)); simp only [sst, List.getD_cons_zero, List.getD_cons_succ] at q2 q3 q4; rw [HTr.out] at q4; replace BA := hid_into (BA.out.trans (O6.below hz5.out)))
    | (go_at_call 9; refine (known_any _).mono ?_; rintro e wk ⟨rfl, Bk⟩; replace BA := hid_into (BA.out.trans (Bk.mono BA.out.size))))
    go_ret
    exact ⟨rfl, BA.out⟩
  · have HTr : Hid (truI (decide (b = 0)) = 0) := by show _ = _; simp [truI, hz]
    have hz' : (b == 0) = false := by simp [hz]
    go_enter Try.func8, Try.ntmps8
    go_wp2_with (first
    | (go_at_call 10; refine (ST _).mono ?_; rintro e wa ⟨rfl, Ba⟩; have HA2 := hid_into (HA.out.below Ba); have BA := hid_into (B0.out.trans (Ba.mono B0.out.size)); clear Ba)
    | (go_at_call 11; refine (SP1.out _ HA2.out).mono ?_; rintro e wb ⟨rfl, Bb⟩; replace BA := hid_into (BA.out.trans (Bb.mono BA.out.size)); clear Bb)
    | (refine wpList_alloc_row rfl 31 rfl zeroS HZ.out ?_; intro W5 hr5 B5 _; have hz5 := hid_into BA.out.size; replace BA := hid_into (BA.out.trans (B5.mono BA.out.size)))
    | (refine wpList_store_rw rfl 31 (.tmp 6) (.tmp 30) rfl wb.heap.size zeroS s1 31 rfl rfl ?_ ZS L1 O1.out ?_; exact hr5; intro W6 hr6 O6; have q2 := (hr6.cell 3).trans (C1.out.cell 2 (by omega)); have q3 := (hr6.cell 4).trans (C1.out.cell 3 (by omega)); have q4 := (hr6.cell 5).trans (C1.out.cell 4 (by omega)); simp only [sst, List.getD_cons_zero, List.getD_cons_succ] at q2 q3 q4; rw [HTr.out] at q4; replace BA := hid_into (BA.out.trans (O6.below hz5.out)))
    | (go_at_call 9; refine (known_any _).mono ?_; rintro e wk ⟨rfl, Bk⟩; replace BA := hid_into (BA.out.trans (Bk.mono BA.out.size))))
    go_ret
    exact ⟨rfl, BA.out⟩
end Go.Proofs.Ytlknolbfhfcflab
