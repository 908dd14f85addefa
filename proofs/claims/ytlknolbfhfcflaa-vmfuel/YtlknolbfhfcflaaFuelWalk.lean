/-
  VmFuel's walk: a loop that does not end leaves the cells and the seed as they were.
-/
import Derived.Test.YtlknolbfhfcflaaKnown
import Derived.Test.YtlknolbfhfcflaaFuelPlain
import Derived.Test.YtlknolbfhfcflaaStEq
namespace Go.Proofs.Ytlknolbfhfcflaa
open Go.RowKit
set_option maxRecDepth 20000 in
set_option maxHeartbeats 4000000 in
theorem fuel_walk (fuel c v : Int) (hv : In32 v) (w : World) : Calls Try.prog 7 #[.int .i64 fuel, .int .i64 c, .int .i32 v] w fun e w' => e = .returned (.bool true) ∧ Below w.heap.size w w' := by
  have h1 := hv.1
  have h2 := hv.2
  by_cases a1 : fuel < 1
  · go_enter Try.func7, Try.ntmps7
    go_wp2_with (go_at_call 12; refine (known_any _).mono ?_; rintro e w1 ⟨rfl, B1⟩)
    go_ret
    exact ⟨rfl, B1⟩
  by_cases a2 : 2000 < fuel
  · go_enter Try.func7, Try.ntmps7
    go_wp2_with (go_at_call 12; refine (known_any _).mono ?_; rintro e w1 ⟨rfl, B1⟩)
    go_ret
    exact ⟨rfl, B1⟩
  by_cases a3 : c < 0
  · go_enter Try.func7, Try.ntmps7
    go_wp2_with (go_at_call 12; refine (known_any _).mono ?_; rintro e w1 ⟨rfl, B1⟩)
    go_ret
    exact ⟨rfl, B1⟩
  by_cases a4 : 16 ≤ c
  · go_enter Try.func7, Try.ntmps7
    go_wp2_with (go_at_call 12; refine (known_any _).mono ?_; rintro e w1 ⟨rfl, B1⟩)
    go_ret
    exact ⟨rfl, B1⟩
  have ST : ∀ W, Calls Try.prog 13 #[.int .u32 7] W fun e w' => e = .returned (.agg (stV (startS 7)).toArray) ∧ Below W.heap.size W w' := fun W => Start_any 7 W
  have w0 : (startS 7).Wf := startS_wf 7 (by omega)
  have w1 : (⟨1, zeros, 7, false, 0⟩ : Sp).Wf := ⟨rfl, (startS_wf 7 (by omega)).cin, by show (0 : Int) ≤ 7 ∧ (7 : Int) < 4294967296; omega⟩
  have SP1 : Hid (∀ W N G cv, Kn w W N G cv 5 fuel (fcode v c) → Calls Try.prog 8 #[.agg #[cv, .int .i64 5, .int .i64 fuel], .agg (stV (startS 7)).toArray, .agg #[.int .u16 0, .int .u16 0]] W fun r w' => r = .returned (.tuple #[.agg (stV ⟨1, zeros, 7, false, 0⟩).toArray, .int .i64 0]) ∧ Below W.heap.size W w') := fun W N G cv h => h.step _ _ _ _ _ w0 (by omega) (by omega) (fuel_step fuel c v ⟨by omega, by omega⟩ ⟨by omega, by omega⟩ hv)
  have L1 := st_len w1
  have O1 := st_one w1
  have Z1 := st_size w1
  have HQ : Hid (∀ w, (Op.equalIn 10000 28 (.agg (stV ⟨1, zeros, 7, false, 0⟩).toArray) (.agg (stV ⟨1, zeros, 7, false, 0⟩).toArray)).run Try.prog w = .ok true w) := fun w => by rw [run_eqS _ _ w1 w1, eqS_same]
  have HBd : Hid (Try.prog.built 28 [(0, .int .i64 1), (2, .int .u32 7)] = some (stV ⟨1, zeros, 7, false, 0⟩).toArray) := by show _ = _; kernel_rfl
  have hl1 : (stV ⟨1, zeros, 7, false, 0⟩).length = 20 := rfl
  clear w0 w1
  generalize hss : stV (startS 7) = ss at ST SP1
  clear hss
  generalize hs1 : stV ⟨1, zeros, 7, false, 0⟩ = s1 at SP1 L1 O1 Z1 HQ HBd hl1
  clear hs1
  go_enter Try.func7, Try.ntmps7
  go_upto_region 4 with fail
  have H : Hid (Kn w ((w.alloc (.cells #[.int .i64 1, .int .i64 v, .int .i64 3, .int .i64 c, .int .i64 21, .int .i64 0, .int .i64 15, .int .i64 0, .int .i64 18, .int .i64 0] 52)).alloc (.cells #[.slice (some ⟨w.heap.size, 0, none⟩) 5 5, .int .i64 5, .int .i64 fuel] 24)) (w.heap.size + 2) (w.heap.size + 1) (.slice (some ⟨w.heap.size, 0, none⟩) 5 5) 5 fuel (fcode v c)) := Kn.make w (fcode v c) 5 fuel (by show 5 ≤ 1000; omega)
  generalize (w.alloc (.cells #[.int .i64 1, .int .i64 v, .int .i64 3, .int .i64 c, .int .i64 21, .int .i64 0, .int .i64 15, .int .i64 0, .int .i64 18, .int .i64 0] 52)).alloc (.cells #[.slice (some ⟨w.heap.size, 0, none⟩) 5 5, .int .i64 5, .int .i64 fuel] 24) = W0 at H ⊢
  replace H := hid_into (H.out.sm (W' := W0.drew) ⟨rfl, rfl, rfl, rfl⟩)
  generalize (Value.slice (some ⟨w.heap.size, 0, none⟩) 5 5) = cv at H ⊢
  go_cut [8, 9] (fun pv ev wx => ∃ b, pv = .pointer (some ⟨b, 0, none⟩) ∧ ev = .int .i64 0 ∧ w.heap.size + 2 ≤ b ∧ Cw wx b s1 28 ∧ Kn w wx (w.heap.size + 2) (w.heap.size + 1) cv 5 fuel (fcode v c))
  case first =>
    have hS := H.out.s
    go_region_held3 (fun V => V.cell? ⟨w.heap.size + 1, 0, none⟩ = some cv ∧ V.cell? ⟨w.heap.size + 1, 1, none⟩ = some (.int .i64 5) ∧ V.cell? ⟨w.heap.size + 1, 2, none⟩ = some (.int .i64 fuel)) (first | exact hS | exact H.out.s | exact (H.out.next ((Below.refl _ _).alloc (Nat.le_refl _) _)).s)
      (first
        | (go_at_call 13; refine (ST _).mono ?_; rintro e wa ⟨rfl, Ba⟩; (first | (replace H := hid_into (H.out.next Ba)) | (obtain ⟨hr, hb, H1⟩ := Kn.alloc1 H.out Ba; clear H; have H := hid_into H1.out; clear H1)); clear Ba)
        | (go_at_call 8; (first | refine (SP1.out _ _ _ _ H.out).mono ?_ | refine (SP1.out _ _ _ _ (H.out.next ((Below.refl _ _).alloc (Nat.le_refl _) _))).mono ?_); rintro e wb ⟨rfl, Bb⟩; (first | (replace hr := hid_into (hr.out.below Bb hr.out.lt); replace H := hid_into (H.out.next Bb)) | (replace H := hid_into (H.out.next Bb)) | (obtain ⟨hr, hb, H1⟩ := Kn.alloc2 H.out Bb; clear H; have H := hid_into H1.out; clear H1)); clear Bb)
        | (refine upon_store (t := 28) hr.out L1 O1 ?_; intro wd hd Od; replace H := hid_into (H.out.only Od hb.out); clear Od)
        | (refine upon_store (cs := zeroS) (t := 28) (Cw.new _ _ _) L1 O1 ?_; intro wd hd Od; have hb := hid_into H.out.size; replace H := hid_into ((H.out.next ((Below.refl _ _).alloc (Nat.le_refl _) _)).only Od hb.out); clear Od))
    all_goals
      go_wp2_with fail
      go_meet
      exact ⟨_, rfl, rfl, hb.out, hd.keep rfl, H.out.sm ⟨rfl, rfl, rfl, rfl⟩⟩
  case rest =>
    obtain ⟨b, rfl, rfl, hb, hd, hK⟩ := hcut
    have H2 := hid_into hK
    have hd2 := hid_into hd
    clear hK hd hl1 L1 O1 SP1 ST
    go_wp2_with (first
      | (refine wpList_load_rwG rfl 28 (.tmp 8) rfl b s1 28 _ rfl ?_ Try.underlying28 rfl Z1 ?_; exact hd2.out)
      | (refine wpList_build_rowG rfl 28 #[(0, .const (.int .i64 1)), (2, .const (.int .u32 7))] rfl s1 [(0, .int .i64 1), (2, .int .u32 7)] rfl HBd.out ?_)
      | (refine wpList_eql28 rfl (.tmp 46) (.tmp 47) rfl s1 s1 true HQ rfl rfl ?_)
      | (go_at_call 12; refine (known_any _).mono ?_; rintro e wb ⟨rfl, Bb⟩; replace H2 := hid_into (H2.out.next Bb); clear Bb))
    go_ret
    exact ⟨rfl, H2.out.below⟩
end Go.Proofs.Ytlknolbfhfcflaa
