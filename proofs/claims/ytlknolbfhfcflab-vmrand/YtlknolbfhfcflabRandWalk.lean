/-
  VmRand's walk: the numbers that the seed makes, one a frame.
-/
import Derived.Test.YtlknolbfhfcflabKnown
import Derived.Test.YtlknolbfhfcflabPlain2
import Derived.Test.YtlknolbfhfcflabStEq
namespace Go.Proofs.Ytlknolbfhfcflab
open Go.RowKit
set_option maxRecDepth 20000 in
set_option maxHeartbeats 4000000 in
theorem rand_walk (seed n0 : Int) (hs : 0 ≤ seed ∧ seed < 4294967296) (w : World) : Calls Try.prog 5 #[.int .u32 seed, .int .i64 n0] w fun e w' => e = .returned (.bool true) ∧ Below w.heap.size w w' := by
  by_cases a1 : n0 < 1
  · go_enter Try.func5, Try.ntmps5
    go_wp2_with (go_at_call 9; refine (known_any _).mono ?_; rintro e w1 ⟨rfl, B1⟩)
    go_ret
    exact ⟨rfl, B1⟩
  by_cases a2 : 60 < n0
  · go_enter Try.func5, Try.ntmps5
    go_wp2_with (go_at_call 9; refine (known_any _).mono ?_; rintro e w1 ⟨rfl, B1⟩)
    go_ret
    exact ⟨rfl, B1⟩
  obtain ⟨n, rfl⟩ := Int.eq_ofNat_of_zero_le (show 0 ≤ n0 by omega)
  have HZ : Hid ((Try.prog.info? 31).bind (·.zero) = some (.agg zeroS.toArray)) := Try.zero31
  have ZS := zeroS_size
  have HWf : Hid (∀ i x c, In32 c → 0 ≤ x ∧ x < 4294967296 → (rst i x c).Wf) := fun i x c hc hx => rst_wf i x c hc hx
  have HK : Hid (Kn w ((w.alloc (.cells #[.int .i64 21, .int .i64 0, .int .i64 3, .int .i64 4] 24)).alloc (.cells #[.slice (some ⟨w.heap.size, 0, none⟩) 2 2, .int .i64 100, .int .i64 9] 27)) (w.heap.size + 2) (w.heap.size + 1) (.slice (some ⟨w.heap.size, 0, none⟩) 2 2) 100 9 rcode) := Kn.make w rcode 100 9 (by show 2 ≤ 1000; omega)
  have hs0 := hs.1
  have hs1 := hs.2
  clear hs
  by_cases h0 : seed = 0
  · subst h0
    have ST : ∀ W, Calls Try.prog 10 #[.int .u32 0] W fun e w' => e = .returned (.agg (stV (rst 0 1 0)).toArray) ∧ Below W.heap.size W w' := fun W => Start_any 0 W
    go_enter Try.func5, Try.ntmps5
    go_wp2_with (first
      | (go_at_call 10; refine (ST _).mono ?_; rintro e wa ⟨rfl, Ba⟩; have HA := hid_into (HK.out.next Ba); clear Ba)
      | (refine wpList_alloc_row rfl 31 rfl zeroS HZ.out ?_; intro W5 hr5 B5 _; have hz5 := hid_into HA.out.size; replace HA := hid_into (HA.out.next B5))
      | (refine wpList_store_rw rfl 31 (.tmp 6) (.tmp 23) rfl wa.heap.size zeroS (stV (rst 0 1 0)) 31 rfl rfl ?_ ZS (st_len (HWf.out 0 1 0 zero_in (by omega))) (st_one (HWf.out 0 1 0 zero_in (by omega))).out ?_; exact hr5; intro W6 hr6 O6; replace HA := hid_into (HA.out.only O6 hz5.out); have hr7 := hid_into hr6; clear hr6 O6 hr5 B5))
    go_loopw [7, 8] (fun xv iv wr => ∃ (k : Nat) (x c : Int), k ≤ n ∧ xv = .int .u32 x ∧ iv = .int .i64 (k : Int) ∧ Hid (0 ≤ x ∧ x < 4294967296 ∧ x ≠ 0 ∧ In32 c) ∧ Hid (Kn w wr (w.heap.size + 2) (w.heap.size + 1) (.slice (some ⟨w.heap.size, 0, none⟩) 2 2) 100 9 rcode) ∧ Hid (Cw wr wa.heap.size (stV (rst k x c)) 31)) (fun _ iv _ => n - (intOf iv).toNat)
    case atStart => exact ⟨0, 1, 0, Nat.zero_le _, rfl, rfl, hid_into ⟨by omega, by omega, by omega, zero_in⟩, HA.out, hr7.out⟩
    case round =>
      clear HA hr7
      obtain ⟨k, x, c, hk, rfl, rfl, HX, HA, hr7⟩ := hrel
      by_cases hlt : k < n
      · have g0 := HA.out.s.1
        have g1 := HA.out.s.2.1
        have g2 := HA.out.s.2.2
        have hx0 := HX.out.1
        have hx1 := HX.out.2.1
        have wk : (rst k x c).Wf := HWf.out k x c HX.out.2.2.2 ⟨hx0, hx1⟩
        have hrn := rndI_in ⟨hx0, hx1⟩
        have wk1 : (rst (k + 1) (rndI x) (rndI x % 65536)).Wf := HWf.out _ _ _ ⟨by omega, by omega⟩ hrn
        have Zk := st_size wk
        have SPk : Hid (∀ W, Kn w W (w.heap.size + 2) (w.heap.size + 1) (.slice (some ⟨w.heap.size, 0, none⟩) 2 2) 100 9 rcode → Calls Try.prog 11 #[.agg #[.slice (some ⟨w.heap.size, 0, none⟩) 2 2, .int .i64 100, .int .i64 9], .agg (stV (rst k x c)).toArray, .agg #[.int .u16 0, .int .u16 0]] W fun r w' => r = .returned (.tuple #[.agg (stV (rst (k + 1) (rndI x) (rndI x % 65536))).toArray, .int .i64 0]) ∧ Below W.heap.size W w') := fun W h => h.step _ _ _ _ _ wk (by omega) (by omega) (rand_step k x c ⟨by omega, by omega⟩ HX.out.2.2.1)
        have Z1 := st_size wk1
        have L1 := st_len wk1
        have O1 := st_one wk1
        have LL : Hid ((stV (rst k x c)).length = (stV (rst (k + 1) (rndI x) (rndI x % 65536))).length) := by rw [(stV_c wk).len, (stV_c wk1).len]; exact hid_into rfl
        have C1 := hid_into (stV_c wk1)
        have HW : wrap32 (bits .and .u32 (rndI x) 65535) = rndI x % 65536 := by rw [and16 _ hrn]; unfold wrap32; omega
        have Q17 : Hid ((stV (rst (k + 1) (rndI x) (rndI x % 65536)))[17]? = some (.int .u32 (bits .xor .u32 (bits .xor .u32 (bits .xor .u32 x (x * 8192 % 4294967296)) ((bits .xor .u32 x (x * 8192 % 4294967296)) / 131072)) ((bits .xor .u32 (bits .xor .u32 x (x * 8192 % 4294967296)) ((bits .xor .u32 x (x * 8192 % 4294967296)) / 131072)) * 32 % 4294967296)))) := C1.out.seed
        have Q5 : Hid ((stV (rst (k + 1) (rndI x) (rndI x % 65536)))[5]? = some (.int .i32 (wrap32 (bits .and .u32 (bits .xor .u32 (bits .xor .u32 (bits .xor .u32 x (x * 8192 % 4294967296)) ((bits .xor .u32 x (x * 8192 % 4294967296)) / 131072)) ((bits .xor .u32 (bits .xor .u32 x (x * 8192 % 4294967296)) ((bits .xor .u32 x (x * 8192 % 4294967296)) / 131072)) * 32 % 4294967296)) 65535)))) := by
          have h5 := C1.out.cell 4 (by omega)
          show _ = some (Value.int .i32 (wrap32 (bits .and .u32 (rndI x) 65535)))
          rw [HW]
          exact h5
        have HS1 : Hid (stV (rst ((k + 1 : Nat) : Int) (rndI x) (rndI x % 65536)) = stV (rst (k + 1) (rndI x) (rndI x % 65536))) := hid_into rfl
        have HNx : Hid (0 ≤ rndI x ∧ rndI x < 4294967296 ∧ rndI x ≠ 0 ∧ In32 (rndI x % 65536)) := ⟨hrn.1, hrn.2, rndI_ne ⟨hx0, hx1⟩ HX.out.2.2.1, ⟨by omega, by omega⟩⟩
        clear C1 HW wk wk1 hrn
        generalize hs1 : stV (rst (k + 1) (rndI x) (rndI x % 65536)) = s1 at SPk Z1 L1 O1 LL Q17 Q5 HS1
        clear hs1
        generalize hsk : stV (rst k x c) = sk at SPk Zk LL hr7
        clear hsk
        go_wp2_with (first
          | (refine wpList_load_rw rfl 31 (.tmp 6) rfl wa.heap.size sk 31 _ rfl ?_ Try.underlying31 rfl Zk ?_; exact hr7.out)
          | (go_at_call 11; refine (SPk.out _ HA.out).mono ?_; rintro e wb ⟨rfl, Bb⟩; replace HA := hid_into (HA.out.next Bb); replace hr7 := hid_into (hr7.out.below Bb hr7.out.lt); clear Bb)
          | (refine wpList_alloc_row rfl 31 rfl zeroS HZ.out ?_; intro W8 hr8 B8 _; have hz8 := hid_into HA.out.size; have hlt8 := hid_into hr7.out.lt; replace HA := hid_into (HA.out.next B8); replace hr7 := hid_into (hr7.out.below B8 hr7.out.lt))
          | (refine wpList_store_rw rfl 31 (.tmp 9) (.tmp 37) rfl wb.heap.size zeroS s1 31 rfl rfl ?_ ZS L1 O1.out ?_; exact hr8; intro W9 hr9 O9; replace HA := hid_into (HA.out.only O9 hz8.out); replace hr7 := hid_into (O9.cw hr7.out (by have := hlt8.out; omega)); have q17 := (hr9.cell 17).trans Q17.out; have q5 := (hr9.cell 5).trans Q5.out; have hr9' := hid_into hr9; clear hr9 O9 B8 hr8)
          | (refine wpList_load_rw rfl 31 (.tmp 9) rfl wb.heap.size s1 31 _ rfl ?_ Try.underlying31 rfl Z1 ?_; exact hr9'.out)
          | (refine wpList_store_rw rfl 31 (.tmp 6) (.tmp 68) rfl wa.heap.size sk s1 31 rfl rfl ?_ Zk LL O1.out ?_; exact hr7.out; intro W10 hr10 O10; replace HA := hid_into (HA.out.only O10 hz5.out); have hr11 := hid_into hr10; clear hr10 O10))
        go_roundw
        case rel => exact ⟨k + 1, rndI x, rndI x % 65536, by omega, rfl, by go_num, HNx, HA.out, hid_into (HS1.out ▸ hr11.out)⟩
        case measure => simp [intOf]; omega
      · obtain rfl : k = n := by omega
        go_wp2_with (go_at_call 9; refine (known_any _).mono ?_; rintro e wk ⟨rfl, Bk⟩; replace HA := hid_into (HA.out.next Bk); clear Bk)
        go_ret
        exact ⟨rfl, HA.out.below⟩
  · have ST : ∀ W, Calls Try.prog 10 #[.int .u32 seed] W fun e w' => e = .returned (.agg (stV (rst 0 seed 0)).toArray) ∧ Below W.heap.size W w' := fun W => by
      have := Start_any seed W
      rw [show startS seed = rst 0 seed 0 by unfold startS; rw [if_neg h0]; rfl] at this
      exact this
    have h0' : (seed == 0) = false := by simp [h0]
    go_enter Try.func5, Try.ntmps5
    go_wp2_with (first
      | (go_at_call 10; refine (ST _).mono ?_; rintro e wa ⟨rfl, Ba⟩; have HA := hid_into (HK.out.next Ba); clear Ba)
      | (refine wpList_alloc_row rfl 31 rfl zeroS HZ.out ?_; intro W5 hr5 B5 _; have hz5 := hid_into HA.out.size; replace HA := hid_into (HA.out.next B5))
      | (refine wpList_store_rw rfl 31 (.tmp 6) (.tmp 23) rfl wa.heap.size zeroS (stV (rst 0 seed 0)) 31 rfl rfl ?_ ZS (st_len (HWf.out 0 seed 0 zero_in (by omega))) (st_one (HWf.out 0 seed 0 zero_in (by omega))).out ?_; exact hr5; intro W6 hr6 O6; replace HA := hid_into (HA.out.only O6 hz5.out); have hr7 := hid_into hr6; clear hr6 O6 hr5 B5))
    go_loopw [7, 8] (fun xv iv wr => ∃ (k : Nat) (x c : Int), k ≤ n ∧ xv = .int .u32 x ∧ iv = .int .i64 (k : Int) ∧ Hid (0 ≤ x ∧ x < 4294967296 ∧ x ≠ 0 ∧ In32 c) ∧ Hid (Kn w wr (w.heap.size + 2) (w.heap.size + 1) (.slice (some ⟨w.heap.size, 0, none⟩) 2 2) 100 9 rcode) ∧ Hid (Cw wr wa.heap.size (stV (rst k x c)) 31)) (fun _ iv _ => n - (intOf iv).toNat)
    case atStart => exact ⟨0, seed, 0, Nat.zero_le _, rfl, rfl, hid_into ⟨by omega, by omega, by omega, zero_in⟩, HA.out, hr7.out⟩
    case round =>
      clear HA hr7
      obtain ⟨k, x, c, hk, rfl, rfl, HX, HA, hr7⟩ := hrel
      by_cases hlt : k < n
      · have g0 := HA.out.s.1
        have g1 := HA.out.s.2.1
        have g2 := HA.out.s.2.2
        have hx0 := HX.out.1
        have hx1 := HX.out.2.1
        have wk : (rst k x c).Wf := HWf.out k x c HX.out.2.2.2 ⟨hx0, hx1⟩
        have hrn := rndI_in ⟨hx0, hx1⟩
        have wk1 : (rst (k + 1) (rndI x) (rndI x % 65536)).Wf := HWf.out _ _ _ ⟨by omega, by omega⟩ hrn
        have Zk := st_size wk
        have SPk : Hid (∀ W, Kn w W (w.heap.size + 2) (w.heap.size + 1) (.slice (some ⟨w.heap.size, 0, none⟩) 2 2) 100 9 rcode → Calls Try.prog 11 #[.agg #[.slice (some ⟨w.heap.size, 0, none⟩) 2 2, .int .i64 100, .int .i64 9], .agg (stV (rst k x c)).toArray, .agg #[.int .u16 0, .int .u16 0]] W fun r w' => r = .returned (.tuple #[.agg (stV (rst (k + 1) (rndI x) (rndI x % 65536))).toArray, .int .i64 0]) ∧ Below W.heap.size W w') := fun W h => h.step _ _ _ _ _ wk (by omega) (by omega) (rand_step k x c ⟨by omega, by omega⟩ HX.out.2.2.1)
        have Z1 := st_size wk1
        have L1 := st_len wk1
        have O1 := st_one wk1
        have LL : Hid ((stV (rst k x c)).length = (stV (rst (k + 1) (rndI x) (rndI x % 65536))).length) := by rw [(stV_c wk).len, (stV_c wk1).len]; exact hid_into rfl
        have C1 := hid_into (stV_c wk1)
        have HW : wrap32 (bits .and .u32 (rndI x) 65535) = rndI x % 65536 := by rw [and16 _ hrn]; unfold wrap32; omega
        have Q17 : Hid ((stV (rst (k + 1) (rndI x) (rndI x % 65536)))[17]? = some (.int .u32 (bits .xor .u32 (bits .xor .u32 (bits .xor .u32 x (x * 8192 % 4294967296)) ((bits .xor .u32 x (x * 8192 % 4294967296)) / 131072)) ((bits .xor .u32 (bits .xor .u32 x (x * 8192 % 4294967296)) ((bits .xor .u32 x (x * 8192 % 4294967296)) / 131072)) * 32 % 4294967296)))) := C1.out.seed
        have Q5 : Hid ((stV (rst (k + 1) (rndI x) (rndI x % 65536)))[5]? = some (.int .i32 (wrap32 (bits .and .u32 (bits .xor .u32 (bits .xor .u32 (bits .xor .u32 x (x * 8192 % 4294967296)) ((bits .xor .u32 x (x * 8192 % 4294967296)) / 131072)) ((bits .xor .u32 (bits .xor .u32 x (x * 8192 % 4294967296)) ((bits .xor .u32 x (x * 8192 % 4294967296)) / 131072)) * 32 % 4294967296)) 65535)))) := by
          have h5 := C1.out.cell 4 (by omega)
          show _ = some (Value.int .i32 (wrap32 (bits .and .u32 (rndI x) 65535)))
          rw [HW]
          exact h5
        have HS1 : Hid (stV (rst ((k + 1 : Nat) : Int) (rndI x) (rndI x % 65536)) = stV (rst (k + 1) (rndI x) (rndI x % 65536))) := hid_into rfl
        have HNx : Hid (0 ≤ rndI x ∧ rndI x < 4294967296 ∧ rndI x ≠ 0 ∧ In32 (rndI x % 65536)) := ⟨hrn.1, hrn.2, rndI_ne ⟨hx0, hx1⟩ HX.out.2.2.1, ⟨by omega, by omega⟩⟩
        clear C1 HW wk wk1 hrn
        generalize hs1 : stV (rst (k + 1) (rndI x) (rndI x % 65536)) = s1 at SPk Z1 L1 O1 LL Q17 Q5 HS1
        clear hs1
        generalize hsk : stV (rst k x c) = sk at SPk Zk LL hr7
        clear hsk
        go_wp2_with (first
          | (refine wpList_load_rw rfl 31 (.tmp 6) rfl wa.heap.size sk 31 _ rfl ?_ Try.underlying31 rfl Zk ?_; exact hr7.out)
          | (go_at_call 11; refine (SPk.out _ HA.out).mono ?_; rintro e wb ⟨rfl, Bb⟩; replace HA := hid_into (HA.out.next Bb); replace hr7 := hid_into (hr7.out.below Bb hr7.out.lt); clear Bb)
          | (refine wpList_alloc_row rfl 31 rfl zeroS HZ.out ?_; intro W8 hr8 B8 _; have hz8 := hid_into HA.out.size; have hlt8 := hid_into hr7.out.lt; replace HA := hid_into (HA.out.next B8); replace hr7 := hid_into (hr7.out.below B8 hr7.out.lt))
          | (refine wpList_store_rw rfl 31 (.tmp 9) (.tmp 37) rfl wb.heap.size zeroS s1 31 rfl rfl ?_ ZS L1 O1.out ?_; exact hr8; intro W9 hr9 O9; replace HA := hid_into (HA.out.only O9 hz8.out); replace hr7 := hid_into (O9.cw hr7.out (by have := hlt8.out; omega)); have q17 := (hr9.cell 17).trans Q17.out; have q5 := (hr9.cell 5).trans Q5.out; have hr9' := hid_into hr9; clear hr9 O9 B8 hr8)
          | (refine wpList_load_rw rfl 31 (.tmp 9) rfl wb.heap.size s1 31 _ rfl ?_ Try.underlying31 rfl Z1 ?_; exact hr9'.out)
          | (refine wpList_store_rw rfl 31 (.tmp 6) (.tmp 68) rfl wa.heap.size sk s1 31 rfl rfl ?_ Zk LL O1.out ?_; exact hr7.out; intro W10 hr10 O10; replace HA := hid_into (HA.out.only O10 hz5.out); have hr11 := hid_into hr10; clear hr10 O10))
        go_roundw
        case rel => exact ⟨k + 1, rndI x, rndI x % 65536, by omega, rfl, by go_num, HNx, HA.out, hid_into (HS1.out ▸ hr11.out)⟩
        case measure => simp [intOf]; omega
      · obtain rfl : k = n := by omega
        go_wp2_with (go_at_call 9; refine (known_any _).mono ?_; rintro e wk ⟨rfl, Bk⟩; replace HA := hid_into (HA.out.next Bk); clear Bk)
        go_ret
        exact ⟨rfl, HA.out.below⟩
end Go.Proofs.Ytlknolbfhfcflab
