/-
  RollbackAhead's own walk.
-/
import Derived.Test.YtbfldcieibdapaaGreatM22
import Derived.Deep.DeepCutAuto
namespace Go.Proofs.YtbfldcieibdapaaGreat
open Go.RowKit
set_option maxRecDepth 20000 in
set_option maxHeartbeats 4000000 in
theorem ahead_walk (tell : Int) (w : World) : Calls Tryz.prog 7 #[.int .i64 tell] w fun e w' => e = .returned (.bool true) ∧ Below w.heap.size w w' := by
  have CK := hid_into known_any
  by_cases h1 : tell < 0
  · go_enter Tryz.func7, Tryz.ntmps7
    go_wp2_with (go_at_call 12; refine (CK.out _).mono ?_; rintro e w1 ⟨rfl, B1⟩)
    go_ret
    exact ⟨rfl, B1⟩
  by_cases h2 : 8 < tell
  · go_enter Tryz.func7, Tryz.ntmps7
    go_wp2_with (go_at_call 12; refine (CK.out _).mono ?_; rintro e w1 ⟨rfl, B1⟩)
    go_ret
    exact ⟨rfl, B1⟩
  obtain ⟨t, rfl⟩ : ∃ t : Nat, tell = (t : Int) := ⟨tell.toNat, by omega⟩
  have ht8 : t ≤ 8 := by omega
  have HT := hid_into ht8
  have CA : Hid (∀ W, Calls Tryz.prog 26 #[.int .i64 100] W fun e w' => ∃ g, e = .returned (.agg #[.slice (some ⟨g, 0, none⟩) 8 8, .int .i64 100, .int .i64 20]) ∧ Ls w' (.slice (some ⟨g, 0, none⟩) 8 8) acode ∧ Below W.heap.size W w') := fun W => adder_any 100 W
  have CN : Hid (∀ W g, Below w.heap.size w W → Ls W (.slice (some ⟨g, 0, none⟩) 8 8) acode → Calls Tryz.prog 10 #[.agg #[.slice (some ⟨g, 0, none⟩) 8 8, .int .i64 100, .int .i64 20], .int .u32 1, .int .i64 1] W fun e w' => ∃ X hi, e = .returned (.tuple #[.pointer (some ⟨X.sb, 0, none⟩), .int .i64 0]) ∧ Ah w w' W.heap.size hi X 100 0 0 0) := fun W g hb hl => Ah_new w W hb g 100 1 (by decide) (by decide) hl (Or.inr rfl)
  have CL : Hid (∀ W lo hi X (p q : Nat) (b : Int), b ≤ 10000000 → p < 100 → p < min p q + 8 → Ah w W lo hi X 100 p q b → Calls Tryz.prog 13 #[.pointer (some ⟨X.sb, 0, none⟩), .int .u16 2] W fun e w' => e = .returned (.tuple #[.int .i64 (p : Int), .int .i64 0]) ∧ Ah w w' lo hi X 100 (p + 1) q (b + 1)) := fun W lo hi X p q b hb hp hw h => h.loc_ok (by decide) (by decide) hb (by omega) hw (by decide)
  have CV : Hid (∀ W lo hi X (p q : Nat) (b : Int), b ≤ 10000000 → p < 100 → min p q + 8 ≤ p → Ah w W lo hi X 100 p q b → Calls Tryz.prog 13 #[.pointer (some ⟨X.sb, 0, none⟩), .int .u16 2] W fun e w' => e = .returned (.tuple #[.int .i64 0, .int .i64 13]) ∧ Ah w w' lo hi X 100 p q b) := fun W lo hi X p q b hb hp hw h => h.loc_win (by decide) hb (by omega) hw (by decide)
  have CR : Hid (∀ W lo hi X (p q : Nat) (b : Int), b ≤ 10000000 → q < 100 → q ≤ min p q + 24 → Ah w W lo hi X 100 p q b → Calls Tryz.prog 15 #[.pointer (some ⟨X.sb, 0, none⟩), .int .i64 (q : Int), .int .u16 3] W fun e w' => e = .returned (.int .i64 0) ∧ Ah w w' lo hi X 100 p (q + 1) (b + 600)) := fun W lo hi X p q b hb hq hw h => h.rem_ok (by decide) (by decide) hb (by omega) hw (by decide)
  have CD : Hid (∀ W lo hi X (p q : Nat) (b : Int), Ah w W lo hi X 100 p q b → Calls Tryz.prog 22 #[.pointer (some ⟨X.sb, 0, none⟩)] W fun e w' => e = .returned (.int .i64 (q : Int)) ∧ Ah w w' lo hi X 100 p q b) := fun W lo hi X p q b h => h.needs
  have CS : Hid (∀ W lo hi X (p q : Nat) (b : Int), Ah w W lo hi X 100 p q b → Calls Tryz.prog 20 #[.pointer (some ⟨X.sb, 0, none⟩)] W fun e w' => (∃ cs : List Value, e = .returned (.agg cs.toArray) ∧ ∀ V : World, (Instr.field 48 (.agg cs.toArray) 0).run Tryz.prog V = .ok (.int .i64 ((min p q : Nat) : Int)) V) ∧ Ah w w' lo hi X 100 p q b) := fun W lo hi X p q b h => h.sure (by decide)
  clear ht8
  go_enter Tryz.func7, Tryz.ntmps7
  go_wp2_with (first
    | (go_at_call 26; refine (CA.out _).mono ?_; rintro e w1 ⟨g1, rfl, hL1, B1⟩; have HL1 := hid_into hL1; have HB1 := hid_into B1; clear B1 hL1)
    | (go_at_call 10; refine (CN.out _ _ HB1.out HL1.out).mono ?_; rintro e w2 ⟨X, hi, rfl, h2⟩; have H0 := hid_into h2; clear h2))
  go_loopw [5, 6] (fun un ui wr => ∃ i n : Nat, i ≤ 20 ∧ ui = .int .i64 (i : Int) ∧ un = .int .i64 (n : Int) ∧ Hid (n = min i 8 ∧ Ah w wr w1.heap.size hi X 100 n 0 (i : Int))) (fun _ ui _ => 20 - (intOf ui).toNat)
  case atStart => exact ⟨0, 0, by decide, rfl, rfl, rfl, H0.out⟩
  case round =>
    obtain ⟨i, n, hi20, rfl, rfl, HA⟩ := hrel
    by_cases hi2 : i < 20
    · have hi2' : (i : Int) < 20 := by omega
      have hn20 : n ≤ 8 := by have := HA.out.1; omega
      by_cases hi8 : i < 8
      · have C := hid_into (CL.out wr _ _ X n 0 (i : Int) (by omega) (by omega) (by have := HA.out.1; omega) HA.out.2)
        clear CL CV CR CD CS CA CN
        go_wp2_with (go_at_call 13; refine C.out.mono ?_; rintro e w3 ⟨rfl, h3⟩; have H3 := hid_into h3; clear h3)
        go_roundw
        case rel => exact ⟨i + 1, n + 1, by omega, by simp, by simp, by have := HA.out.1; omega, H3.out⟩
        case measure => simp [intOf]; omega
      · have C := hid_into (CV.out wr _ _ X n 0 (i : Int) (by omega) (by omega) (by have := HA.out.1; omega) HA.out.2)
        clear CL CV CR CD CS CA CN
        go_wp2_with (go_at_call 13; refine C.out.mono ?_; rintro e w3 ⟨rfl, h3⟩; have H3 := hid_into h3; clear h3)
        go_roundw
        case rel => exact ⟨i + 1, n, by omega, by simp, rfl, by have := HA.out.1; omega, H3.out.mono (by omega)⟩
        case measure => simp [intOf]; omega
    · have hi2' : ¬ (i : Int) < 20 := by omega
      obtain rfl : i = 20 := by omega
      obtain rfl : n = 8 := by have := HA.out.1; omega
      have H1 := hid_into HA.out.2
      clear HA H0 CN CA HL1
      go_wp2_with fail
      go_loopw [9] (fun uj wr => ∃ j : Nat, j ≤ t ∧ uj = .int .i64 (j : Int) ∧ Hid (Ah w wr w1.heap.size hi X 100 8 j (20 + 600 * (j : Int)))) (fun uj _ => t - (intOf uj).toNat)
      case atStart => exact ⟨0, Nat.zero_le _, rfl, H1.out.mono (by omega)⟩
      case round =>
        obtain ⟨j, hj, rfl, HJ⟩ := hrel
        by_cases hjt : j < t
        · have hjt' : (j : Int) < (t : Int) := by omega
          have C := hid_into (CR.out wr _ _ X 8 j (20 + 600 * (j : Int)) (by have := HT.out; omega) (by have := HT.out; omega) (by have := HT.out; omega) HJ.out)
          have hj8 : (j : Int) ≤ 8 := by have := HT.out; omega
          clear CL CV CR CD CS
          go_wp2_with (go_at_call 15; refine C.out.mono ?_; rintro e w3 ⟨rfl, h3⟩; have H3 := hid_into h3; clear h3)
          go_roundw
          case rel => exact ⟨j + 1, by omega, by simp, H3.out.mono (by omega)⟩
          case measure => simp [intOf]; omega
        · have hjt' : ¬ (j : Int) < (t : Int) := by omega
          obtain rfl : j = t := by omega
          have H2 := hid_into (HJ.out.mono (c := 10000) (by have := HT.out; omega))
          clear HJ H1 CR
          go_wp2_with fail
          go_loopw [5, 10] (fun un ui wr => ∃ i n : Nat, i ≤ 20 ∧ ui = .int .i64 (i : Int) ∧ un = .int .i64 (n : Int) ∧ Hid (n = 8 + min i j ∧ Ah w wr w1.heap.size hi X 100 n j (10000 + (i : Int)))) (fun _ ui _ => 20 - (intOf ui).toNat)
          case atStart => exact ⟨0, 8, by decide, rfl, rfl, by simp, H2.out.mono (by omega)⟩
          case round =>
            obtain ⟨i, n, hi20, rfl, rfl, HA⟩ := hrel
            by_cases hi2 : i < 20
            · have hi2' : (i : Int) < 20 := by omega
              have hn20 : n ≤ 16 := by have := HA.out.1; have := HT.out; omega
              by_cases hij : i < j
              · have C := hid_into (CL.out wr _ _ X n j (10000 + (i : Int)) (by omega) (by omega) (by have := HA.out.1; have := HT.out; omega) HA.out.2)
                clear CL CV CD CS
                go_wp2_with (go_at_call 13; refine C.out.mono ?_; rintro e w3 ⟨rfl, h3⟩; have H3 := hid_into h3; clear h3)
                go_roundw
                case rel => exact ⟨i + 1, n + 1, by omega, by simp, by simp, by have := HA.out.1; omega, H3.out.mono (by omega)⟩
                case measure => simp [intOf]; omega
              · have C := hid_into (CV.out wr _ _ X n j (10000 + (i : Int)) (by omega) (by omega) (by have := HA.out.1; have := HT.out; omega) HA.out.2)
                clear CL CV CD CS
                go_wp2_with (go_at_call 13; refine C.out.mono ?_; rintro e w3 ⟨rfl, h3⟩; have H3 := hid_into h3; clear h3)
                go_roundw
                case rel => exact ⟨i + 1, n, by omega, by simp, rfl, by have := HA.out.1; omega, H3.out.mono (by omega)⟩
                case measure => simp [intOf]; omega
            · have hi2' : ¬ (i : Int) < 20 := by omega
              have hn : (n : Int) = 8 + (j : Int) := by have := HA.out.1; have := HT.out; omega
              have hm : min n j = j := by have := HA.out.1; omega
              have H3 := hid_into HA.out.2
              have CS' := hid_into (fun W => CS.out W w1.heap.size hi X n j (10000 + (i : Int)))
              rw [hm] at CS'
              have hj8 : (j : Int) ≤ 8 := by have := HT.out; omega
              have hj0 : (0 : Int) ≤ (j : Int) := by omega
              clear HA CL CV CS hm
              go_wp2_with (first
                | (go_at_call 22; refine (CD.out _ _ _ _ _ _ _ H3.out).mono ?_; rintro e w4 ⟨rfl, h4⟩; have H4 := hid_into h4; clear h4)
                | (go_at_call 20; refine (CS'.out _ H4.out).mono ?_; rintro e w5 ⟨⟨cs, rfl, fs⟩, h5⟩; have H5 := hid_into h5; clear h5)
                | (go_at_call 12; refine (CK.out _).mono ?_; rintro e w6 ⟨rfl, h6⟩))
              go_ret
              exact ⟨rfl, H5.out.bel.trans (h6.mono H5.out.bel.size)⟩
end Go.Proofs.YtbfldcieibdapaaGreat
