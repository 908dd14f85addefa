/-
  The laws' known: a word that is made and taken, and the text of noughts. It answers true, and writes nothing that was there.
-/
import Derived.Test.YtkfnmdhhiigceaaTkCheck
import Derived.Test.YtkfnmdhhiigceaaTkParse
import Derived.Lib.SlBytesConst
namespace Go.Proofs.Ytkfnmdhhiigceaa
open Go.RowKit Dg
def kInner : List Int := [211, 11, 97, 178, 159, 3, 40, 253, 95, 181, 40, 125, 57, 61, 148, 121, 136, 214, 250, 178, 23, 187, 180, 16, 86, 186, 190, 39, 54, 155, 41, 250]
def kMac : List Int := [44, 200, 69, 59, 121, 42, 146, 87, 169, 10, 224, 98, 247, 194, 229, 177, 114, 205, 236, 80, 120, 224, 164, 6, 235, 249, 26, 2, 132, 81, 211, 17]
theorem k_inner : shaN (xorL 54 (keyN [107]) ++ [84, 2, 4, 6]) = kInner := by rw [shaC_eq]; decide +kernel
theorem k_outer : shaN (xorL 92 (keyN [107]) ++ kInner) = kMac := by rw [shaC_eq]; decide +kernel
theorem k_msg : msg 1 2 3 = [84, 2, 4, 6] := by decide +kernel
theorem k_mac : mkT [107] 1 2 3 = kMac.take 16 := by rw [mkT, k_msg]; unfold macN; rw [k_inner, k_outer]
theorem k_byt : Byt [107] := by unfold Byt; decide
def kT : List Int := kMac.take 16
theorem kT_tk : Tk kT := by rw [kT, ← k_mac]; exact mkT_tk _ _ _ _
theorem kT_cells : (cellsOf kT) = [.int .u8 44, .int .u8 200, .int .u8 69, .int .u8 59, .int .u8 121, .int .u8 42, .int .u8 146, .int .u8 87, .int .u8 169, .int .u8 10, .int .u8 224, .int .u8 98, .int .u8 247, .int .u8 194, .int .u8 229, .int .u8 177] := rfl
theorem txt_zero : strOfNums (txt (zeroB 16)) = ⟨#[48, 48, 48, 48, 48, 48, 48, 48, 45, 48, 48, 48, 48, 48, 48, 48, 48, 45, 48, 48, 48, 48, 48, 48, 48, 48, 45, 48, 48, 48, 48, 48, 48, 48, 48]⟩ := by decide +kernel
theorem kB (W : World) : Bs (W.alloc (.cells #[.int .u8 107] 5 (1, 2))) (.slice (some ⟨W.heap.size, 0, none⟩) 1 1) [107] := Bs_of_block (zs := [107]) (heap_alloc_new W _) (by simp [maxLen])
theorem i64_1 : I64 1 := by unfold I64; omega
theorem i64_2 : I64 2 := by unfold I64; omega
theorem i64_3 : I64 3 := by unfold I64; omega
set_option maxRecDepth 20000 in
set_option maxHeartbeats 2000000 in
theorem known_any (w : World) : Calls Try.prog 12 #[] w fun e w' => e = .returned (.bool true) ∧ Below w.heap.size w w' := by
  have CT : Hid (∀ W, Calls Try.prog 14 #[.agg #[.int .u8 0, .int .u8 0, .int .u8 0, .int .u8 0, .int .u8 0, .int .u8 0, .int .u8 0, .int .u8 0, .int .u8 0, .int .u8 0, .int .u8 0, .int .u8 0, .int .u8 0, .int .u8 0, .int .u8 0, .int .u8 0]] W fun e w' => e = .returned (.string ⟨#[48, 48, 48, 48, 48, 48, 48, 48, 45, 48, 48, 48, 48, 48, 48, 48, 48, 45, 48, 48, 48, 48, 48, 48, 48, 48, 45, 48, 48, 48, 48, 48, 48, 48, 48]⟩) ∧ Below W.heap.size W w') := hid_into (fun W => by rw [← txt_zero]; exact text_any (zeroB 16) zero_tk W)
  have CM : Hid (∀ W v, Bs W v [107] → Calls Try.prog 8 #[v, .int .i64 1, .int .i64 2, .int .i64 3] W fun e w' => e = .returned (.agg (cellsOf kT).toArray) ∧ Below W.heap.size W w') := hid_into (fun W v h => by rw [kT, ← k_mac]; exact make_any v [107] 1 2 3 W h k_byt (by decide) i64_1 i64_2 i64_3)
  have CC : Hid (∀ W v, Bs W v [107] → Calls Try.prog 10 #[v, .int .i64 1, .int .i64 2, .int .i64 3, .agg #[.int .u8 44, .int .u8 200, .int .u8 69, .int .u8 59, .int .u8 121, .int .u8 42, .int .u8 146, .int .u8 87, .int .u8 169, .int .u8 10, .int .u8 224, .int .u8 98, .int .u8 247, .int .u8 194, .int .u8 229, .int .u8 177]] W fun e w' => e = .returned (.int .i64 0) ∧ Below W.heap.size W w') := hid_into (fun W v h => (check_any v [107] 1 2 3 kT kT_tk W h k_byt (by decide) i64_1 i64_2 i64_3).mono (by rintro e w' ⟨rfl, hb⟩; exact ⟨by rw [if_pos (by rw [k_mac]; rfl)], hb⟩))
  have HZ := hid_into Try.zero25t
  have HI := hs25 zero_tk
  have HKL : Hid ((cellsOf (zeroB 16)).length = (cellsOf kT).length) := hid_into rfl
  have heq : ∀ W, (Op.equalIn 10000 25 (.agg #[.int .u8 44, .int .u8 200, .int .u8 69, .int .u8 59, .int .u8 121, .int .u8 42, .int .u8 146, .int .u8 87, .int .u8 169, .int .u8 10, .int .u8 224, .int .u8 98, .int .u8 247, .int .u8 194, .int .u8 229, .int .u8 177]) (.agg #[.int .u8 0, .int .u8 0, .int .u8 0, .int .u8 0, .int .u8 0, .int .u8 0, .int .u8 0, .int .u8 0, .int .u8 0, .int .u8 0, .int .u8 0, .int .u8 0, .int .u8 0, .int .u8 0, .int .u8 0, .int .u8 0])).run Try.prog W = .ok false W := fun W => (run_eq16 25 Try.underlying25 kT_tk zero_tk W).trans (by rw [eqB_false (by decide)])
  have kc := fun (w : World) (C : Array Value) (n c : Nat) => Lib.run_convert_bytes_const (P := Try.prog) w 22 5 C n c Try.underlying22 Try.underlying5
  have hb1 := kB w
  have B1 : Below w.heap.size w (w.alloc (.cells #[.int .u8 107] 5 (1, 2))) := (Below.refl _ _).alloc (Nat.le_refl _) _
  go_enter Try.func12, Try.ntmps12
  go_wp2_with (first
    | (go_at_call 8; refine (CM.out _ _ hb1).mono ?_; rintro e W2 ⟨rfl, B2⟩; have BB2 := B1.trans (B2.mono B1.size))
    | (refine wpList_alloc_row rfl 25 rfl (cellsOf (zeroB 16)) HZ.out ?_; intro W3 hc3 B3 HS3; have BB3 := BB2.trans (B3.mono BB2.size))
    | (refine wpList_store_rw rfl 25 (.tmp 1) (.tmp 4) rfl W2.heap.size (cellsOf (zeroB 16)) (cellsOf kT) 25 rfl rfl hc3 HI HKL (cellsOf_one _) ?_; intro W4 hc4 O4; have BB4 := BB3.trans (O4.below BB2.size)))
  refine (CT.out W4).mono ?_
  rintro e W5 ⟨rfl, B5⟩
  have hc5 := hc4.below B5 hc4.lt
  have BB5 := BB4.trans (B5.mono BB4.size)
  have hb6 := kB W5
  have B6 : Below W5.heap.size W5 (W5.alloc (.cells #[.int .u8 107] 5 (1, 2))) := (Below.refl _ _).alloc (Nat.le_refl _) _
  have hc6 := hc5.below B6 hc5.lt
  have BB6 := BB5.trans (B6.mono BB5.size)
  have c6_0 : (W5.alloc (.cells #[.int .u8 107] 5 (1, 2))).cell? ⟨W2.heap.size, 0, none⟩ = some (.int .u8 44) := hc6.byte 0 (by decide)
  have c6_1 : (W5.alloc (.cells #[.int .u8 107] 5 (1, 2))).cell? ⟨W2.heap.size, 1, none⟩ = some (.int .u8 200) := hc6.byte 1 (by decide)
  have c6_2 : (W5.alloc (.cells #[.int .u8 107] 5 (1, 2))).cell? ⟨W2.heap.size, 2, none⟩ = some (.int .u8 69) := hc6.byte 2 (by decide)
  have c6_3 : (W5.alloc (.cells #[.int .u8 107] 5 (1, 2))).cell? ⟨W2.heap.size, 3, none⟩ = some (.int .u8 59) := hc6.byte 3 (by decide)
  have c6_4 : (W5.alloc (.cells #[.int .u8 107] 5 (1, 2))).cell? ⟨W2.heap.size, 4, none⟩ = some (.int .u8 121) := hc6.byte 4 (by decide)
  have c6_5 : (W5.alloc (.cells #[.int .u8 107] 5 (1, 2))).cell? ⟨W2.heap.size, 5, none⟩ = some (.int .u8 42) := hc6.byte 5 (by decide)
  have c6_6 : (W5.alloc (.cells #[.int .u8 107] 5 (1, 2))).cell? ⟨W2.heap.size, 6, none⟩ = some (.int .u8 146) := hc6.byte 6 (by decide)
  have c6_7 : (W5.alloc (.cells #[.int .u8 107] 5 (1, 2))).cell? ⟨W2.heap.size, 7, none⟩ = some (.int .u8 87) := hc6.byte 7 (by decide)
  have c6_8 : (W5.alloc (.cells #[.int .u8 107] 5 (1, 2))).cell? ⟨W2.heap.size, 8, none⟩ = some (.int .u8 169) := hc6.byte 8 (by decide)
  have c6_9 : (W5.alloc (.cells #[.int .u8 107] 5 (1, 2))).cell? ⟨W2.heap.size, 9, none⟩ = some (.int .u8 10) := hc6.byte 9 (by decide)
  have c6_10 : (W5.alloc (.cells #[.int .u8 107] 5 (1, 2))).cell? ⟨W2.heap.size, 10, none⟩ = some (.int .u8 224) := hc6.byte 10 (by decide)
  have c6_11 : (W5.alloc (.cells #[.int .u8 107] 5 (1, 2))).cell? ⟨W2.heap.size, 11, none⟩ = some (.int .u8 98) := hc6.byte 11 (by decide)
  have c6_12 : (W5.alloc (.cells #[.int .u8 107] 5 (1, 2))).cell? ⟨W2.heap.size, 12, none⟩ = some (.int .u8 247) := hc6.byte 12 (by decide)
  have c6_13 : (W5.alloc (.cells #[.int .u8 107] 5 (1, 2))).cell? ⟨W2.heap.size, 13, none⟩ = some (.int .u8 194) := hc6.byte 13 (by decide)
  have c6_14 : (W5.alloc (.cells #[.int .u8 107] 5 (1, 2))).cell? ⟨W2.heap.size, 14, none⟩ = some (.int .u8 229) := hc6.byte 14 (by decide)
  have c6_15 : (W5.alloc (.cells #[.int .u8 107] 5 (1, 2))).cell? ⟨W2.heap.size, 15, none⟩ = some (.int .u8 177) := hc6.byte 15 (by decide)
  go_wp2_with fail
  refine (CC.out _ _ hb6).mono ?_
  rintro e W7 ⟨rfl, B7⟩
  have hc7 := hc6.below B7 hc6.lt
  have BB7 := BB6.trans (B7.mono BB6.size)
  have c7_0 : W7.cell? ⟨W2.heap.size, 0, none⟩ = some (.int .u8 44) := hc7.byte 0 (by decide)
  have c7_1 : W7.cell? ⟨W2.heap.size, 1, none⟩ = some (.int .u8 200) := hc7.byte 1 (by decide)
  have c7_2 : W7.cell? ⟨W2.heap.size, 2, none⟩ = some (.int .u8 69) := hc7.byte 2 (by decide)
  have c7_3 : W7.cell? ⟨W2.heap.size, 3, none⟩ = some (.int .u8 59) := hc7.byte 3 (by decide)
  have c7_4 : W7.cell? ⟨W2.heap.size, 4, none⟩ = some (.int .u8 121) := hc7.byte 4 (by decide)
  have c7_5 : W7.cell? ⟨W2.heap.size, 5, none⟩ = some (.int .u8 42) := hc7.byte 5 (by decide)
  have c7_6 : W7.cell? ⟨W2.heap.size, 6, none⟩ = some (.int .u8 146) := hc7.byte 6 (by decide)
  have c7_7 : W7.cell? ⟨W2.heap.size, 7, none⟩ = some (.int .u8 87) := hc7.byte 7 (by decide)
  have c7_8 : W7.cell? ⟨W2.heap.size, 8, none⟩ = some (.int .u8 169) := hc7.byte 8 (by decide)
  have c7_9 : W7.cell? ⟨W2.heap.size, 9, none⟩ = some (.int .u8 10) := hc7.byte 9 (by decide)
  have c7_10 : W7.cell? ⟨W2.heap.size, 10, none⟩ = some (.int .u8 224) := hc7.byte 10 (by decide)
  have c7_11 : W7.cell? ⟨W2.heap.size, 11, none⟩ = some (.int .u8 98) := hc7.byte 11 (by decide)
  have c7_12 : W7.cell? ⟨W2.heap.size, 12, none⟩ = some (.int .u8 247) := hc7.byte 12 (by decide)
  have c7_13 : W7.cell? ⟨W2.heap.size, 13, none⟩ = some (.int .u8 194) := hc7.byte 13 (by decide)
  have c7_14 : W7.cell? ⟨W2.heap.size, 14, none⟩ = some (.int .u8 229) := hc7.byte 14 (by decide)
  have c7_15 : W7.cell? ⟨W2.heap.size, 15, none⟩ = some (.int .u8 177) := hc7.byte 15 (by decide)
  clear c6_0 c6_1 c6_2 c6_3 c6_4 c6_5 c6_6 c6_7 c6_8 c6_9 c6_10 c6_11 c6_12 c6_13 c6_14 c6_15
  go_wp2_with fail
  go_ret
  exact ⟨rfl, BB7⟩
end Go.Proofs.Ytkfnmdhhiigceaa
