/-
  The functions of words, digest's and the document's: turn, the mixers, the choosers, part, later, r. By contracts; nothing is written.
-/
import Derived.Test.YtkfnmdhhiigceaaDgBase
import Derived.Test.YtkfnmdhhiigceaaDgSpec
import Derived.Lib.SliceRun
import Derived.Deep.QuietTactic
import Derived.BigQuiet
namespace Go.Proofs.Ytkfnmdhhiigceaa.Dg
open Go.RowKit

theorem hid_into {p : Prop} (h : p) : Hid p := h
theorem ret32 {x : Int} {y : Nat} (h : x = (y : Int)) : Ending.returned (.int .u32 x) = .returned (.int .u32 (y : Int)) := by rw [h]
theorem or_nat (x : Nat) (a b : Nat) (hx : x < 4294967296) : bits .or .u32 ((x : Int) / (a : Int)) ((x : Int) * (b : Int) % 4294967296) = (((x / a) ||| (x * b % 4294967296) : Nat) : Int) := by
  have h := u32_or_nat (x / a) (x * b % 4294967296) (Nat.lt_of_le_of_lt (Nat.div_le_self _ _) hx) (Nat.mod_lt _ (by decide))
  simpa using h
theorem or_nat' (x : Nat) (a b : Nat) (hx : x < 4294967296) : bits .or .u32 ((x : Int) * (b : Int) % 4294967296) ((x : Int) / (a : Int)) = (((x / a) ||| (x * b % 4294967296) : Nat) : Int) := by
  have h := u32_or_nat (x * b % 4294967296) (x / a) (Nat.mod_lt _ (by decide)) (Nat.lt_of_le_of_lt (Nat.div_le_self _ _) hx)
  rw [Nat.or_comm] at h
  simpa using h
theorem r_2 (x : Nat) (w : World) (hx : x < 4294967296) : Calls Try.prog 44 #[.int .u32 x, .int .u64 2] w fun e w' => e = .returned (.int .u32 (rotr x 2 : Nat)) ∧ w = w' := by
  have HE : Hid (bits .or .u32 ((x : Int) / 4) ((x : Int) * 1073741824 % 4294967296) = ((rotr x 2 : Nat) : Int)) := or_nat x 4 1073741824 hx
  go_enter Try.func44, Try.ntmps44
  go_wp2
  go_ret
  exact ⟨ret32 HE.out, rfl⟩
theorem left_2 (x : Nat) (w : World) (hx : x < 4294967296) : Calls Try.prog 56 #[.int .u32 x, .int .i64 (-2)] w fun e w' => e = .returned (.int .u32 (rotr x 2 : Nat)) ∧ w = w' := by
  have HE : Hid (bits .or .u32 ((x : Int) * 1073741824 % 4294967296) ((x : Int) / 4) = ((rotr x 2 : Nat) : Int)) := or_nat' x 4 1073741824 hx
  have hb : bits .and .u64 (IntKind.u64.wrap (-2)) 31 = 30 := by decide
  go_enter Try.func56, Try.ntmps56
  go_wp2
  go_ret
  exact ⟨ret32 HE.out, rfl⟩
theorem turn_2 (x : Nat) (w : World) (hx : x < 4294967296) : Calls Try.prog 55 #[.int .u32 x, .int .i64 2] w fun e w' => e = .returned (.int .u32 (rotr x 2 : Nat)) ∧ w = w' := by
  go_enter Try.func55, Try.ntmps55
  go_wp2_with fail
  refine (left_2 x w hx).mono ?_
  rintro e w' ⟨rfl, rfl⟩
  go_wp2
  go_ret
  exact ⟨rfl, rfl⟩
theorem r_6 (x : Nat) (w : World) (hx : x < 4294967296) : Calls Try.prog 44 #[.int .u32 x, .int .u64 6] w fun e w' => e = .returned (.int .u32 (rotr x 6 : Nat)) ∧ w = w' := by
  have HE : Hid (bits .or .u32 ((x : Int) / 64) ((x : Int) * 67108864 % 4294967296) = ((rotr x 6 : Nat) : Int)) := or_nat x 64 67108864 hx
  go_enter Try.func44, Try.ntmps44
  go_wp2
  go_ret
  exact ⟨ret32 HE.out, rfl⟩
theorem left_6 (x : Nat) (w : World) (hx : x < 4294967296) : Calls Try.prog 56 #[.int .u32 x, .int .i64 (-6)] w fun e w' => e = .returned (.int .u32 (rotr x 6 : Nat)) ∧ w = w' := by
  have HE : Hid (bits .or .u32 ((x : Int) * 67108864 % 4294967296) ((x : Int) / 64) = ((rotr x 6 : Nat) : Int)) := or_nat' x 64 67108864 hx
  have hb : bits .and .u64 (IntKind.u64.wrap (-6)) 31 = 26 := by decide
  go_enter Try.func56, Try.ntmps56
  go_wp2
  go_ret
  exact ⟨ret32 HE.out, rfl⟩
theorem turn_6 (x : Nat) (w : World) (hx : x < 4294967296) : Calls Try.prog 55 #[.int .u32 x, .int .i64 6] w fun e w' => e = .returned (.int .u32 (rotr x 6 : Nat)) ∧ w = w' := by
  go_enter Try.func55, Try.ntmps55
  go_wp2_with fail
  refine (left_6 x w hx).mono ?_
  rintro e w' ⟨rfl, rfl⟩
  go_wp2
  go_ret
  exact ⟨rfl, rfl⟩
theorem r_7 (x : Nat) (w : World) (hx : x < 4294967296) : Calls Try.prog 44 #[.int .u32 x, .int .u64 7] w fun e w' => e = .returned (.int .u32 (rotr x 7 : Nat)) ∧ w = w' := by
  have HE : Hid (bits .or .u32 ((x : Int) / 128) ((x : Int) * 33554432 % 4294967296) = ((rotr x 7 : Nat) : Int)) := or_nat x 128 33554432 hx
  go_enter Try.func44, Try.ntmps44
  go_wp2
  go_ret
  exact ⟨ret32 HE.out, rfl⟩
theorem left_7 (x : Nat) (w : World) (hx : x < 4294967296) : Calls Try.prog 56 #[.int .u32 x, .int .i64 (-7)] w fun e w' => e = .returned (.int .u32 (rotr x 7 : Nat)) ∧ w = w' := by
  have HE : Hid (bits .or .u32 ((x : Int) * 33554432 % 4294967296) ((x : Int) / 128) = ((rotr x 7 : Nat) : Int)) := or_nat' x 128 33554432 hx
  have hb : bits .and .u64 (IntKind.u64.wrap (-7)) 31 = 25 := by decide
  go_enter Try.func56, Try.ntmps56
  go_wp2
  go_ret
  exact ⟨ret32 HE.out, rfl⟩
theorem turn_7 (x : Nat) (w : World) (hx : x < 4294967296) : Calls Try.prog 55 #[.int .u32 x, .int .i64 7] w fun e w' => e = .returned (.int .u32 (rotr x 7 : Nat)) ∧ w = w' := by
  go_enter Try.func55, Try.ntmps55
  go_wp2_with fail
  refine (left_7 x w hx).mono ?_
  rintro e w' ⟨rfl, rfl⟩
  go_wp2
  go_ret
  exact ⟨rfl, rfl⟩
theorem r_11 (x : Nat) (w : World) (hx : x < 4294967296) : Calls Try.prog 44 #[.int .u32 x, .int .u64 11] w fun e w' => e = .returned (.int .u32 (rotr x 11 : Nat)) ∧ w = w' := by
  have HE : Hid (bits .or .u32 ((x : Int) / 2048) ((x : Int) * 2097152 % 4294967296) = ((rotr x 11 : Nat) : Int)) := or_nat x 2048 2097152 hx
  go_enter Try.func44, Try.ntmps44
  go_wp2
  go_ret
  exact ⟨ret32 HE.out, rfl⟩
theorem left_11 (x : Nat) (w : World) (hx : x < 4294967296) : Calls Try.prog 56 #[.int .u32 x, .int .i64 (-11)] w fun e w' => e = .returned (.int .u32 (rotr x 11 : Nat)) ∧ w = w' := by
  have HE : Hid (bits .or .u32 ((x : Int) * 2097152 % 4294967296) ((x : Int) / 2048) = ((rotr x 11 : Nat) : Int)) := or_nat' x 2048 2097152 hx
  have hb : bits .and .u64 (IntKind.u64.wrap (-11)) 31 = 21 := by decide
  go_enter Try.func56, Try.ntmps56
  go_wp2
  go_ret
  exact ⟨ret32 HE.out, rfl⟩
theorem turn_11 (x : Nat) (w : World) (hx : x < 4294967296) : Calls Try.prog 55 #[.int .u32 x, .int .i64 11] w fun e w' => e = .returned (.int .u32 (rotr x 11 : Nat)) ∧ w = w' := by
  go_enter Try.func55, Try.ntmps55
  go_wp2_with fail
  refine (left_11 x w hx).mono ?_
  rintro e w' ⟨rfl, rfl⟩
  go_wp2
  go_ret
  exact ⟨rfl, rfl⟩
theorem r_13 (x : Nat) (w : World) (hx : x < 4294967296) : Calls Try.prog 44 #[.int .u32 x, .int .u64 13] w fun e w' => e = .returned (.int .u32 (rotr x 13 : Nat)) ∧ w = w' := by
  have HE : Hid (bits .or .u32 ((x : Int) / 8192) ((x : Int) * 524288 % 4294967296) = ((rotr x 13 : Nat) : Int)) := or_nat x 8192 524288 hx
  go_enter Try.func44, Try.ntmps44
  go_wp2
  go_ret
  exact ⟨ret32 HE.out, rfl⟩
theorem left_13 (x : Nat) (w : World) (hx : x < 4294967296) : Calls Try.prog 56 #[.int .u32 x, .int .i64 (-13)] w fun e w' => e = .returned (.int .u32 (rotr x 13 : Nat)) ∧ w = w' := by
  have HE : Hid (bits .or .u32 ((x : Int) * 524288 % 4294967296) ((x : Int) / 8192) = ((rotr x 13 : Nat) : Int)) := or_nat' x 8192 524288 hx
  have hb : bits .and .u64 (IntKind.u64.wrap (-13)) 31 = 19 := by decide
  go_enter Try.func56, Try.ntmps56
  go_wp2
  go_ret
  exact ⟨ret32 HE.out, rfl⟩
theorem turn_13 (x : Nat) (w : World) (hx : x < 4294967296) : Calls Try.prog 55 #[.int .u32 x, .int .i64 13] w fun e w' => e = .returned (.int .u32 (rotr x 13 : Nat)) ∧ w = w' := by
  go_enter Try.func55, Try.ntmps55
  go_wp2_with fail
  refine (left_13 x w hx).mono ?_
  rintro e w' ⟨rfl, rfl⟩
  go_wp2
  go_ret
  exact ⟨rfl, rfl⟩
theorem r_17 (x : Nat) (w : World) (hx : x < 4294967296) : Calls Try.prog 44 #[.int .u32 x, .int .u64 17] w fun e w' => e = .returned (.int .u32 (rotr x 17 : Nat)) ∧ w = w' := by
  have HE : Hid (bits .or .u32 ((x : Int) / 131072) ((x : Int) * 32768 % 4294967296) = ((rotr x 17 : Nat) : Int)) := or_nat x 131072 32768 hx
  go_enter Try.func44, Try.ntmps44
  go_wp2
  go_ret
  exact ⟨ret32 HE.out, rfl⟩
theorem left_17 (x : Nat) (w : World) (hx : x < 4294967296) : Calls Try.prog 56 #[.int .u32 x, .int .i64 (-17)] w fun e w' => e = .returned (.int .u32 (rotr x 17 : Nat)) ∧ w = w' := by
  have HE : Hid (bits .or .u32 ((x : Int) * 32768 % 4294967296) ((x : Int) / 131072) = ((rotr x 17 : Nat) : Int)) := or_nat' x 131072 32768 hx
  have hb : bits .and .u64 (IntKind.u64.wrap (-17)) 31 = 15 := by decide
  go_enter Try.func56, Try.ntmps56
  go_wp2
  go_ret
  exact ⟨ret32 HE.out, rfl⟩
theorem turn_17 (x : Nat) (w : World) (hx : x < 4294967296) : Calls Try.prog 55 #[.int .u32 x, .int .i64 17] w fun e w' => e = .returned (.int .u32 (rotr x 17 : Nat)) ∧ w = w' := by
  go_enter Try.func55, Try.ntmps55
  go_wp2_with fail
  refine (left_17 x w hx).mono ?_
  rintro e w' ⟨rfl, rfl⟩
  go_wp2
  go_ret
  exact ⟨rfl, rfl⟩
theorem r_18 (x : Nat) (w : World) (hx : x < 4294967296) : Calls Try.prog 44 #[.int .u32 x, .int .u64 18] w fun e w' => e = .returned (.int .u32 (rotr x 18 : Nat)) ∧ w = w' := by
  have HE : Hid (bits .or .u32 ((x : Int) / 262144) ((x : Int) * 16384 % 4294967296) = ((rotr x 18 : Nat) : Int)) := or_nat x 262144 16384 hx
  go_enter Try.func44, Try.ntmps44
  go_wp2
  go_ret
  exact ⟨ret32 HE.out, rfl⟩
theorem left_18 (x : Nat) (w : World) (hx : x < 4294967296) : Calls Try.prog 56 #[.int .u32 x, .int .i64 (-18)] w fun e w' => e = .returned (.int .u32 (rotr x 18 : Nat)) ∧ w = w' := by
  have HE : Hid (bits .or .u32 ((x : Int) * 16384 % 4294967296) ((x : Int) / 262144) = ((rotr x 18 : Nat) : Int)) := or_nat' x 262144 16384 hx
  have hb : bits .and .u64 (IntKind.u64.wrap (-18)) 31 = 14 := by decide
  go_enter Try.func56, Try.ntmps56
  go_wp2
  go_ret
  exact ⟨ret32 HE.out, rfl⟩
theorem turn_18 (x : Nat) (w : World) (hx : x < 4294967296) : Calls Try.prog 55 #[.int .u32 x, .int .i64 18] w fun e w' => e = .returned (.int .u32 (rotr x 18 : Nat)) ∧ w = w' := by
  go_enter Try.func55, Try.ntmps55
  go_wp2_with fail
  refine (left_18 x w hx).mono ?_
  rintro e w' ⟨rfl, rfl⟩
  go_wp2
  go_ret
  exact ⟨rfl, rfl⟩
theorem r_19 (x : Nat) (w : World) (hx : x < 4294967296) : Calls Try.prog 44 #[.int .u32 x, .int .u64 19] w fun e w' => e = .returned (.int .u32 (rotr x 19 : Nat)) ∧ w = w' := by
  have HE : Hid (bits .or .u32 ((x : Int) / 524288) ((x : Int) * 8192 % 4294967296) = ((rotr x 19 : Nat) : Int)) := or_nat x 524288 8192 hx
  go_enter Try.func44, Try.ntmps44
  go_wp2
  go_ret
  exact ⟨ret32 HE.out, rfl⟩
theorem left_19 (x : Nat) (w : World) (hx : x < 4294967296) : Calls Try.prog 56 #[.int .u32 x, .int .i64 (-19)] w fun e w' => e = .returned (.int .u32 (rotr x 19 : Nat)) ∧ w = w' := by
  have HE : Hid (bits .or .u32 ((x : Int) * 8192 % 4294967296) ((x : Int) / 524288) = ((rotr x 19 : Nat) : Int)) := or_nat' x 524288 8192 hx
  have hb : bits .and .u64 (IntKind.u64.wrap (-19)) 31 = 13 := by decide
  go_enter Try.func56, Try.ntmps56
  go_wp2
  go_ret
  exact ⟨ret32 HE.out, rfl⟩
theorem turn_19 (x : Nat) (w : World) (hx : x < 4294967296) : Calls Try.prog 55 #[.int .u32 x, .int .i64 19] w fun e w' => e = .returned (.int .u32 (rotr x 19 : Nat)) ∧ w = w' := by
  go_enter Try.func55, Try.ntmps55
  go_wp2_with fail
  refine (left_19 x w hx).mono ?_
  rintro e w' ⟨rfl, rfl⟩
  go_wp2
  go_ret
  exact ⟨rfl, rfl⟩
theorem r_22 (x : Nat) (w : World) (hx : x < 4294967296) : Calls Try.prog 44 #[.int .u32 x, .int .u64 22] w fun e w' => e = .returned (.int .u32 (rotr x 22 : Nat)) ∧ w = w' := by
  have HE : Hid (bits .or .u32 ((x : Int) / 4194304) ((x : Int) * 1024 % 4294967296) = ((rotr x 22 : Nat) : Int)) := or_nat x 4194304 1024 hx
  go_enter Try.func44, Try.ntmps44
  go_wp2
  go_ret
  exact ⟨ret32 HE.out, rfl⟩
theorem left_22 (x : Nat) (w : World) (hx : x < 4294967296) : Calls Try.prog 56 #[.int .u32 x, .int .i64 (-22)] w fun e w' => e = .returned (.int .u32 (rotr x 22 : Nat)) ∧ w = w' := by
  have HE : Hid (bits .or .u32 ((x : Int) * 1024 % 4294967296) ((x : Int) / 4194304) = ((rotr x 22 : Nat) : Int)) := or_nat' x 4194304 1024 hx
  have hb : bits .and .u64 (IntKind.u64.wrap (-22)) 31 = 10 := by decide
  go_enter Try.func56, Try.ntmps56
  go_wp2
  go_ret
  exact ⟨ret32 HE.out, rfl⟩
theorem turn_22 (x : Nat) (w : World) (hx : x < 4294967296) : Calls Try.prog 55 #[.int .u32 x, .int .i64 22] w fun e w' => e = .returned (.int .u32 (rotr x 22 : Nat)) ∧ w = w' := by
  go_enter Try.func55, Try.ntmps55
  go_wp2_with fail
  refine (left_22 x w hx).mono ?_
  rintro e w' ⟨rfl, rfl⟩
  go_wp2
  go_ret
  exact ⟨rfl, rfl⟩
theorem r_25 (x : Nat) (w : World) (hx : x < 4294967296) : Calls Try.prog 44 #[.int .u32 x, .int .u64 25] w fun e w' => e = .returned (.int .u32 (rotr x 25 : Nat)) ∧ w = w' := by
  have HE : Hid (bits .or .u32 ((x : Int) / 33554432) ((x : Int) * 128 % 4294967296) = ((rotr x 25 : Nat) : Int)) := or_nat x 33554432 128 hx
  go_enter Try.func44, Try.ntmps44
  go_wp2
  go_ret
  exact ⟨ret32 HE.out, rfl⟩
theorem left_25 (x : Nat) (w : World) (hx : x < 4294967296) : Calls Try.prog 56 #[.int .u32 x, .int .i64 (-25)] w fun e w' => e = .returned (.int .u32 (rotr x 25 : Nat)) ∧ w = w' := by
  have HE : Hid (bits .or .u32 ((x : Int) * 128 % 4294967296) ((x : Int) / 33554432) = ((rotr x 25 : Nat) : Int)) := or_nat' x 33554432 128 hx
  have hb : bits .and .u64 (IntKind.u64.wrap (-25)) 31 = 7 := by decide
  go_enter Try.func56, Try.ntmps56
  go_wp2
  go_ret
  exact ⟨ret32 HE.out, rfl⟩
theorem turn_25 (x : Nat) (w : World) (hx : x < 4294967296) : Calls Try.prog 55 #[.int .u32 x, .int .i64 25] w fun e w' => e = .returned (.int .u32 (rotr x 25 : Nat)) ∧ w = w' := by
  go_enter Try.func55, Try.ntmps55
  go_wp2_with fail
  refine (left_25 x w hx).mono ?_
  rintro e w' ⟨rfl, rfl⟩
  go_wp2
  go_ret
  exact ⟨rfl, rfl⟩
theorem mixOld (x : Nat) (w : World) (hx : x < 4294967296) : Calls Try.prog 47 #[.int .u32 x] w fun e w' => e = .returned (.int .u32 (sg0 x : Nat)) ∧ w = w' := by
  have h1 := rotr_lt 7 hx
  have h2 := rotr_lt 18 hx
  have HE : Hid (bits .xor .u32 (bits .xor .u32 (rotr x 7 : Nat) (rotr x 18 : Nat)) ((x : Int) / 8) = ((sg0 x : Nat) : Int)) := by
    show _ = _
    rw [u32_xor_nat _ _ h1 h2]
    exact u32_xor_nat _ (x / 8) (xor32 h1 h2) (by omega)
  go_enter Try.func47, Try.ntmps47
  go_wp2_with fail
  refine (turn_7 x w hx).mono ?_
  rintro e w' ⟨rfl, rfl⟩
  go_wp2_with fail
  refine (turn_18 x w hx).mono ?_
  rintro e w' ⟨rfl, rfl⟩
  go_wp2
  go_ret
  exact ⟨ret32 HE.out, rfl⟩
theorem mixNew (x : Nat) (w : World) (hx : x < 4294967296) : Calls Try.prog 48 #[.int .u32 x] w fun e w' => e = .returned (.int .u32 (sg1 x : Nat)) ∧ w = w' := by
  have h1 := rotr_lt 17 hx
  have h2 := rotr_lt 19 hx
  have HE : Hid (bits .xor .u32 (bits .xor .u32 (rotr x 17 : Nat) (rotr x 19 : Nat)) ((x : Int) / 1024) = ((sg1 x : Nat) : Int)) := by
    show _ = _
    rw [u32_xor_nat _ _ h1 h2]
    exact u32_xor_nat _ (x / 1024) (xor32 h1 h2) (by omega)
  go_enter Try.func48, Try.ntmps48
  go_wp2_with fail
  refine (turn_17 x w hx).mono ?_
  rintro e w' ⟨rfl, rfl⟩
  go_wp2_with fail
  refine (turn_19 x w hx).mono ?_
  rintro e w' ⟨rfl, rfl⟩
  go_wp2
  go_ret
  exact ⟨ret32 HE.out, rfl⟩
theorem mixLow (x : Nat) (w : World) (hx : x < 4294967296) : Calls Try.prog 50 #[.int .u32 x] w fun e w' => e = .returned (.int .u32 (big1 x : Nat)) ∧ w = w' := by
  have h1 := rotr_lt 6 hx
  have h2 := rotr_lt 11 hx
  have h3 := rotr_lt 25 hx
  have HE : Hid (bits .xor .u32 (bits .xor .u32 (rotr x 6 : Nat) (rotr x 11 : Nat)) (rotr x 25 : Nat) = ((big1 x : Nat) : Int)) := by
    show _ = _
    rw [u32_xor_nat _ _ h1 h2]
    exact u32_xor_nat _ _ (xor32 h1 h2) h3
  go_enter Try.func50, Try.ntmps50
  go_wp2_with fail
  refine (turn_6 x w hx).mono ?_
  rintro e w' ⟨rfl, rfl⟩
  go_wp2_with fail
  refine (turn_11 x w hx).mono ?_
  rintro e w' ⟨rfl, rfl⟩
  go_wp2_with fail
  refine (turn_25 x w hx).mono ?_
  rintro e w' ⟨rfl, rfl⟩
  go_wp2
  go_ret
  exact ⟨ret32 HE.out, rfl⟩
theorem mixHigh (x : Nat) (w : World) (hx : x < 4294967296) : Calls Try.prog 52 #[.int .u32 x] w fun e w' => e = .returned (.int .u32 (big0 x : Nat)) ∧ w = w' := by
  have h1 := rotr_lt 2 hx
  have h2 := rotr_lt 13 hx
  have h3 := rotr_lt 22 hx
  have HE : Hid (bits .xor .u32 (bits .xor .u32 (rotr x 2 : Nat) (rotr x 13 : Nat)) (rotr x 22 : Nat) = ((big0 x : Nat) : Int)) := by
    show _ = _
    rw [u32_xor_nat _ _ h1 h2]
    exact u32_xor_nat _ _ (xor32 h1 h2) h3
  go_enter Try.func52, Try.ntmps52
  go_wp2_with fail
  refine (turn_2 x w hx).mono ?_
  rintro e w' ⟨rfl, rfl⟩
  go_wp2_with fail
  refine (turn_13 x w hx).mono ?_
  rintro e w' ⟨rfl, rfl⟩
  go_wp2_with fail
  refine (turn_22 x w hx).mono ?_
  rintro e w' ⟨rfl, rfl⟩
  go_wp2
  go_ret
  exact ⟨ret32 HE.out, rfl⟩
theorem nat_not (x : Nat) (h : x < 4294967296) : bits .xor .u32 IntKind.u32.max (x : Int) = ((4294967295 - x : Nat) : Int) := by
  have hm : IntKind.u32.max = ((4294967295 : Nat) : Int) := by decide
  rw [hm, u32_xor_nat 4294967295 x (by decide) h, Nat.xor_comm]
  congr 1
  have h1 : ∀ n : Nat, ∀ a, a < 2 ^ n → a ^^^ (2 ^ n - 1) = 2 ^ n - 1 - a := by
    intro n a h
    have := Nat.sub_add_cancel (show 1 ≤ 2 ^ n from Nat.one_le_two_pow)
    apply Nat.eq_of_testBit_eq
    intro i
    rw [Nat.testBit_xor, Nat.testBit_two_pow_sub_one, show 2 ^ n - 1 - a = 2 ^ n - (a + 1) by omega, Nat.testBit_two_pow_sub_succ h]
    by_cases hi : i < n
    · simp [hi]
    · simp [hi, Nat.testBit_lt_two_pow (Nat.lt_of_lt_of_le h (Nat.pow_le_pow_right (by decide) (by omega : n ≤ i)))]
  exact h1 32 x h
theorem ch_val (x y z : Nat) (hx : x < 4294967296) (hy : y < 4294967296) (hz : z < 4294967296) :
    bits .xor .u32 (bits .and .u32 (x : Int) (y : Int)) (bits .and .u32 (bits .xor .u32 IntKind.u32.max (x : Int)) (z : Int)) = ((chN x y z : Nat) : Int) := by
  rw [nat_not x hx, u32_and_nat x y hx hy, u32_and_nat _ z (by omega) hz, u32_xor_nat _ _ (and32 hx) (and32 (by omega))]; rfl
theorem maj_val (x y z : Nat) (hx : x < 4294967296) (hy : y < 4294967296) (hz : z < 4294967296) :
    bits .xor .u32 (bits .xor .u32 (bits .and .u32 (x : Int) (y : Int)) (bits .and .u32 (x : Int) (z : Int))) (bits .and .u32 (y : Int) (z : Int)) = ((majN x y z : Nat) : Int) := by
  rw [u32_and_nat x y hx hy, u32_and_nat x z hx hz, u32_and_nat y z hy hz, u32_xor_nat _ _ (and32 hx) (and32 hx), u32_xor_nat _ _ (xor32 (and32 hx) (and32 hx)) (and32 hy)]; rfl
theorem either_any (x y z : Nat) (w : World) (hx : x < 4294967296) (hy : y < 4294967296) (hz : z < 4294967296) : Calls Try.prog 51 #[.int .u32 x, .int .u32 y, .int .u32 z] w fun e w' => e = .returned (.int .u32 (chN x y z : Nat)) ∧ w = w' := by
  have HE := hid_into (ch_val x y z hx hy hz)
  go_enter Try.func51, Try.ntmps51
  go_wp2
  go_ret
  exact ⟨ret32 HE.out, rfl⟩
theorem most_any (x y z : Nat) (w : World) (hx : x < 4294967296) (hy : y < 4294967296) (hz : z < 4294967296) : Calls Try.prog 53 #[.int .u32 x, .int .u32 y, .int .u32 z] w fun e w' => e = .returned (.int .u32 (majN x y z : Nat)) ∧ w = w' := by
  have HE := hid_into (maj_val x y z hx hy hz)
  go_enter Try.func53, Try.ntmps53
  go_wp2
  go_ret
  exact ⟨ret32 HE.out, rfl⟩
theorem later_old (x y : Nat) (w : World) (hx : x < 4294967296) : Calls Try.prog 46 #[.func (.func 47) #[] #[], .int .u32 x, .int .u32 y] w fun e w' => e = .returned (.int .u32 ((sg0 x + y) % 4294967296 : Nat)) ∧ w = w' := by
  go_enter Try.func46, Try.ntmps46
  go_wp2_with fail
  refine (mixOld x w hx).mono ?_
  rintro e w' ⟨rfl, rfl⟩
  go_wp2
  go_ret
  exact ⟨ret32 (by simp), rfl⟩
theorem later_new (x y : Nat) (w : World) (hx : x < 4294967296) : Calls Try.prog 46 #[.func (.func 48) #[] #[], .int .u32 x, .int .u32 y] w fun e w' => e = .returned (.int .u32 ((sg1 x + y) % 4294967296 : Nat)) ∧ w = w' := by
  go_enter Try.func46, Try.ntmps46
  go_wp2_with fail
  refine (mixNew x w hx).mono ?_
  rintro e w' ⟨rfl, rfl⟩
  go_wp2
  go_ret
  exact ⟨ret32 (by simp), rfl⟩
theorem part_low (x y z : Nat) (w : World) (hx : x < 4294967296) (hy : y < 4294967296) (hz : z < 4294967296) : Calls Try.prog 49 #[.func (.func 50) #[] #[], .func (.func 51) #[] #[], .int .u32 x, .int .u32 y, .int .u32 z] w fun e w' => e = .returned (.int .u32 ((big1 x + chN x y z) % 4294967296 : Nat)) ∧ w = w' := by
  go_enter Try.func49, Try.ntmps49
  go_wp2_with fail
  refine (mixLow x w hx).mono ?_
  rintro e w' ⟨rfl, rfl⟩
  go_wp2_with fail
  refine (either_any x y z w hx hy hz).mono ?_
  rintro e w' ⟨rfl, rfl⟩
  go_wp2
  go_ret
  exact ⟨ret32 (by simp), rfl⟩
theorem part_high (x y z : Nat) (w : World) (hx : x < 4294967296) (hy : y < 4294967296) (hz : z < 4294967296) : Calls Try.prog 49 #[.func (.func 52) #[] #[], .func (.func 53) #[] #[], .int .u32 x, .int .u32 y, .int .u32 z] w fun e w' => e = .returned (.int .u32 ((big0 x + majN x y z) % 4294967296 : Nat)) ∧ w = w' := by
  go_enter Try.func49, Try.ntmps49
  go_wp2_with fail
  refine (mixHigh x w hx).mono ?_
  rintro e w' ⟨rfl, rfl⟩
  go_wp2_with fail
  refine (most_any x y z w hx hy hz).mono ?_
  rintro e w' ⟨rfl, rfl⟩
  go_wp2
  go_ret
  exact ⟨ret32 (by simp), rfl⟩
end Go.Proofs.Ytkfnmdhhiigceaa.Dg
