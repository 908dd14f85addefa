/-
  A digit's number, on both sides.
-/
import Derived.Test.YtkfnmdhhiigceaaTkPlain
import Derived.Lib.Bytealg
namespace Go.Proofs.Ytkfnmdhhiigceaa
open Go.RowKit
/-- What half answers: of a digit its number, of any other sign 255. -/
def hv (c : Int) : Int := if 0 ≤ dg c then dg c else 255
theorem hv_bounds (c : Int) : 0 ≤ hv c ∧ hv c < 256 := by have := dg_le c; unfold hv; split <;> omega
def hexB : ByteArray := ⟨#[48, 49, 50, 51, 52, 53, 54, 55, 56, 57, 97, 98, 99, 100, 101, 102]⟩
theorem hex_all : ∀ n : Fin 256, Lib.indexByte hexB.data.toList ((n.val : Int).toNat.toUInt8) = dg (n.val : Int) := by decide +kernel
theorem hex_at {c : Int} (h0 : 0 ≤ c) (h1 : c < 256) : Lib.indexByte hexB.data.toList c.toNat.toUInt8 = dg c := by
  obtain ⟨n, rfl⟩ := Int.eq_ofNat_of_zero_le h0
  exact hex_all ⟨n, by omega⟩
theorem run54 (c : Int) (h0 : 0 ≤ c) (h1 : c < 256) (w : World) : (callFunc 54 #[.string hexB, .int .u8 c]).run Try.prog w = .ok (.value (.int .i64 (dg c))) w := by
  rw [run_callFunc_extern Try.func54 (by kernel_rfl) (by kernel_rfl) (by kernel_rfl) (e := Extern.BytealgIndexByte.indexByte) (by kernel_rfl), Lib.run_indexByteString, hex_at h0 h1]
  rfl
theorem ix45 (c : Int) (h0 : 0 ≤ c) (h1 : c < 256) (w : World) : Calls Try.prog 45 #[.string hexB, .int .u8 c] w fun e w' => e = .returned (.int .i64 (dg c)) ∧ w' = w := by
  have hd := run54 c h0 h1
  generalize hexB = s at *
  go_enter Try.func45, Try.ntmps45
  go_wp2_with fail
  go_ret
  exact ⟨rfl, rfl⟩
theorem ix40 (c : Int) (h0 : 0 ≤ c) (h1 : c < 256) (w : World) : Calls Try.prog 40 #[.string hexB, .int .u8 c] w fun e w' => e = .returned (.int .i64 (dg c)) ∧ w' = w := by
  have C := ix45 c h0 h1
  generalize hexB = s at *
  go_enter Try.func40, Try.ntmps40
  go_wp2_with (go_at_call 45; refine (C _).mono ?_; rintro e w1 ⟨rfl, rfl⟩)
  go_ret
  exact ⟨rfl, rfl⟩
theorem hv_wrap (c : Int) : IntKind.u8.wrap (dg c) = hv c := by
  have := dg_le c
  rw [IntKind.wrap_u8']
  unfold hv
  split <;> omega
theorem half_any (c : Int) (h0 : 0 ≤ c) (h1 : c < 256) (w : World) :
    Calls Try.prog 33 #[.int .u8 c] w fun e w' => e = .returned (.int .u8 (hv c)) ∧ w' = w := by
  have C := ix40 c h0 h1
  have hw := hv_wrap c
  have hl := dg_le c
  generalize dg c = d at *
  go_enter Try.func33, Try.ntmps33
  go_wp2_with (go_at_call 40; refine (C _).mono ?_; rintro e w1 ⟨rfl, rfl⟩)
  go_ret
  exact ⟨by rw [← hw]; rfl, rfl⟩
theorem digit_any (c : Int) (h0 : 0 ≤ c) (h1 : c < 256) (w : World) :
    Calls Try.prog 25 #[.int .u8 c] w fun e w' => e = .returned (.int .i64 (dg c)) ∧ w' = w := by
  have hd : dg c = if 48 ≤ c ∧ c ≤ 57 then c - 48 else if 97 ≤ c ∧ c ≤ 102 then c - 87 else -1 := rfl
  by_cases a1 : 48 ≤ c
  · by_cases a2 : c ≤ 57
    · rw [if_pos ⟨a1, a2⟩] at hd
      rw [hd]
      clear hd
      go_enter Try.func25, Try.ntmps25
      go_wp2_with fail
      go_ret
      exact ⟨by simp, rfl⟩
    · rw [if_neg (by omega)] at hd
      by_cases a3 : 97 ≤ c
      · by_cases a4 : c ≤ 102
        · rw [if_pos ⟨a3, a4⟩] at hd
          rw [hd]
          clear hd
          go_enter Try.func25, Try.ntmps25
          go_wp2_with fail
          go_ret
          exact ⟨by rw [show c - 97 + 10 = c - 87 by omega]; rfl, rfl⟩
        · rw [if_neg (by omega)] at hd
          rw [hd]
          clear hd
          go_enter Try.func25, Try.ntmps25
          go_wp2_with fail
          go_ret
          exact ⟨rfl, rfl⟩
      · rw [if_neg (by omega)] at hd
        rw [hd]
        clear hd
        go_enter Try.func25, Try.ntmps25
        go_wp2_with fail
        go_ret
        exact ⟨rfl, rfl⟩
  · rw [if_neg (by omega), if_neg (by omega)] at hd
    rw [hd]
    clear hd
    go_enter Try.func25, Try.ntmps25
    go_wp2_with fail
    go_ret
    exact ⟨rfl, rfl⟩
end Go.Proofs.Ytkfnmdhhiigceaa
