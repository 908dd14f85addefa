/-
  What the laws' own words answer: known.
-/
import Derived.Test.YtkjoadncbfhjfaaPairRows
namespace Go.Proofs.Ytkjoadncbfhjfaa
open Go.RowKit
def kA : List Pl := putL (zeros 20) 0 5
def kB : List Pl := putL kA 2 7
variable {w w' : World} {lo hi qb g0 g1 : Nat}
theorem kput1 (h : Qp w lo hi qb g0 g1 (zeros 20) (zeros 20)) : Calls Try.prog 10 #[.pointer (some ⟨qb, 0, none⟩), .int .i64 0, .int .i64 0, .int .u16 5] w fun e w' => e = .returned (.int .i64 0) ∧ Qp w' lo hi qb g0 g1 kA (zeros 20) ∧ Og (fun k => lo ≤ k ∧ k < hi) w w' := by
  refine (put_any h 0 0 5).mono ?_
  rintro e w1 ⟨rfl, hp⟩
  exact ⟨rfl, hp.q, hp.og⟩
theorem kput2 (h : Qp w lo hi qb g0 g1 kA (zeros 20)) : Calls Try.prog 10 #[.pointer (some ⟨qb, 0, none⟩), .int .i64 0, .int .i64 2, .int .u16 7] w fun e w' => e = .returned (.int .i64 0) ∧ Qp w' lo hi qb g0 g1 kB (zeros 20) ∧ Og (fun k => lo ≤ k ∧ k < hi) w w' := by
  refine (put_any h 0 2 7).mono ?_
  rintro e w1 ⟨rfl, hp⟩
  exact ⟨rfl, hp.q, hp.og⟩
theorem kget1 (h : Qp w lo hi qb g0 g1 kB (zeros 20)) : Calls Try.prog 12 #[.pointer (some ⟨qb, 0, none⟩), .int .i64 0, .int .i64 1] w fun e w' => e = .returned (.tuple #[.int .u16 5, .bool false]) ∧ w' = w := get_any h 0 1
theorem kget2 (h : Qp w lo hi qb g0 g1 kB (zeros 20)) : Calls Try.prog 12 #[.pointer (some ⟨qb, 0, none⟩), .int .i64 0, .int .i64 9] w fun e w' => e = .returned (.tuple #[.int .u16 7, .bool false]) ∧ w' = w := get_any h 0 9
theorem kknown (h : Qp w lo hi qb g0 g1 kB (zeros 20)) : Calls Try.prog 14 #[.pointer (some ⟨qb, 0, none⟩), .int .i64 0] w fun e w' => e = .returned (.int .i64 1) ∧ w' = w := known_any' h 0
set_option maxHeartbeats 1000000 in
theorem known_any (w : World) : Calls Try.prog 7 #[] w fun e w' => e = .returned (.bool true) ∧ Below w.heap.size w w' := by
  have C0 := hid_into (new_any w 20 (by decide) (by decide))
  go_enter Try.func7, Try.ntmps7
  go_wp2_with (first
    | (go_at_call 8; refine C0.out.mono ?_; rintro e w1 ⟨qb, g0, g1, rfl, hq, hb, hs⟩; replace hs := hid_into hs)
    | (go_at_call 10; have hq1 := hq; clear hq; refine (kput1 hq1).mono ?_; rintro e w2 ⟨rfl, hq2, ho2⟩; clear hq1)
    | (go_at_call 10; refine (kput2 hq2).mono ?_; rintro e w3 ⟨rfl, hq3, ho3⟩; clear hq2)
    | (go_at_call_of 12 (Value.int .i64 1); refine (kget1 hq3).mono ?_; rintro e w4 ⟨rfl, rfl⟩)
    | (go_at_call 12; refine (kget2 hq3).mono ?_; rintro e w4 ⟨rfl, rfl⟩)
    | (go_at_call 14; refine (kknown hq3).mono ?_; rintro e w4 ⟨rfl, rfl⟩))
  go_ret
  exact ⟨rfl, (hb.trans (ho2.below fun k hk => hk.1)).trans (ho3.below fun k hk => hk.1)⟩
end Go.Proofs.Ytkjoadncbfhjfaa
