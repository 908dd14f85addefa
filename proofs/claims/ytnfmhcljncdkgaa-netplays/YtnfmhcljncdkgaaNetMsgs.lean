/-
  The laws' messages, by contract.
-/
import Derived.Test.YtnfmhcljncdkgaaPlayHelp
import Derived.Test.YtnfmhcljncdkgaaRow
namespace Go.Proofs.Ytnfmhcljncdkgaa
open Go.RowKit
def msB (a1 b1 : Int) (z1 : List Int) (a2 b2 : Int) (z2 : List Int) : Bool := decide (a1 = a2 ∧ b1 = b2 ∧ z1 = z2)
set_option maxRecDepth 20000 in
set_option maxHeartbeats 2000000 in
theorem messages_any {w : World} {s1 s2 : Value} {z1 z2 : List Int} (a1 b1 a2 b2 : Int) (h1 : Bs w s1 z1) (h2 : Bs w s2 z2) :
    Calls Try.prog 17 #[.agg #[.int .i64 a1, .int .i64 b1, s1], .agg #[.int .i64 a2, .int .i64 b2, s2]] w fun e w' => e = .returned (.bool (msB a1 b1 z1 a2 b2 z2)) ∧ Below w.heap.size w w' := by
  have HS : Hid (∀ W, Below w.heap.size w W → Calls Try.prog 26 #[s1, s2] W fun e w' => e = .returned (.bool (eqB z1 z2)) ∧ Below w.heap.size w w') := fun W hb => by
    refine (same_any s1 s2 z1 z2 W (h1.below hb (Nat.le_refl _)) (h2.below hb (Nat.le_refl _))).mono ?_
    rintro e w' ⟨rfl, hs⟩
    exact ⟨rfl, hb.trans (hs.below _)⟩
  have HB : Below w.heap.size w ((w.alloc (.cells #[.int .i64 a1, .int .i64 b1, s1] 25)).alloc (.cells #[.int .i64 a2, .int .i64 b2, s2] 25)) := ((Below.refl _ _).alloc (Nat.le_refl _) _).alloc (by rw [World.size_alloc]; omega) _
  have hc := HS.out _ HB
  obtain ⟨ao, cap, rfl, _⟩ := h1.len
  obtain ⟨ao2, cap2, rfl, _⟩ := h2.len
  clear h1 h2 HS
  unfold msB
  by_cases q1 : a1 = a2
  · by_cases q2 : b1 = b2
    · rw [show decide (a1 = a2 ∧ b1 = b2 ∧ z1 = z2) = eqB z1 z2 by unfold eqB; simp [q1, q2]]
      have r1 : (a1 == a2) = true := by simp [q1]
      have r2 : (b1 == b2) = true := by simp [q2]
      clear q1 q2
      go_enter Try.func17, Try.ntmps17
      go_wp2_with (go_at_call 26; refine hc.mono ?_; rintro e w1 ⟨rfl, hb1⟩)
      go_ret
      exact ⟨rfl, hb1⟩
    · rw [decide_eq_false (fun h => q2 h.2.1)]
      have r1 : (a1 == a2) = true := by simp [q1]
      have r2 : (b1 == b2) = false := by simp [q2]
      clear q1 q2 hc
      go_enter Try.func17, Try.ntmps17
      go_wp2_with fail
      go_ret
      exact ⟨rfl, HB⟩
  · rw [decide_eq_false (fun h => q1 h.1)]
    have r1 : (a1 == a2) = false := by simp [q1]
    clear q1 hc
    go_enter Try.func17, Try.ntmps17
    go_wp2_with fail
    go_ret
    exact ⟨rfl, HB⟩
end Go.Proofs.Ytnfmhcljncdkgaa
